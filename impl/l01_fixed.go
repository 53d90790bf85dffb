package impl

import (
	"strconv"
	"strings"
)

const Scale = 1000
const MaxFix = 1000000000

// fixed is a number told in thousandths.
type fixed int

func (x fixed) ok() bool {
	return -MaxFix <= x && x <= MaxFix
}

func (x fixed) bounded() fixed {
	return max(-MaxFix, min(x, MaxFix))
}

func (x fixed) plus(y fixed) fixed {
	return (x.bounded() + y.bounded()).bounded()
}

// The product of two bounds is below 2 to the 63, so nothing wraps round.
func (x fixed) times(y fixed) fixed {
	product := x.bounded() * y.bounded()
	return fixed(floorBy(int(product), Scale)).bounded()
}

func (x fixed) by(y fixed) (fixed, bool) {
	if y == 0 {
		return 0, false
	}
	scaled := x.bounded() * Scale
	return fixed(floorBy(int(scaled), int(y.bounded()))).bounded(), true
}

func (x fixed) text() string {
	if !x.ok() {
		return ""
	}
	if x < 0 {
		return "-" + (-x).text()
	}
	// Scale ahead of the thousandths keeps their leading zeros; its 1 is cut off.
	behind := NumText(int(Scale + x%Scale))[1:]
	return NumText(int(x/Scale)) + "." + behind
}

// floorBy divides downwards, where Go's own division goes towards 0. The divisor is not 0.
func floorBy(a int, b int) int {
	quotient := a / b
	if a%b != 0 && (a < 0) != (b < 0) {
		quotient--
	}
	return quotient
}

func FixOk(x int) bool {
	return fixed(x).ok()
}

func FixAdd(a int, b int) int {
	return int(fixed(a).plus(fixed(b)))
}

func FixMul(a int, b int) int {
	return int(fixed(a).times(fixed(b)))
}

func FixDiv(a int, b int) (int, bool) {
	quotient, ok := fixed(a).by(fixed(b))
	return int(quotient), ok
}

func FixText(x int) string {
	return fixed(x).text()
}

// FixRead guesses a number from the digits alone: writing the guess anew refuses every text that is not its own.
func FixRead(s string) (int, bool) {
	guess, err := strconv.Atoi(strings.Replace(s, ".", "", 1))
	if err != nil || FixText(guess) != s {
		return 0, false
	}
	return guess, true
}

func NumText(n int) string {
	return strconv.Itoa(n)
}

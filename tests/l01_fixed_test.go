package tests

import (
	"fmt"
	"math"
	"math/big"
	"regexp"
	"strings"
	"testing"

	"loop.example/g00566/impl"
)

const top = impl.MaxFix

// edges: where a sign, a floor or a bound could go wrong, beyond the bounds too.
func edges() []int {
	return []int{
		math.MinInt, math.MinInt + 1, -top * 1000, -top - 1, -top, -top + 1, -999000001, -142857143, -1000001,
		-7000, -2500, -1001, -1000, -999, -334, -3, -2, -1, 0, 1, 2, 3, 334, 999, 1000, 1001, 2500, 7000,
		1000001, 142857143, 999000001, top - 1, top, top + 1, top * 1000, math.MaxInt - 1, math.MaxInt,
	}
}

func bounded(x int) int {
	if x > top {
		return top
	}
	if x < -top {
		return -top
	}
	return x
}

// floorOf divides by numbers of any size, so that it shares no wrap-round with the program.
func floorOf(a *big.Int, b *big.Int) int {
	if b.Sign() < 0 {
		a, b = new(big.Int).Neg(a), new(big.Int).Neg(b)
	}
	q := new(big.Int).Div(a, b)
	if q.CmpAbs(big.NewInt(top)) > 0 {
		return q.Sign() * top
	}
	return int(q.Int64())
}

func product(a int, b int) *big.Int {
	return new(big.Int).Mul(big.NewInt(int64(a)), big.NewInt(int64(b)))
}

func TestFixConstants(t *testing.T) {
	if impl.Scale != 1000 || impl.MaxFix != 1000000000 {
		t.Fatal(impl.Scale, impl.MaxFix)
	}
}

func TestFixOk(t *testing.T) {
	for _, x := range edges() {
		if got, want := impl.FixOk(x), x == bounded(x); got != want {
			t.Errorf("FixOk(%d) = %v", x, got)
		}
	}
}

func TestFixAdd(t *testing.T) {
	for _, c := range [][3]int{
		{1, 2, 3}, {-1, 1, 0}, {1500, -2500, -1000}, {0, 0, 0},
		{top - 1, 1, top}, {top, 1, top}, {top - 1, 2, top}, {top, top, top},
		{-top + 1, -1, -top}, {-top, -1, -top}, {-top + 1, -2, -top}, {-top, -top, -top},
		{top + 1, -1, top - 1}, {-top - 1, 1, -top + 1}, {top + 1, -top - 1, 0},
		{math.MaxInt, -1, top - 1}, {math.MinInt, 1, -top + 1},
		{math.MaxInt, math.MaxInt, top}, {math.MinInt, math.MinInt, -top}, {math.MinInt, math.MaxInt, 0},
	} {
		if got := impl.FixAdd(c[0], c[1]); got != c[2] {
			t.Errorf("FixAdd(%d, %d) = %d, not %d", c[0], c[1], got, c[2])
		}
	}
}

func TestFixMul(t *testing.T) {
	for _, c := range [][3]int{
		{1500, 2500, 3750}, {1000, 7, 7}, {0, 5, 0}, {0, math.MinInt, 0},
		{1, 1, 0}, {-1, 1, -1}, {-1, -1, 0}, {-1500, 1, -2}, {-1500, 3, -5}, {-1500, -3, 4}, {-1000, 1, -1}, {-1, 999, -1}, {-1, 1001, -2},
		{top, 1000, top}, {top, 999, 999000000}, {top, 1001, top}, {-top, 1000, -top}, {-top, 999, -999000000}, {-top, 1001, -top},
		{7000, 142857143, top}, {-7000, 142857143, -top}, {7000, 142857142, 999999994},
		{top, top, top}, {top, -top, -top}, {-top, -top, top},
		{top + 1, 1, 1000000}, {top + 1, 999, 999000000}, {-top - 1, 1, -1000000},
		{math.MaxInt, 1, 1000000}, {math.MinInt, 1, -1000000}, {math.MinInt, -1, 1000000},
		{math.MaxInt, math.MaxInt, top}, {math.MaxInt, math.MinInt, -top}, {math.MinInt, math.MinInt, top},
	} {
		if got := impl.FixMul(c[0], c[1]); got != c[2] {
			t.Errorf("FixMul(%d, %d) = %d, not %d", c[0], c[1], got, c[2])
		}
	}
}

func TestFixDiv(t *testing.T) {
	for _, c := range [][3]int{
		{1000, 3000, 333}, {-1000, 3000, -334}, {1000, -3000, -334}, {-1000, -3000, 333},
		{6000, 2000, 3000}, {-6000, 2000, -3000}, {6000, -2000, -3000}, {0, 7, 0}, {0, -7, 0},
		{-1, top, -1}, {1, -top, -1}, {1, top, 0}, {-1, -top, 0},
		{top, 1000, top}, {top, 999, top}, {top, 1001, 999000999}, {-top, 1000, -top}, {-top, 999, -top}, {-top, 1001, -999001000},
		{999000000, 999, top}, {999000001, 999, top}, {-999000000, 999, -top}, {-999000001, 999, -top},
		{top, 1, top}, {top, -1, -top}, {-top, 1, -top}, {-top, -1, top},
		{top + 1, 2000, 500000000}, {-top - 1, 2000, -500000000}, {top, top + 1, 1000}, {top, -top - 1, -1000},
		{math.MaxInt, 2000, 500000000}, {math.MinInt, 2000, -500000000}, {math.MinInt, -1, top},
		{math.MaxInt, math.MaxInt, 1000}, {math.MinInt, math.MinInt, 1000}, {math.MaxInt, math.MinInt, -1000},
		{1000, math.MaxInt, 0}, {-1000, math.MaxInt, -1}, {1000, math.MinInt, -1}, {-1000, math.MinInt, 0},
	} {
		if got, ok := impl.FixDiv(c[0], c[1]); got != c[2] || !ok {
			t.Errorf("FixDiv(%d, %d) = %d, %v, not %d", c[0], c[1], got, ok, c[2])
		}
	}
	for _, a := range edges() {
		if got, ok := impl.FixDiv(a, 0); got != 0 || ok {
			t.Errorf("FixDiv(%d, 0) = %d, %v", a, got, ok)
		}
	}
}

func TestFixArithmeticOfEdges(t *testing.T) {
	for _, a := range edges() {
		for _, b := range edges() {
			x, y := bounded(a), bounded(b)
			if got := impl.FixAdd(a, b); got != bounded(x+y) || got != impl.FixAdd(b, a) {
				t.Errorf("FixAdd(%d, %d) = %d", a, b, got)
			}
			want := floorOf(product(x, y), big.NewInt(impl.Scale))
			if got := impl.FixMul(a, b); got != want || got != impl.FixMul(b, a) {
				t.Errorf("FixMul(%d, %d) = %d, not %d", a, b, got, want)
			}
			if b == 0 {
				continue
			}
			want = floorOf(product(x, impl.Scale), big.NewInt(int64(y)))
			if got, ok := impl.FixDiv(a, b); got != want || !ok {
				t.Errorf("FixDiv(%d, %d) = %d, %v, not %d", a, b, got, ok, want)
			}
		}
	}
}

func TestFixFloorsNearZero(t *testing.T) {
	for a := -60; a <= 60; a++ {
		for b := -2100; b <= 2100; b += 7 {
			want := floorOf(product(a, b), big.NewInt(impl.Scale))
			if got := impl.FixMul(a, b); got != want {
				t.Fatalf("FixMul(%d, %d) = %d, not %d", a, b, got, want)
			}
			if b == 0 {
				continue
			}
			want = floorOf(product(a, impl.Scale), big.NewInt(int64(b)))
			if got, ok := impl.FixDiv(a, b); got != want || !ok {
				t.Fatalf("FixDiv(%d, %d) = %d, %v, not %d", a, b, got, ok, want)
			}
		}
	}
}

func TestFixText(t *testing.T) {
	for x, want := range map[int]string{
		0: "0.000", 7: "0.007", -7: "-0.007", 70: "0.070", 700: "0.700", 999: "0.999", -999: "-0.999",
		1000: "1.000", -1000: "-1.000", 1001: "1.001", -1050: "-1.050", 10000: "10.000", 123456789: "123456.789",
		top - 1: "999999.999", top: "1000000.000", -top + 1: "-999999.999", -top: "-1000000.000",
		top + 1: "", -top - 1: "", math.MaxInt: "", math.MinInt: "", math.MinInt + 1: "",
	} {
		if got := impl.FixText(x); got != want {
			t.Errorf("FixText(%d) = %q, not %q", x, got, want)
		}
	}
}

func TestFixReadOfTexts(t *testing.T) {
	checkBack := func(x int) {
		if got, ok := impl.FixRead(impl.FixText(x)); got != x || !ok {
			t.Fatalf("FixRead(FixText(%d)) = %d, %v", x, got, ok)
		}
	}
	for i := range 20001 {
		checkBack(i)
		checkBack(-i)
		checkBack(top - i)
		checkBack(i - top)
	}
	for x := -top; x <= top; x += 99991 {
		checkBack(x)
	}
	for s, want := range map[string]int{
		"0.000": 0, "0.001": 1, "-0.001": -1, "-1.050": -1050, "12.340": 12340, "1000000.000": top, "-1000000.000": -top,
	} {
		if got, ok := impl.FixRead(s); got != want || !ok {
			t.Errorf("FixRead(%q) = %d, %v, not %d", s, got, ok, want)
		}
	}
}

func TestFixReadOfNoTexts(t *testing.T) {
	for _, s := range []string{
		"", "-", ".", "-.", "0", "5", "-5", "1000", "0.", "0.0", "0.00", "0.0000", "1.05", "1.0500", ".000", ".005", "-.005",
		"-0.000", "+0.000", "+1.000", "--1.000", "-+1.000", "1.000-", "1.-00", "1.+00", "-1.-00",
		"00.000", "01.000", "-01.000", "00.001", "-00.001", "001.000",
		" 1.000", "1.000 ", "1 .000", "\t1.000", "1.000\n", "1.000\x00", "\x001.000",
		"1,000", "1,000.000", "1_000.000", "1_0.000", "1..000", "1.0.00", "1.00.0", "10.00", "1.000.", ".1.000",
		"a", "1.00a", "a.000", "0x1.000", "1e3.000", "1.0e3", "Inf", "NaN", "\u0661.000", "1.00\u0660", "\uff11.000", "\u22121.000",
		"1000000.001", "-1000000.001", "1000001.000", "10000000.000", "-10000000.000", "9223372036854775.807", "-9223372036854775.808",
		"9223372036854775.808", "18446744073709551.616", "18446744073709552.616", "18446744073709551616.000", strings.Repeat("9", 5000) + ".000", strings.Repeat("0", 5000) + ".001",
	} {
		if got, ok := impl.FixRead(s); got != 0 || ok {
			t.Errorf("FixRead(%.40q) = %d, %v", s, got, ok)
		}
	}
}

var fixForm = regexp.MustCompile(`\A-?(0|[1-9][0-9]{0,5})\.[0-9]{3}\z`)

// isFixText says by the form alone whether there is a FixOk number with this text.
func isFixText(s string) bool {
	return fixForm.MatchString(s) && s != "-0.000" || s == "1000000.000" || s == "-1000000.000"
}

func TestFixReadOfTurnedTexts(t *testing.T) {
	check := func(s string) {
		x, ok := impl.FixRead(s)
		if ok != isFixText(s) || ok && impl.FixText(x) != s || !ok && x != 0 {
			t.Fatalf("FixRead(%q) = %d, %v", s, x, ok)
		}
	}
	for _, s := range []string{"0.000", "-0.007", "1.050", "-1.000", "12.345", "999999.999", "1000000.000", "-1000000.000"} {
		for i := range len(s) {
			check(s[:i])
			check(s[:i] + s[i+1:])
			for b := range 256 {
				check(s[:i] + string([]byte{byte(b)}) + s[i+1:])
				check(s[:i] + string([]byte{byte(b)}) + s[i:])
				check(s + string([]byte{byte(b)}))
			}
		}
	}
}

func TestNumText(t *testing.T) {
	for n, want := range map[int]string{
		0: "0", 7: "7", -7: "-7", 10: "10", -40: "-40", 1000: "1000", top: "1000000000", top + 1: "1000000001", -top - 1: "-1000000001",
		math.MaxInt: "9223372036854775807", math.MinInt: "-9223372036854775808", math.MinInt + 1: "-9223372036854775807",
	} {
		if got := impl.NumText(n); got != want {
			t.Errorf("NumText(%d) = %q, not %q", n, got, want)
		}
	}
	for n := -2000; n <= 2000; n++ {
		if got := impl.NumText(n); got != fmt.Sprint(n) {
			t.Fatalf("NumText(%d) = %q", n, got)
		}
	}
}

package tests

import (
	"math"
	"slices"
	"testing"

	"loop.example/g00566/impl"
)

const mostBorders = impl.MaxBorders

// goodMosts: every most that BordersOf takes.
func goodMosts() []int {
	return counted(mostBorders + 1)
}

func noMosts() []int {
	return []int{-1, -2, -mostBorders, math.MinInt, mostBorders + 1, mostBorders + 2, 1000, math.MaxInt - 1, math.MaxInt}
}

// bordersAsTold sorts nothing: a number is a border where as many different ones as the chapter's place says are not greater.
func bordersAsTold(list []int, most int) []int {
	different := dictOfNumbers(list)
	m := len(different)
	wanted := map[int]bool{}
	for j := 1; j <= most && m-1 > most; j++ {
		place := 0
		for (place+1)*(most+1) <= j*m {
			place++
		}
		wanted[place] = true
	}
	for place := 1; place < m && m-1 <= most; place++ {
		wanted[place] = true
	}
	borders := make([]int, len(wanted))
	for _, x := range different {
		if place := notGreater(different, x); wanted[place] {
			borders[countBelow(wanted, place)] = x
		}
	}
	return borders
}

func notGreater(list []int, x int) int {
	count := 0
	for _, y := range list {
		if y <= x {
			count++
		}
	}
	return count
}

func dictOfNumbers(list []int) []int {
	seen := map[int]bool{}
	var different []int
	for _, x := range list {
		if !seen[x] {
			different = append(different, x)
		}
		seen[x] = true
	}
	return different
}

func countBelow(places map[int]bool, place int) int {
	count := 0
	for p := range places {
		if p < place {
			count++
		}
	}
	return count
}

// binAsTold looks for the first that is not less, once they are sorted.
func binAsTold(b []int, x int) int {
	bin, _ := slices.BinarySearch(slices.Sorted(slices.Values(b)), x)
	return bin
}

// spaced: n different numbers in rising order, below 0 and above it.
func spaced(n int) []int {
	list := make([]int, n)
	for i := range list {
		list[i] = 7*i - 3*n + i%3
	}
	return list
}

// arranged: the list as it comes, the other way round, mixed, and with some numbers several times.
func arranged(list []int) [][]int {
	down := slices.Clone(list)
	slices.Reverse(down)
	mixed, seed := slices.Clone(list), 1+len(list)
	for i := len(mixed) - 1; i > 0; i-- {
		var j int
		j, seed = impl.Below(seed, i+1)
		mixed[i], mixed[j] = mixed[j], mixed[i]
	}
	doubled := append(slices.Clone(mixed), down...)
	if len(doubled) > 1000 {
		doubled = mixed
	}
	return [][]int{list, down, mixed, doubled}
}

// numberLists: lists that BordersOf takes, at the edges of how many there are and how many of them differ, and by chance.
func numberLists() [][]int {
	list := [][]int{
		nil, {}, {0}, {-1}, {top}, {-top}, {5, 5}, {-5, -5, -5}, {5, 6}, {6, 5}, {-1, 0, 1}, {1, -1, 0}, {top, -top}, {-top, top, 0, top, -top}, {top, top - 1, -top, -top + 1},
		{3000, 1000, 2000, 1000}, {10, 9, 100, -10, -9, -100}, make([]int, 999), make([]int, 1000), slices.Repeat([]int{4, -4}, 500), slices.Repeat([]int{3, 1, 2, 0}, 250),
	}
	for n := 1; n <= mostBorders+6; n++ {
		list = append(list, arranged(spaced(n))...)
	}
	for _, n := range []int{25, 26, 27, 38, 39, 40, 64, 100, 500, 999, 1000} {
		list = append(list, arranged(spaced(n))...)
	}
	for turn := range 60 {
		list = append(list, drawnNumbers(1+turn*31, turn*17%1001, 1+turn*turn))
	}
	return list
}

// drawnNumbers: n numbers, of at most span different ones; all hangs on the seed.
func drawnNumbers(seed int, n int, span int) []int {
	list := make([]int, n)
	for i := range list {
		var x int
		x, seed = impl.Below(seed, span)
		list[i] = x - span/2
	}
	return list
}

func TestMaxBorders(t *testing.T) {
	if impl.MaxBorders != 12 {
		t.Fatal(impl.MaxBorders)
	}
}

// TestBordersOf: worked out by hand from the chapter's words.
func TestBordersOf(t *testing.T) {
	ten := []int{100, 10, 90, 20, 80, 30, 70, 40, 60, 50}
	for _, c := range []struct {
		list []int
		most int
		want []int
	}{
		// Few numbers.
		{nil, 0, nil}, {nil, 1, nil}, {nil, 12, nil}, {[]int{}, 5, nil}, {[]int{7}, 0, nil}, {[]int{7}, 1, nil}, {[]int{-7}, 12, nil}, {[]int{7, 7}, 0, nil}, {[]int{7, 7}, 1, nil}, {[]int{7, 7, 7}, 12, nil},
		{[]int{7, 8}, 0, nil}, {[]int{7, 8}, 1, []int{7}}, {[]int{8, 7}, 1, []int{7}}, {[]int{8, 7}, 12, []int{7}}, {[]int{8, 7, 8, 7, 7}, 1, []int{7}}, {[]int{-8, -7}, 2, []int{-8}},
		// Three: as many as most and 1, more by one, by two.
		{[]int{3, 1, 2}, 2, []int{1, 2}}, {[]int{3, 1, 2}, 1, []int{1}}, {[]int{3, 1, 2}, 0, nil}, {[]int{3, 1, 2}, 3, []int{1, 2}}, {[]int{3, 1, 2, 2, 3, 1}, 2, []int{1, 2}},
		// Four: 4 by 2 is 2; 4 and 8 by 3 are 1 and 2.
		{[]int{4, 3, 2, 1}, 1, []int{2}}, {[]int{4, 3, 2, 1}, 2, []int{1, 2}}, {[]int{4, 3, 2, 1}, 3, []int{1, 2, 3}},
		// Five: 5 by 2 is 2; 5 and 10 by 3 are 1 and 3; 5, 10, 15 by 4 are 1, 2, 3.
		{[]int{5, 1, 4, 2, 3}, 1, []int{2}}, {[]int{5, 1, 4, 2, 3}, 2, []int{1, 3}}, {[]int{5, 1, 4, 2, 3}, 3, []int{1, 2, 3}}, {[]int{5, 1, 4, 2, 3}, 4, []int{1, 2, 3, 4}},
		// Ten.
		{ten, 0, nil}, {ten, 1, []int{50}}, {ten, 2, []int{30, 60}}, {ten, 3, []int{20, 50, 70}}, {ten, 4, []int{20, 40, 60, 80}}, {ten, 5, []int{10, 30, 50, 60, 80}},
		{ten, 7, []int{10, 20, 30, 50, 60, 70, 80}}, {ten, 8, []int{10, 20, 30, 40, 50, 60, 70, 80}}, {ten, 9, []int{10, 20, 30, 40, 50, 60, 70, 80, 90}}, {ten, 12, []int{10, 20, 30, 40, 50, 60, 70, 80, 90}},
		// Those that are alike count once.
		{[]int{1, 1, 1, 1, 1, 1, 2, 3}, 1, []int{1}}, {[]int{1, 1, 1, 1, 1, 1, 2, 3, 4}, 1, []int{2}},
		// The bounds, and numbers below 0.
		{[]int{top, -top}, 1, []int{-top}}, {[]int{top, -top, 0}, 1, []int{-top}}, {[]int{top, -top, 0}, 2, []int{-top, 0}}, {[]int{top, top - 1}, 12, []int{top - 1}}, {[]int{-1, -10, -100, -1000}, 1, []int{-100}}, {[]int{-1, 1, 0, -2}, 2, []int{-2, -1}},
		// 14 with 12: 14 times j by 13 is j, up to 12, so that the place 13 falls out. 15 with 12: 15 times 6 by 13 is 6, times 7 it is 8.
		{counted(14), 12, counted(12)}, {counted(13), 12, counted(12)}, {counted(12), 12, counted(11)}, {counted(15), 12, []int{0, 1, 2, 3, 4, 5, 7, 8, 9, 10, 11, 12}}, {counted(26), 12, []int{1, 3, 5, 7, 9, 11, 13, 15, 17, 19, 21, 23}},
		{counted(1000), 1, []int{499}}, {counted(1000), 3, []int{249, 499, 749}}, {counted(1000), 12, []int{75, 152, 229, 306, 383, 460, 537, 614, 691, 768, 845, 922}},
	} {
		for _, list := range [][]int{c.list, reversed(c.list)} {
			if got := impl.BordersOf(list, c.most); !slices.Equal(got, c.want) {
				t.Errorf("BordersOf(%v, %d) = %v, not %v", list, c.most, got, c.want)
			}
		}
	}
}

func reversed(list []int) []int {
	list = slices.Clone(list)
	slices.Reverse(list)
	return list
}

// bordersFit: what is so of the borders of every list.
func bordersFit(borders []int, list []int, most int) bool {
	for i, border := range borders {
		if !slices.Contains(list, border) || border == slices.Max(list) || i > 0 && borders[i-1] >= border {
			return false
		}
	}
	different := len(dictOfNumbers(list))
	return len(borders) == max(0, min(most, different-1)) && impl.BordersOk(borders)
}

func TestBordersAsTold(t *testing.T) {
	for _, list := range numberLists() {
		for _, most := range goodMosts() {
			got, want := impl.BordersOf(list, most), bordersAsTold(list, most)
			if !slices.Equal(got, want) || !bordersFit(got, list, most) {
				t.Fatalf("BordersOf(%v, %d) = %v, not %v", list, most, got, want)
			}
		}
	}
}

// eachShortList goes through all lists of up to four numbers out of five.
func eachShortList(look func(list []int)) {
	of := []int{-top, -1, 0, 1, top}
	var fill func(list []int)
	fill = func(list []int) {
		look(list)
		for _, x := range of {
			if len(list) < 4 {
				fill(append(slices.Clone(list), x))
			}
		}
	}
	fill(nil)
}

func TestBordersOfAllShortLists(t *testing.T) {
	eachShortList(func(list []int) {
		for _, most := range []int{0, 1, 2, 3, 4, mostBorders} {
			if got, want := impl.BordersOf(list, most), bordersAsTold(list, most); !slices.Equal(got, want) || !bordersFit(got, list, most) {
				t.Fatalf("BordersOf(%v, %d) = %v, not %v", list, most, got, want)
			}
		}
	})
}

// TestBordersHangOnNoOrder: the same numbers in another order, or more often, have the same borders.
func TestBordersHangOnNoOrder(t *testing.T) {
	for _, n := range []int{1, 2, 3, 12, 13, 14, 15, 40, 500} {
		for _, most := range goodMosts() {
			want := impl.BordersOf(spaced(n), most)
			for _, list := range arranged(spaced(n)) {
				if got := impl.BordersOf(list, most); !slices.Equal(got, want) {
					t.Fatalf("BordersOf(%v, %d) = %v, but %v in rising order", list, most, got, want)
				}
			}
		}
	}
}

func TestBordersOfWrongMosts(t *testing.T) {
	for _, most := range noMosts() {
		for _, list := range numberLists() {
			if got := impl.BordersOf(list, most); len(got) != 0 {
				t.Fatalf("BordersOf(%v, %d) = %v", list, most, got)
			}
		}
	}
}

// TestBordersOfTooManyNumbers: they are counted as they come, not the different ones alone.
func TestBordersOfTooManyNumbers(t *testing.T) {
	for _, n := range []int{1001, 1002, 2000, 5000} {
		for _, list := range [][]int{spaced(n), reversed(spaced(n)), slices.Repeat([]int{1, 2, 3}, n)[:n], append(make([]int, n-1), 1)} {
			for _, most := range goodMosts() {
				if got := impl.BordersOf(list, most); len(got) != 0 {
					t.Fatalf("BordersOf of %d numbers, %d: %v", n, most, got)
				}
			}
		}
	}
	for _, list := range [][]int{slices.Repeat([]int{1, 2}, 500), append(make([]int, 998), 1, -1)} {
		if got := impl.BordersOf(list, mostBorders); len(got) != len(dictOfNumbers(list))-1 {
			t.Errorf("BordersOf of 1000 numbers: %v", got)
		}
	}
}

// TestBordersOfWrongNumbers puts the wrong one at each place among right ones.
func TestBordersOfWrongNumbers(t *testing.T) {
	for _, wrong := range noNumbers() {
		for _, n := range []int{1, 2, 3, 13, 14, 40} {
			for at := range n {
				list := spaced(n)
				list[at] = wrong
				for _, most := range goodMosts() {
					if got := impl.BordersOf(list, most); len(got) != 0 {
						t.Fatalf("BordersOf(%v, %d) = %v", list, most, got)
					}
				}
			}
		}
		if got := impl.BordersOf([]int{1, wrong, 2, wrong}, 1); len(got) != 0 {
			t.Errorf("BordersOf with %d twice: %v", wrong, got)
		}
	}
}

func TestBordersOk(t *testing.T) {
	for _, b := range [][]int{
		nil, {}, {0}, {-1}, {top}, {-top}, {1, 2}, {-2, -1}, {-1, 1}, {-top, top}, {-top, -top + 1, 0, top - 1, top}, spaced(11), spaced(12), counted(12),
	} {
		if !impl.BordersOk(b) {
			t.Errorf("BordersOk(%v) is false", b)
		}
	}
	for _, b := range [][]int{
		{2, 2}, {0, 0}, {2, 1}, {-1, -2}, {1, -1}, {top, -top}, {1, 2, 2}, {1, 1, 2}, {1, 2, 1}, {1, 3, 2}, {2, 1, 3}, {3, 2, 1}, {1, 2, 3, 3}, {1, 2, 3, 0}, {1, 2, 1, 2}, {-top, -top}, {top, top},
		spaced(13), spaced(14), counted(13), counted(1000), make([]int, 12), make([]int, 13), reversed(spaced(12)), reversed(spaced(13)),
	} {
		if impl.BordersOk(b) {
			t.Errorf("BordersOk(%v) is true", b)
		}
	}
}

// TestBordersOkOfOneChange: of twelve that rise, one made equal to the next, two changed about, or one beyond the bounds.
func TestBordersOkOfOneChange(t *testing.T) {
	for at := range mostBorders - 1 {
		alike, changed := spaced(mostBorders), spaced(mostBorders)
		alike[at] = alike[at+1]
		changed[at], changed[at+1] = changed[at+1], changed[at]
		if impl.BordersOk(alike) || impl.BordersOk(changed) {
			t.Errorf("BordersOk(%v), BordersOk(%v)", alike, changed)
		}
	}
	for _, wrong := range noNumbers() {
		for n := 1; n <= mostBorders; n++ {
			for at := range n {
				b := spaced(n)
				b[at] = wrong
				if impl.BordersOk(b) {
					t.Errorf("BordersOk(%v) is true", b)
				}
			}
			// Where it breaks no rising.
			b := spaced(n)
			if wrong < 0 {
				b[0] = wrong
			} else {
				b[n-1] = wrong
			}
			if impl.BordersOk(b) {
				t.Errorf("BordersOk(%v) is true", b)
			}
		}
	}
}

func TestBinOf(t *testing.T) {
	for _, c := range []struct {
		b    []int
		x    int
		want int
	}{
		{nil, 0, 0}, {nil, top, 0}, {nil, math.MaxInt, 0}, {[]int{}, math.MinInt, 0}, {[]int{10}, 9, 0}, {[]int{10}, 10, 0}, {[]int{10}, 11, 1}, {[]int{-10}, -11, 0}, {[]int{-10}, -10, 0}, {[]int{-10}, -9, 1},
		{[]int{10, 20, 30}, 5, 0}, {[]int{10, 20, 30}, 15, 1}, {[]int{10, 20, 30}, 20, 1}, {[]int{10, 20, 30}, 21, 2}, {[]int{10, 20, 30}, 30, 2}, {[]int{10, 20, 30}, 31, 3}, {[]int{10, 20, 30}, math.MaxInt, 3}, {[]int{10, 20, 30}, math.MinInt, 0},
		{[]int{-top, top}, -top - 1, 0}, {[]int{-top, top}, -top, 0}, {[]int{-top, top}, -top + 1, 1}, {[]int{-top, top}, top, 1}, {[]int{-top, top}, top + 1, 2},
		// Not BordersOk: falling, alike, mixed, beyond the bounds, more than MaxBorders.
		{[]int{30, 20, 10}, 25, 2}, {[]int{30, 20, 10}, 10, 0}, {[]int{5, 5, 5}, 5, 0}, {[]int{5, 5, 5}, 6, 3}, {[]int{9, 1, 8, 2}, 8, 2}, {[]int{9, 1, 8, 2}, 9, 3}, {[]int{1, 100, 2}, 3, 2},
		{[]int{math.MinInt, math.MaxInt}, math.MinInt, 0}, {[]int{math.MinInt, math.MaxInt}, 0, 1}, {[]int{math.MinInt, math.MaxInt}, math.MaxInt, 1}, {[]int{math.MaxInt, math.MinInt}, math.MinInt + 1, 1}, {[]int{top + 1}, top + 2, 1}, {[]int{-top - 1}, 0, 1},
		{counted(13), 12, 12}, {counted(13), 13, 13}, {counted(1000), 999, 999}, {counted(1000), 5000, 1000}, {make([]int, 2000), 1, 2000}, {make([]int, 2000), 0, 0},
	} {
		if got := impl.BinOf(c.b, c.x); got != c.want {
			t.Errorf("BinOf(%v, %d) = %d, not %d", c.b, c.x, got, c.want)
		}
	}
}

// noBorders: lists that are not BordersOk, which are counted all the same.
func noBorders() [][]int {
	return [][]int{
		{2, 2}, {3, 2, 1}, {5, -5, 5, -5, 0}, {math.MaxInt, 0, math.MinInt}, {top + 1, -top - 1}, {0, 0, 0, 0}, reversed(spaced(12)), spaced(13), reversed(spaced(40)), make([]int, 100), edges(), reversed(edges()),
	}
}

// about: each number, and those just below and just beyond it, where an int has room.
func about(list []int) []int {
	all := edges()
	for _, x := range list {
		all = append(all, x, max(x, math.MinInt+1)-1, min(x, math.MaxInt-1)+1)
	}
	return all
}

func someBorders() [][]int {
	list := noBorders()
	for _, numbers := range numberLists() {
		for _, most := range []int{0, 1, 2, 5, 11, mostBorders} {
			list = append(list, impl.BordersOf(numbers, most))
		}
	}
	return list
}

func TestBinsAsTold(t *testing.T) {
	for _, b := range someBorders() {
		list := about(b)
		bins := impl.BinsOf(b, list)
		if len(bins) != len(list) {
			t.Fatalf("BinsOf(%v, %v) = %v", b, list, bins)
		}
		for i, x := range list {
			if got, want := impl.BinOf(b, x), binAsTold(b, x); got != want || bins[i] != want {
				t.Fatalf("of %v, %d: BinOf %d, BinsOf %d, not %d", b, x, got, bins[i], want)
			}
		}
	}
}

// TestBinsAtBorders: a border is in the bin that it ends, and what is beyond it in the next one.
func TestBinsAtBorders(t *testing.T) {
	for _, numbers := range numberLists() {
		for _, most := range goodMosts() {
			b := impl.BordersOf(numbers, most)
			for i, border := range b {
				if at, beyond := impl.BinOf(b, border), impl.BinOf(b, border+1); at != i || beyond != i+1 || impl.BinOf(b, border-1) > i {
					t.Fatalf("BinOf(%v, %d) = %d, just beyond it %d", b, border, at, beyond)
				}
			}
			if len(numbers) > 0 && (impl.BinOf(b, slices.Min(numbers)) != 0 || impl.BinOf(b, slices.Max(numbers)) != len(b)) {
				t.Fatalf("the least and the greatest of %v in %v", numbers, b)
			}
		}
	}
}

// TestGreaterNumbersAreInNoLesserBin is promise 5, of borders that are none too.
func TestGreaterNumbersAreInNoLesserBin(t *testing.T) {
	for _, b := range someBorders() {
		list := about(b)
		slices.Sort(list)
		bins := impl.BinsOf(b, list)
		for i := 1; i < len(list); i++ {
			if bins[i] < bins[i-1] || impl.BinOf(b, list[i]) < impl.BinOf(b, list[i-1]) || list[i] == list[i-1] && bins[i] != bins[i-1] {
				t.Fatalf("of %v: %d is in bin %d, %d in bin %d", b, list[i-1], bins[i-1], list[i], bins[i])
			}
		}
		if len(bins) == 0 || bins[0] < 0 || bins[len(bins)-1] > len(b) {
			t.Fatalf("of %v: bins %v", b, bins)
		}
	}
}

// TestBinsTellNumbersApart keeps promise 5 from being met by bins that are all the same: with few numbers, each has a bin of its own.
func TestBinsTellNumbersApart(t *testing.T) {
	for n := 1; n <= mostBorders+1; n++ {
		for _, list := range arranged(spaced(n)) {
			b := impl.BordersOf(list, mostBorders)
			for i, bin := range impl.BinsOf(b, list) {
				if spaced(n)[bin] != list[i] {
					t.Fatalf("of %v the number %d is in bin %d", list, list[i], bin)
				}
			}
		}
	}
	// With many, no bin of 0 .. most stays empty.
	for _, n := range []int{14, 15, 40, 999, 1000} {
		for _, most := range goodMosts() {
			bins := impl.BinsOf(impl.BordersOf(spaced(n), most), spaced(n))
			if got := dictOfNumbers(bins); !slices.Equal(got, counted(most+1)) {
				t.Fatalf("%d numbers with %d borders are in bins %v", n, most, got)
			}
		}
	}
}

func TestBinsOf(t *testing.T) {
	for _, c := range []struct{ b, list, want []int }{
		{nil, nil, nil}, {[]int{1}, nil, nil}, {[]int{1}, []int{}, nil}, {nil, []int{5}, []int{0}}, {nil, []int{math.MaxInt, math.MinInt, 0}, []int{0, 0, 0}},
		{[]int{1000, 2000}, []int{1000, 1001, 5000}, []int{0, 1, 2}}, {[]int{1000, 2000}, []int{5000, 1001, 1000, 5000}, []int{2, 1, 0, 2}}, {[]int{2000, 1000}, []int{1500, 999, 2001}, []int{1, 0, 2}},
		{[]int{-1, 0}, []int{math.MinInt, -1, 0, 1, math.MaxInt}, []int{0, 0, 1, 2, 2}}, {[]int{0}, slices.Repeat([]int{1}, 3000), slices.Repeat([]int{1}, 3000)},
	} {
		if got := impl.BinsOf(c.b, c.list); !slices.Equal(got, c.want) {
			t.Errorf("BinsOf(%v, %v) = %v, not %v", c.b, c.list, got, c.want)
		}
	}
}

// TestBordersReadNothingBehindTheEnd: the room behind holds numbers that would be seen in each answer.
func TestBordersReadNothingBehindTheEnd(t *testing.T) {
	room := []int{5, 6, 4, math.MaxInt, 0}
	if got := impl.BordersOf(room[:3], 12); !slices.Equal(got, []int{4, 5}) {
		t.Error(got)
	}
	if got := impl.BordersOf(room[:0], 12); len(got) != 0 {
		t.Error(got)
	}
	if !impl.BordersOk(room[:2]) || !impl.BordersOk(room[:0]) {
		t.Error("borders with room behind are refused")
	}
	if got := impl.BinOf(room[:2], 100); got != 2 {
		t.Error(got)
	}
	if got := impl.BinsOf(room[:1], room[:2]); !slices.Equal(got, []int{0, 1}) {
		t.Error(got)
	}
}

func TestNumbersStayAsTheyWere(t *testing.T) {
	wrong := [][]int{append(spaced(3), top+1), reversed(spaced(1001)), {3, math.MinInt, 1}}
	for _, list := range append(wrong, numberLists()...) {
		for _, most := range []int{-1, 0, 1, 2, mostBorders, mostBorders + 1} {
			handed := inRoom(list)
			borders := impl.BordersOf(handed, most)
			want := slices.Clone(borders)
			wipe(borders)
			impl.BordersOk(handed)
			if !roomKept(handed, list) {
				t.Fatalf("%v was written into: %v", list, handed)
			}
			borders = impl.BordersOf(handed, most)
			wipe(handed)
			if !slices.Equal(borders, want) {
				t.Fatalf("the borders of %v were written through what was handed in: %v", list, borders)
			}
		}
	}
}

func TestBinsStayAsTheyWere(t *testing.T) {
	for _, b := range someBorders() {
		list := about(b)
		borders, handed := inRoom(b), inRoom(list)
		bins := impl.BinsOf(borders, handed)
		want := slices.Clone(bins)
		impl.BinOf(borders, 0)
		impl.BordersOk(borders)
		wipe(bins)
		if !roomKept(borders, b) || !roomKept(handed, list) {
			t.Fatalf("%v or %v was written into: %v, %v", b, list, borders, handed)
		}
		bins = impl.BinsOf(borders, handed)
		wipe(borders)
		wipe(handed)
		if !slices.Equal(bins, want) {
			t.Fatalf("the bins of %v were written through what was handed in: %v", list, bins)
		}
	}
	// One list as both.
	both := []int{3, 1, 2}
	if got := impl.BinsOf(both, both); !slices.Equal(got, []int{2, 0, 1}) || !slices.Equal(both, []int{3, 1, 2}) {
		t.Error(got, both)
	}
}

// TestBordersAskedAcross: no call keeps anything for another one.
func TestBordersAskedAcross(t *testing.T) {
	first, second := spaced(40), reversed(spaced(13))
	want, other := impl.BordersOf(first, 5), impl.BordersOf(second, 12)
	for range 3 {
		impl.BinsOf(want, second)
		if got, again := impl.BordersOf(first, 5), impl.BordersOf(second, 12); !slices.Equal(got, want) || !slices.Equal(again, other) {
			t.Fatal(got, again)
		}
	}
}

package tests

import (
	"math"
	"math/big"
	"slices"
	"testing"

	"loop.example/g00566/impl"
)

const lastSeed = impl.MaxSeed - 1

// noSeeds: numbers that are taken for 1.
func noSeeds() []int {
	return []int{
		math.MinInt, math.MinInt + 1, -impl.MaxSeed - 1, -impl.MaxSeed, -lastSeed, -48271, -2, -1, 0,
		impl.MaxSeed, impl.MaxSeed + 1, impl.MaxSeed + 2, 2 * impl.MaxSeed, 2*impl.MaxSeed + 5, 1 << 32, 1<<32 + 7, math.MaxInt - 1, math.MaxInt,
	}
}

func someSeeds() []int {
	return []int{1, 2, 3, 7, 1000, 44488, 44489, 48271, 182605794, 1 << 30, 1<<30 + 1, 2000000000, lastSeed - 1, lastSeed}
}

// seedAfter and seedAhead go by numbers of any size, so that they share no wrap-round with the program.
func seedAfter(seed int) int {
	return seedTimes(seed, big.NewInt(48271))
}

func seedAhead(seed int) int {
	return seedTimes(seed, new(big.Int).ModInverse(big.NewInt(48271), big.NewInt(impl.MaxSeed)))
}

func seedTimes(seed int, factor *big.Int) int {
	product := new(big.Int).Mul(big.NewInt(int64(seed)), factor)
	return int(product.Mod(product, big.NewInt(impl.MaxSeed)).Int64())
}

// wholeRuns: the greatest multiple of n that is at most MaxSeed - 1.
func wholeRuns(n int) int {
	return lastSeed - lastSeed%n
}

func belowAsTold(seed int, n int) (int, int) {
	for {
		seed = seedAfter(seed)
		if seed-1 < wholeRuns(n) {
			return (seed - 1) % n, seed
		}
	}
}

func permAsTold(seed int, n int) []int {
	list := []int{}
	for i := 0; i < n; i++ {
		list = append(list, i)
	}
	for i := n - 1; i > 0; i-- {
		var j int
		j, seed = belowAsTold(seed, i+1)
		list[i], list[j] = list[j], list[i]
	}
	return list
}

// inRoom hands a list out with spare room behind it, filled so that a write there is seen.
func inRoom(list []int) []int {
	room := append(slices.Clone(list), 0, 1, 77)
	return room[:len(list)]
}

func roomKept(handed []int, list []int) bool {
	return slices.Equal(handed, list) && slices.Equal(handed[:len(list)+3][len(list):], []int{0, 1, 77})
}

func counted(n int) []int {
	list := make([]int, n)
	for i := range list {
		list[i] = i
	}
	return list
}

// noPerms: lists that are not PermOk.
func noPerms() [][]int {
	twice, great := counted(impl.MaxPerm), counted(impl.MaxPerm)
	twice[0] = impl.MaxPerm - 1
	great[0] = impl.MaxPerm
	return [][]int{
		{1}, {-1}, {math.MinInt}, {math.MaxInt}, {2}, {60},
		{0, 0}, {1, 1}, {0, 2}, {2, 0}, {1, 2}, {-1, 0}, {0, -1}, {1, -1},
		{0, 1, 1}, {2, 1, 2}, {0, 1, 3}, {3, 1, 0}, {0, 1, -1}, {-3, 1, 2}, {0, 1, math.MaxInt}, {math.MinInt, 1, 2},
		{0, 1, 2, 4}, {1, 2, 3, 4}, {0, 0, 0, 0}, {4, 2, 1, 1},
		twice, great, counted(impl.MaxPerm + 1), counted(impl.MaxPerm + 40), make([]int, impl.MaxPerm+1),
	}
}

func somePerms() [][]int {
	down := counted(impl.MaxPerm)
	slices.Reverse(down)
	list := [][]int{nil, {}, {0}, {0, 1}, {1, 0}, {2, 0, 1}, {1, 2, 0}, {3, 0, 2, 1}, counted(impl.MaxPerm - 1), counted(impl.MaxPerm), down}
	for n := 0; n <= impl.MaxPerm; n++ {
		list = append(list, permAsTold(n+1, n))
	}
	return list
}

func TestDrawConstants(t *testing.T) {
	if impl.MaxSeed != 2147483647 || impl.MaxPerm != 60 {
		t.Fatal(impl.MaxSeed, impl.MaxPerm)
	}
}

func TestNextSeed(t *testing.T) {
	for seed, want := range map[int]int{1: 48271, 2: 96542, 48271: 182605794, lastSeed: impl.MaxSeed - 48271} {
		if got := impl.NextSeed(seed); got != want {
			t.Errorf("NextSeed(%d) = %d, not %d", seed, got, want)
		}
	}
	for _, seed := range someSeeds() {
		if got := impl.NextSeed(seed); got != seedAfter(seed) || impl.NextSeed(seed) != got {
			t.Errorf("NextSeed(%d) = %d, not %d", seed, got, seedAfter(seed))
		}
		if got := impl.NextSeed(seedAhead(seed)); got != seed {
			t.Errorf("NextSeed(%d) = %d, not %d", seedAhead(seed), got, seed)
		}
	}
	for _, seed := range noSeeds() {
		if got := impl.NextSeed(seed); got != 48271 {
			t.Errorf("NextSeed(%d) = %d", seed, got)
		}
	}
}

func TestSeedsAfterTenThousand(t *testing.T) {
	seed := 1
	for range 10000 {
		seed = impl.NextSeed(seed)
	}
	if seed != 399268537 {
		t.Fatal(seed)
	}
}

func TestBelow(t *testing.T) {
	ns := []int{1, 2, 3, 4, 5, 7, 10, 59, 60, 61, 1000, 1024, 65536, 999983, 999999, 1000000}
	for _, n := range ns {
		for _, first := range someSeeds() {
			seed := first
			for range 50 {
				x, next := impl.Below(seed, n)
				wantX, wantNext := belowAsTold(seed, n)
				if x != wantX || next != wantNext || x < 0 || x >= n {
					t.Fatalf("Below(%d, %d) = %d, %d, not %d, %d", seed, n, x, next, wantX, wantNext)
				}
				seed = next
			}
		}
		for _, seed := range noSeeds() {
			x, next := impl.Below(seed, n)
			if x != 48270%n || next != 48271 {
				t.Errorf("Below(%d, %d) = %d, %d", seed, n, x, next)
			}
		}
	}
}

func TestBelowOfOtherNs(t *testing.T) {
	for _, n := range []int{0, -1, -2, -10, -1000000, math.MinInt, 1000001, 1000002, impl.MaxSeed - 1, impl.MaxSeed, math.MaxInt} {
		for _, seed := range someSeeds() {
			if x, next := impl.Below(seed, n); x != 0 || next != seed {
				t.Errorf("Below(%d, %d) = %d, %d", seed, n, x, next)
			}
		}
		for _, seed := range noSeeds() {
			if x, next := impl.Below(seed, n); x != 0 || next != 1 {
				t.Errorf("Below(%d, %d) = %d, %d", seed, n, x, next)
			}
		}
	}
}

// TestBelowDrawsAgain comes by seeds that stand at the end of the whole runs, just ahead of it and at the very end.
func TestBelowDrawsAgain(t *testing.T) {
	for _, n := range []int{4, 5, 8, 59, 1000, 65536, 999983, 999999, 1000000} {
		for _, came := range []int{wholeRuns(n) + 1, wholeRuns(n) + 2, lastSeed} {
			if came > lastSeed {
				continue
			}
			seed := seedAhead(came)
			x, next := impl.Below(seed, n)
			wantX, wantNext := belowAsTold(came, n)
			if x != wantX || next != wantNext || next == came {
				t.Errorf("Below(%d, %d) = %d, %d, not %d, %d", seed, n, x, next, wantX, wantNext)
			}
		}
		last := wholeRuns(n)
		if x, next := impl.Below(seedAhead(last), n); x != n-1 || next != last {
			t.Errorf("Below(%d, %d) = %d, %d", seedAhead(last), n, x, next)
		}
	}
	for _, n := range []int{1, 2, 3, 7, 9, 11, 31, 151, 331, 62} {
		if x, next := impl.Below(seedAhead(lastSeed), n); x != n-1 || next != lastSeed {
			t.Errorf("Below(%d, %d) = %d, %d", seedAhead(lastSeed), n, x, next)
		}
	}
}

// TestBelowDrawsTwiceAgain looks for seeds behind which two numbers come, one upon the other, that are both too great.
func TestBelowDrawsTwiceAgain(t *testing.T) {
	const n = 1000000
	found := 0
	for came := wholeRuns(n) + 1; came <= lastSeed; came++ {
		second := came * 48271 % impl.MaxSeed
		if second-1 < wholeRuns(n) {
			continue
		}
		found++
		seed := seedAhead(came)
		x, next := impl.Below(seed, n)
		wantX, wantNext := belowAsTold(seed, n)
		if x != wantX || next != wantNext || next == came || next == second {
			t.Fatalf("Below(%d, %d) = %d, %d, not %d, %d", seed, n, x, next, wantX, wantNext)
		}
	}
	if found == 0 {
		t.Fatal("no seed was found")
	}
}

func TestPermOk(t *testing.T) {
	for _, p := range somePerms() {
		if !impl.PermOk(p) {
			t.Errorf("PermOk(%v) is false", p)
		}
		if handed := inRoom(p); !impl.PermOk(handed) || !roomKept(handed, p) {
			t.Errorf("PermOk(%v) with room behind it", p)
		}
	}
	for _, p := range noPerms() {
		if impl.PermOk(p) || impl.PermOk(inRoom(p)) {
			t.Errorf("PermOk(%v) is true", p)
		}
	}
}

// TestPermOkOfAllShortLists counts: of the lists of n numbers, n factorial are orders.
func TestPermOkOfAllShortLists(t *testing.T) {
	for n, want := range []int{1, 1, 2, 6, 24} {
		found, list := 0, make([]int, n)
		var fill func(at int)
		fill = func(at int) {
			if at == n {
				if impl.PermOk(list) {
					found++
				}
				return
			}
			for x := -2; x <= n+1; x++ {
				list[at] = x
				fill(at + 1)
			}
		}
		fill(0)
		if found != want {
			t.Errorf("%d lists of %d numbers are PermOk", found, n)
		}
	}
}

func TestPermOf(t *testing.T) {
	for _, c := range []struct {
		seed, n int
		want    []int
	}{
		{1, 0, nil}, {1, 1, []int{0}}, {lastSeed, 1, []int{0}}, {1, 3, []int{2, 1, 0}},
	} {
		if got := impl.PermOf(c.seed, c.n); !slices.Equal(got, c.want) {
			t.Errorf("PermOf(%d, %d) = %v, not %v", c.seed, c.n, got, c.want)
		}
	}
	for n := 0; n <= impl.MaxPerm; n++ {
		for _, seed := range someSeeds() {
			got, want := impl.PermOf(seed, n), permAsTold(seed, n)
			if !slices.Equal(got, want) || !impl.PermOk(got) || len(got) != n {
				t.Fatalf("PermOf(%d, %d) = %v, not %v", seed, n, got, want)
			}
		}
		for _, seed := range noSeeds() {
			if got := impl.PermOf(seed, n); !slices.Equal(got, permAsTold(1, n)) {
				t.Fatalf("PermOf(%d, %d) = %v", seed, n, got)
			}
		}
	}
	for _, n := range []int{-1, -2, math.MinInt, impl.MaxPerm + 1, impl.MaxPerm + 2, 1000000, math.MaxInt} {
		if got := impl.PermOf(7, n); len(got) != 0 {
			t.Errorf("PermOf(7, %d) = %v", n, got)
		}
	}
}

// TestPermOfDrawsAgain begins with seeds of which some draw meets a number that is too great.
func TestPermOfDrawsAgain(t *testing.T) {
	for n := 2; n <= impl.MaxPerm; n++ {
		seed := lastSeed
		for range n {
			seed = seedAhead(seed)
			if got, want := impl.PermOf(seed, n), permAsTold(seed, n); !slices.Equal(got, want) {
				t.Fatalf("PermOf(%d, %d) = %v, not %v", seed, n, got, want)
			}
		}
	}
}

func TestInverse(t *testing.T) {
	if got := impl.Inverse([]int{2, 0, 1}); !slices.Equal(got, []int{1, 2, 0}) {
		t.Error(got)
	}
	for _, p := range somePerms() {
		handed := inRoom(p)
		inverse := impl.Inverse(handed)
		if len(inverse) != len(p) || !roomKept(handed, p) {
			t.Fatalf("Inverse(%v) = %v", p, inverse)
		}
		for i, place := range p {
			if inverse[place] != i {
				t.Fatalf("Inverse(%v) = %v", p, inverse)
			}
		}
		if !slices.Equal(impl.Inverse(inverse), p) {
			t.Errorf("%v is not the inverse of its inverse", p)
		}
	}
	for _, p := range noPerms() {
		handed := inRoom(p)
		if got := impl.Inverse(handed); len(got) != 0 || !roomKept(handed, p) {
			t.Errorf("Inverse(%v) = %v", p, got)
		}
	}
}

func TestThrough(t *testing.T) {
	if got := impl.Through([]int{2, 0, 1}, []int{10, 20, 30}); !slices.Equal(got, []int{30, 10, 20}) {
		t.Error(got)
	}
	if got := impl.Through([]int{1, 0}, []int{math.MinInt, math.MaxInt}); !slices.Equal(got, []int{math.MaxInt, math.MinInt}) {
		t.Error(got)
	}
	for _, p := range somePerms() {
		list := make([]int, len(p))
		for i := range list {
			list[i] = 5000 - i*i
		}
		order, handed := inRoom(p), inRoom(list)
		got := impl.Through(order, handed)
		if len(got) != len(p) || !roomKept(order, p) || !roomKept(handed, list) {
			t.Fatalf("Through(%v, %v) = %v", p, list, got)
		}
		for i, place := range p {
			if got[i] != list[place] {
				t.Fatalf("Through(%v, %v) = %v", p, list, got)
			}
		}
		if back := impl.Through(impl.Inverse(p), got); !slices.Equal(back, list) {
			t.Errorf("%v is not put back: %v", p, back)
		}
		if back := impl.Through(p, impl.Inverse(p)); !slices.Equal(back, counted(len(p))) {
			t.Errorf("%v and its inverse: %v", p, back)
		}
	}
}

func TestThroughOfOthers(t *testing.T) {
	for _, p := range noPerms() {
		if got := impl.Through(inRoom(p), inRoom(counted(len(p)))); len(got) != 0 {
			t.Errorf("Through(%v, ..) = %v", p, got)
		}
	}
	for _, p := range somePerms() {
		for _, n := range []int{0, 1, len(p) - 1, len(p) + 1, len(p) + 2, 2 * len(p), 100} {
			if n < 0 || n == len(p) {
				continue
			}
			list := counted(n)
			handed := inRoom(list)
			if got := impl.Through(p, handed); len(got) != 0 || !roomKept(handed, list) {
				t.Errorf("Through(%v, %v) = %v", p, list, got)
			}
		}
	}
}

// TestDrawAnswersAreNew writes into each answer, and into what was handed in, and looks whether the other one sees it.
func TestDrawAnswersAreNew(t *testing.T) {
	p, list := []int{1, 0, 2}, []int{7, 8, 9}
	inverse, through := impl.Inverse(p), impl.Through(p, list)
	wipe(inverse)
	wipe(through)
	if !slices.Equal(p, []int{1, 0, 2}) || !slices.Equal(list, []int{7, 8, 9}) {
		t.Error("what was handed in was written through an answer", p, list)
	}
	inverse, through = impl.Inverse(p), impl.Through(p, list)
	wipe(p)
	wipe(list)
	if !slices.Equal(inverse, []int{1, 0, 2}) || !slices.Equal(through, []int{8, 7, 9}) {
		t.Error("an answer was written through what was handed in", inverse, through)
	}
	wipe(impl.PermOf(1, 3))
	if got := impl.PermOf(1, 3); !slices.Equal(got, []int{2, 1, 0}) {
		t.Error("an answer was kept", got)
	}
}

func wipe(list []int) {
	for i := range list[:cap(list)] {
		list[:cap(list)][i] = -1
	}
}

package tests

import (
	"math"
	"math/big"
	"runtime"
	"slices"
	"sync"
	"testing"
	"time"

	"loop.example/g00566/impl"
)

const (
	topGrad     = impl.MaxGrad
	topL2       = impl.MaxL2
	topTogether = impl.MaxRows * impl.MaxGrad
	mostLeaves  = 16
	mostAsked   = 8
)

// drawnSearch: n rows of small numbers, so that rows have numbers in common with each other and with the borders; all hangs on the seed.
func drawnSearch(seed int, n int, leaves int, l2 int) impl.Rows {
	r := impl.Rows{Leaves: leaves, L2: l2, Grads: drawnNumbers(seed, n, 5000)}
	for i := range n {
		r.X = append(r.X, impl.Vec{V: drawnNumbers(seed+100*i+1, feats, 9)})
	}
	for _, id := range drawnNumbers(seed+2, n, 2*leaves) {
		r.Ids = append(r.Ids, id+leaves)
	}
	for i := range r.Ids {
		r.Ids[i] %= leaves
	}
	return r
}

// drawnBorders need not rise, and may be alike.
func drawnBorders(seed int) []impl.Vec {
	list := make([]impl.Vec, feats)
	for f := range list {
		list[f].V = drawnNumbers(seed+f, (seed+3*f)%7, 11)
	}
	return list
}

// greatRows: all Grads at a bound, numbers and Ids at theirs.
func greatRows(n int, grad int, leaves int, l2 int) impl.Rows {
	r := impl.Rows{Leaves: leaves, L2: l2}
	for i := range n {
		r.X = append(r.X, impl.Vec{V: []int{math.MinInt, math.MaxInt, i, -i, top + 1, -top - 1}})
		r.Grads = append(r.Grads, grad)
		r.Ids = append(r.Ids, (leaves-1)*(i%2))
	}
	return r
}

func goodLeaves() []int {
	return []int{1, 2, 3, 4, 7, 8, 9, 15, 16}
}

func someSearches() []impl.Rows {
	var list []impl.Rows
	for turn, leaves := range goodLeaves() {
		for _, l2 := range []int{1, 2, 7, topL2 - 1, topL2} {
			for _, n := range []int{0, 1, 2, 5, 13, impl.MaxRows - 1, impl.MaxRows} {
				list = append(list, drawnSearch(1+turn+10*n+l2, n, leaves, l2))
			}
			list = append(list, greatRows(1, topGrad, leaves, l2), greatRows(1, -topGrad, leaves, l2), greatRows(impl.MaxRows, topGrad, leaves, l2), greatRows(impl.MaxRows, -topGrad, leaves, l2))
		}
	}
	return append(list, impl.Rows{Leaves: 1, L2: 1}, impl.Rows{X: []impl.Vec{}, Grads: []int{}, Ids: []int{}, Leaves: 16, L2: topL2})
}

// askedSearches: those that can be asked.
func askedSearches() []impl.Rows {
	return slices.DeleteFunc(someSearches(), func(r impl.Rows) bool { return r.Leaves > mostAsked })
}

func copyVecs(list []impl.Vec) []impl.Vec {
	var copied []impl.Vec
	for _, x := range list {
		copied = append(copied, impl.Vec{V: slices.Clone(x.V)})
	}
	return copied
}

// copySearch shares no memory with what it is handed.
func copySearch(r impl.Rows) impl.Rows {
	return impl.Rows{X: copyVecs(r.X), Grads: slices.Clone(r.Grads), Ids: slices.Clone(r.Ids), Leaves: r.Leaves, L2: r.L2}
}

func sameVecs(a []impl.Vec, b []impl.Vec) bool {
	return slices.EqualFunc(a, b, func(x impl.Vec, y impl.Vec) bool { return slices.Equal(x.V, y.V) })
}

func sameSearch(a impl.Rows, b impl.Rows) bool {
	return sameVecs(a.X, b.X) && slices.Equal(a.Grads, b.Grads) && slices.Equal(a.Ids, b.Ids) && a.Leaves == b.Leaves && a.L2 == b.L2
}

func isNoSearch(r impl.Rows) bool {
	return sameSearch(r, impl.Rows{})
}

// rowFaults: right rows with one fault in each of the rows.
func rowFaults(right impl.Rows) []impl.Rows {
	var list []impl.Rows
	for row := range right.X {
		for _, n := range []int{0, 1, feats - 1, feats + 1, 2 * feats} {
			wrong := copySearch(right)
			wrong.X[row].V = make([]int, n)
			list = append(list, wrong)
		}
		for _, grad := range []int{topGrad + 1, -topGrad - 1, 2 * topGrad, math.MaxInt, math.MinInt} {
			wrong := copySearch(right)
			wrong.Grads[row] = grad
			list = append(list, wrong)
		}
		for _, id := range []int{-1, -2, right.Leaves, right.Leaves + 1, mostLeaves, math.MaxInt, math.MinInt} {
			wrong := copySearch(right)
			wrong.Ids[row] = id
			list = append(list, wrong)
		}
	}
	return list
}

// countFaults: right rows with lists that are too short or too long for each other.
func countFaults(right impl.Rows) []impl.Rows {
	var list []impl.Rows
	for _, more := range []int{1, 2} {
		grads, ids, xs := copySearch(right), copySearch(right), copySearch(right)
		grads.Grads = append(grads.Grads, make([]int, more)...)
		ids.Ids = append(ids.Ids, make([]int, more)...)
		xs.X = append(xs.X, slices.Repeat([]impl.Vec{{V: make([]int, feats)}}, more)...)
		list = append(list, grads, ids, xs)
	}
	if n := len(right.X); n > 0 {
		grads, ids, xs := copySearch(right), copySearch(right), copySearch(right)
		grads.Grads, ids.Ids, xs.X = grads.Grads[:n-1], ids.Ids[:n-1], xs.X[:n-1]
		list = append(list, grads, ids, xs)
	}
	return list
}

// settingFaults: right rows, but for Leaves and L2.
func settingFaults(right impl.Rows) []impl.Rows {
	var list []impl.Rows
	for _, leaves := range []int{0, -1, -right.Leaves, mostLeaves + 1, 2 * mostLeaves, math.MaxInt, math.MinInt} {
		wrong := copySearch(right)
		wrong.Leaves = leaves
		list = append(list, wrong)
	}
	for _, l2 := range noL2s() {
		wrong := copySearch(right)
		wrong.L2 = l2
		list = append(list, wrong)
	}
	return list
}

func noL2s() []int {
	return []int{0, -1, -topL2, topL2 + 1, 2 * topL2, math.MaxInt, math.MinInt}
}

// noSearches: rows that are not RowsOk.
func noSearches() []impl.Rows {
	list := []impl.Rows{{}, {Leaves: 1}, {L2: 1}, {X: make([]impl.Vec, 1), Grads: []int{0}, Ids: []int{0}, Leaves: 1, L2: 1}}
	for _, leaves := range []int{1, 3, 8, 16} {
		list = append(list, drawnSearch(5, impl.MaxRows+1, leaves, 1), drawnSearch(5, 2*impl.MaxRows, leaves, 1))
		for _, n := range []int{0, 1, 3, impl.MaxRows} {
			right := drawnSearch(6, n, leaves, 5)
			list = append(list, rowFaults(right)...)
			list = append(list, countFaults(right)...)
			list = append(list, settingFaults(right)...)
		}
	}
	return list
}

// cellsAsTold goes leaf by leaf, where the program goes row by row.
func cellsAsTold(r impl.Rows) []impl.Cell {
	var cells []impl.Cell
	for leaf := range r.Leaves {
		var own []int
		for row, id := range r.Ids {
			if id == leaf {
				own = append(own, r.Grads[row])
			}
		}
		cell := impl.Cell{N: len(own)}
		for _, grad := range own {
			cell.G += grad
		}
		cells = append(cells, cell)
	}
	return cells
}

func scoreAsTold(cells []impl.Cell, l2 int) int {
	score := 0
	for _, cell := range cells {
		whole := new(big.Int).Div(product(cell.G, cell.G), big.NewInt(int64(cell.N+l2)))
		score += int(whole.Int64())
	}
	return score
}

func askedAsTold(r impl.Rows, s impl.Split) impl.Rows {
	asked := copySearch(r)
	asked.Leaves = r.Leaves + r.Leaves
	for row, x := range r.X {
		if x.V[s.F] > s.B {
			asked.Ids[row] = r.Ids[row] + r.Leaves
		}
	}
	return asked
}

func gainAsTold(r impl.Rows, s impl.Split) int {
	return scoreAsTold(cellsAsTold(askedAsTold(r, s)), r.L2)
}

// splitsAsTold: all that BestSplit is to try, in their order.
func splitsAsTold(borders []impl.Vec) []impl.Split {
	var list []impl.Split
	for f, border := range borders {
		for _, b := range border.V {
			list = append(list, impl.Split{F: f, B: b})
		}
	}
	return list
}

// bestAsTold goes from the last split to the first, each that is as good taking the place of those behind it.
func bestAsTold(r impl.Rows, borders []impl.Vec) (impl.Split, int, bool) {
	var best impl.Split
	gain, some := 0, false
	for _, split := range slices.Backward(splitsAsTold(borders)) {
		if own := gainAsTold(r, split); !some || own >= gain {
			best, gain, some = split, own, true
		}
	}
	return best, gain, some
}

// nearBorders: the numbers of the rows themselves, and those just below and beyond them.
func nearBorders(r impl.Rows) []impl.Vec {
	list := make([]impl.Vec, feats)
	for row, x := range r.X {
		for f, number := range x.V {
			if row%3 == f%3 {
				list[f].V = append(list[f].V, number, number-1, number+1)
			}
		}
	}
	return list
}

// bordersFor: several lists of borders for the rows, no borders among them.
func bordersFor(r impl.Rows) [][]impl.Vec {
	list := [][]impl.Vec{make([]impl.Vec, feats), nearBorders(r)}
	for seed := range 6 {
		list = append(list, drawnBorders(1+7*seed+len(r.X)))
	}
	for f := range feats {
		alone := make([]impl.Vec, feats)
		alone[f].V = []int{3, 0, 0, -2, math.MaxInt, math.MinInt, top + 1}
		list = append(list, alone)
	}
	return list
}

func someSplits() []impl.Split {
	var list []impl.Split
	for f := range feats {
		for _, b := range []int{-5, -4, -1, 0, 1, 3, 4, top, -top, top + 1, math.MaxInt, math.MinInt} {
			list = append(list, impl.Split{F: f, B: b})
		}
	}
	return list
}

func TestSearchConstants(t *testing.T) {
	if impl.MaxGrad != 2000000 || impl.MaxL2 != 1000 {
		t.Fatal(impl.MaxGrad, impl.MaxL2)
	}
}

func TestRowsOk(t *testing.T) {
	for _, r := range someSearches() {
		if !impl.RowsOk(r) {
			t.Fatalf("RowsOk(%v) is false", r)
		}
	}
}

// TestRowsOkAtTheEdges: each limit met exactly, in each row.
func TestRowsOkAtTheEdges(t *testing.T) {
	for _, leaves := range goodLeaves() {
		for _, n := range []int{1, 3, impl.MaxRows} {
			for row := range n {
				for _, grad := range []int{-topGrad, topGrad} {
					for _, id := range []int{0, leaves - 1} {
						r := drawnSearch(9, n, leaves, topL2)
						r.Grads[row], r.Ids[row] = grad, id
						if !impl.RowsOk(r) {
							t.Fatalf("RowsOk(%v) is false", r)
						}
					}
				}
			}
		}
	}
}

func TestNoRowsAnswerNothing(t *testing.T) {
	for _, r := range noSearches() {
		if impl.RowsOk(r) {
			t.Fatalf("RowsOk(%v) is true", r)
		}
		if cells := impl.CellsOf(r); len(cells) != 0 {
			t.Fatalf("CellsOf(%v) = %v", r, cells)
		}
		for _, split := range []impl.Split{{}, {F: 5, B: -1}, {F: 2, B: 9}, {F: -1}, {F: feats}} {
			if asked, gain := impl.Asked(r, split), impl.Gain(r, split); !isNoSearch(asked) || gain != 0 {
				t.Fatalf("of %v, %v: Asked %v, Gain %d", r, split, asked, gain)
			}
		}
		for _, borders := range [][]impl.Vec{nil, make([]impl.Vec, feats), drawnBorders(3), drawnBorders(4)} {
			if split, gain, ok := impl.BestSplit(r, borders); split != (impl.Split{}) || gain != 0 || ok {
				t.Fatalf("BestSplit(%v, %v) = %v, %d, %v", r, borders, split, gain, ok)
			}
		}
	}
}

// TestCellsOf: worked out by hand from the chapter's words.
func TestCellsOf(t *testing.T) {
	x := impl.Vec{V: make([]int, feats)}
	for _, c := range []struct {
		r    impl.Rows
		want []impl.Cell
	}{
		{impl.Rows{Leaves: 1, L2: 1}, []impl.Cell{{}}},
		{impl.Rows{Leaves: 3, L2: 1}, []impl.Cell{{}, {}, {}}},
		{impl.Rows{X: []impl.Vec{x}, Grads: []int{-7}, Ids: []int{0}, Leaves: 1, L2: 1}, []impl.Cell{{N: 1, G: -7}}},
		{impl.Rows{X: []impl.Vec{x}, Grads: []int{0}, Ids: []int{1}, Leaves: 2, L2: 1}, []impl.Cell{{}, {N: 1}}},
		{impl.Rows{X: []impl.Vec{x, x}, Grads: []int{1000, -1000}, Ids: []int{0, 0}, Leaves: 1, L2: topL2}, []impl.Cell{{N: 2}}},
		{impl.Rows{X: []impl.Vec{x, x, x, x}, Grads: []int{10, 20, -50, 80}, Ids: []int{3, 1, 3, 1}, Leaves: 4, L2: 5}, []impl.Cell{{}, {N: 2, G: 100}, {}, {N: 2, G: -40}}},
	} {
		if got := impl.CellsOf(c.r); !slices.Equal(got, c.want) {
			t.Errorf("CellsOf(%v) = %v, not %v", c.r, got, c.want)
		}
	}
}

func TestCellsOfAsTold(t *testing.T) {
	for _, r := range someSearches() {
		if got, want := impl.CellsOf(r), cellsAsTold(r); !slices.Equal(got, want) || len(got) != r.Leaves {
			t.Fatalf("CellsOf(%v) = %v, not %v", r, got, want)
		}
	}
}

// TestCellsOfOneLeaf: all rows in one leaf, the others without any.
func TestCellsOfOneLeaf(t *testing.T) {
	for _, leaves := range goodLeaves() {
		for leaf := range leaves {
			for _, grad := range []int{topGrad, -topGrad, 1} {
				r := greatRows(impl.MaxRows, grad, leaves, 1)
				r.Ids = slices.Repeat([]int{leaf}, impl.MaxRows)
				want := make([]impl.Cell, leaves)
				want[leaf] = impl.Cell{N: impl.MaxRows, G: impl.MaxRows * grad}
				if got := impl.CellsOf(r); !slices.Equal(got, want) {
					t.Fatalf("CellsOf(%v) = %v, not %v", r, got, want)
				}
			}
		}
	}
}

// TestScoreOf: worked out by hand from the chapter's words.
func TestScoreOf(t *testing.T) {
	for _, c := range []struct {
		cells []impl.Cell
		l2    int
		want  int
	}{
		{nil, 1, 0}, {[]impl.Cell{}, topL2, 0}, {[]impl.Cell{{}}, 1, 0}, {make([]impl.Cell, 16), 1, 0},
		{[]impl.Cell{{N: 1, G: 10}}, 1, 50}, {[]impl.Cell{{N: 1, G: -10}}, 1, 50}, {[]impl.Cell{{N: 0, G: 10}}, 1, 100}, {[]impl.Cell{{N: 40, G: 10}}, 60, 1},
		// Quotients that do not come out even go down, cell by cell, not all together.
		{[]impl.Cell{{N: 2, G: 10}}, 1, 33}, {[]impl.Cell{{N: 2, G: -10}}, 1, 33}, {[]impl.Cell{{N: 2, G: -10}, {N: 2, G: 10}, {N: 2, G: 10}}, 1, 99}, {[]impl.Cell{{N: 5, G: 11}}, 1, 20}, {[]impl.Cell{{N: 5, G: -11}}, 1, 20}, {[]impl.Cell{{N: 1, G: 1}, {N: 1, G: 1}}, 1, 0}, {[]impl.Cell{{N: 1, G: 3}, {N: 1, G: -1}}, 1, 4},
		{[]impl.Cell{{N: 1, G: 31}}, 960, 1}, {[]impl.Cell{{N: 1, G: 31}}, 961, 0}, {[]impl.Cell{{N: 40, G: 999}}, topL2, 959},
		// The greatest there may be.
		{[]impl.Cell{{N: 40, G: topTogether}}, 1, 156097560975609}, {[]impl.Cell{{N: 0, G: -topTogether}}, 1, 6400000000000000}, {slices.Repeat([]impl.Cell{{N: 0, G: topTogether}}, 16), 1, 102400000000000000}, {slices.Repeat([]impl.Cell{{N: 0, G: -topTogether}}, 16), topL2, 102400000000000},
	} {
		if got := impl.ScoreOf(c.cells, c.l2); got != c.want {
			t.Errorf("ScoreOf(%v, %d) = %d, not %d", c.cells, c.l2, got, c.want)
		}
	}
}

func TestScoreOfAsTold(t *testing.T) {
	for seed := 1; seed < 400; seed++ {
		n := seed % (mostLeaves + 1)
		ns, gs := drawnNumbers(seed, n, 2*impl.MaxRows), drawnNumbers(seed+1, n, []int{30, 3000, 1000000}[seed%3])
		var cells []impl.Cell
		for i := range n {
			cells = append(cells, impl.Cell{N: max(0, ns[i]), G: gs[i] * []int{1, 1, 79}[seed%3]})
		}
		for _, l2 := range []int{1, 2, 3, 10, seed, topL2} {
			if got, want := impl.ScoreOf(cells, l2), scoreAsTold(cells, l2); got != want {
				t.Fatalf("ScoreOf(%v, %d) = %d, not %d", cells, l2, got, want)
			}
		}
	}
}

// TestScoreOfEdges: each limit met exactly, and passed by one, at each place among others.
func TestScoreOfEdges(t *testing.T) {
	for _, n := range []int{1, 2, 15, mostLeaves} {
		for at := range n {
			for _, cell := range []impl.Cell{{N: 0, G: 9}, {N: impl.MaxRows, G: 9}, {N: 3, G: topTogether}, {N: 3, G: -topTogether}} {
				cells := slices.Repeat([]impl.Cell{{N: 1, G: 100}}, n)
				cells[at] = cell
				if got, want := impl.ScoreOf(cells, 2), scoreAsTold(cells, 2); got != want || got == 0 {
					t.Fatalf("ScoreOf(%v, 2) = %d, not %d", cells, got, want)
				}
			}
			for _, cell := range []impl.Cell{{N: -1, G: 9}, {N: impl.MaxRows + 1, G: 9}, {N: math.MinInt}, {N: math.MaxInt}, {N: 3, G: topTogether + 1}, {N: 3, G: -topTogether - 1}, {N: 3, G: math.MaxInt}, {N: 3, G: math.MinInt}, {N: -1, G: topTogether + 1}} {
				cells := slices.Repeat([]impl.Cell{{N: 1, G: 100}}, n)
				cells[at] = cell
				if got := impl.ScoreOf(cells, 2); got != 0 {
					t.Fatalf("ScoreOf(%v, 2) = %d", cells, got)
				}
			}
		}
	}
}

func TestScoreOfOthers(t *testing.T) {
	cell := impl.Cell{N: 1, G: 1000}
	for _, n := range []int{1, 2, mostLeaves} {
		cells := slices.Repeat([]impl.Cell{cell}, n)
		for _, l2 := range noL2s() {
			if got := impl.ScoreOf(cells, l2); got != 0 {
				t.Errorf("ScoreOf(%v, %d) = %d", cells, l2, got)
			}
		}
		if one, most := impl.ScoreOf(cells, 1), impl.ScoreOf(cells, topL2); one != n*500000 || most != n*999 {
			t.Errorf("ScoreOf(%v) = %d, %d", cells, one, most)
		}
	}
	for _, n := range []int{mostLeaves + 1, mostLeaves + 2, 1000} {
		if got := impl.ScoreOf(slices.Repeat([]impl.Cell{cell}, n), 1); got != 0 {
			t.Errorf("ScoreOf of %d cells = %d", n, got)
		}
	}
}

// TestAsked: worked out by hand from the chapter's words; numbers just at, below and beyond B.
func TestAsked(t *testing.T) {
	for f := range feats {
		for _, b := range []int{0, 5, -5, top, -top, top + 1, math.MaxInt - 1, math.MinInt + 1} {
			r := impl.Rows{Grads: []int{7, -8, 9, 0, topGrad}, Ids: []int{0, 1, 2, 2, 0}, Leaves: 3, L2: 4}
			for i, number := range []int{b, b - 1, b + 1, math.MaxInt, math.MinInt} {
				x := slices.Repeat([]int{[]int{math.MaxInt, math.MinInt}[i%2]}, feats)
				x[f] = number
				r.X = append(r.X, impl.Vec{V: x})
			}
			want := copySearch(r)
			want.Ids, want.Leaves = []int{0, 1, 5, 5, 0}, 6
			if got := impl.Asked(r, impl.Split{F: f, B: b}); !sameSearch(got, want) {
				t.Errorf("Asked(%v, %d, %d) = %v, not %v", r, f, b, got, want)
			}
		}
	}
}

func TestAskedAsTold(t *testing.T) {
	for _, r := range askedSearches() {
		for _, split := range someSplits() {
			got, want := impl.Asked(r, split), askedAsTold(r, split)
			if !sameSearch(got, want) || !impl.RowsOk(got) {
				t.Fatalf("Asked(%v, %v) = %v, not %v", r, split, got, want)
			}
		}
	}
}

// TestAskedPartsCells is the second half of promise 7: the cells of the asked rows, two by two, make up the cells that were.
func TestAskedPartsCells(t *testing.T) {
	for _, r := range askedSearches() {
		were := impl.CellsOf(r)
		for _, split := range someSplits() {
			cells := impl.CellsOf(impl.Asked(r, split))
			if len(cells) != 2*len(were) {
				t.Fatalf("of %v, %v: %d cells, which were %d", r, split, len(cells), len(were))
			}
			for leaf, cell := range were {
				no, yes := cells[leaf], cells[leaf+len(were)]
				if no.N+yes.N != cell.N || no.G+yes.G != cell.G {
					t.Fatalf("of %v, %v: %v and %v, not %v", r, split, no, yes, cell)
				}
			}
		}
	}
}

// TestAskedAgainAndAgain: up to sixteen leaves, and no further.
func TestAskedAgainAndAgain(t *testing.T) {
	r := drawnSearch(3, impl.MaxRows, 1, 2)
	tree := treeOf(0, deepest)
	for i, split := range tree.Splits {
		r = impl.Asked(r, split)
		if !impl.RowsOk(r) || r.Leaves != 2<<i {
			t.Fatalf("asked %d times: %v", i+1, r)
		}
	}
	for row, x := range r.X {
		if r.Ids[row] != impl.LeafOf(tree, x.V) {
			t.Fatalf("row %v is in leaf %d, not %d", x, r.Ids[row], impl.LeafOf(tree, x.V))
		}
	}
	if more := impl.Asked(r, impl.Split{}); !isNoSearch(more) || impl.Gain(r, impl.Split{}) != 0 {
		t.Fatalf("asked beyond 16 leaves: %v", more)
	}
}

func TestAskedOfOthers(t *testing.T) {
	for _, r := range someSearches() {
		for _, f := range noFeats() {
			if asked, gain := impl.Asked(r, impl.Split{F: f}), impl.Gain(r, impl.Split{F: f}); !isNoSearch(asked) || gain != 0 {
				t.Fatalf("of %v, F %d: Asked %v, Gain %d", r, f, asked, gain)
			}
		}
		for _, split := range someSplits() {
			asked, gain := impl.Asked(r, split), impl.Gain(r, split)
			if r.Leaves > mostAsked && (!isNoSearch(asked) || gain != 0) || r.Leaves <= mostAsked && asked.Leaves != 2*r.Leaves {
				t.Fatalf("of %v, %v: Asked %v, Gain %d", r, split, asked, gain)
			}
		}
	}
}

func TestGainAsTold(t *testing.T) {
	for _, r := range askedSearches() {
		for _, split := range someSplits() {
			got := impl.Gain(r, split)
			if want := gainAsTold(r, split); got != want || got != impl.ScoreOf(impl.CellsOf(impl.Asked(r, split)), r.L2) {
				t.Fatalf("Gain(%v, %v) = %d, not %d", r, split, got, want)
			}
		}
	}
}

// handSearch has six rows whose Grads the features 0, 1 and 3 part by their sign, each with numbers of its own.
func handSearch() impl.Rows {
	r := impl.Rows{Grads: []int{-300, -300, -300, 300, 300, 300}, Ids: make([]int, 6), Leaves: 1, L2: 1}
	for i := range 6 {
		r.X = append(r.X, impl.Vec{V: []int{10 * i, 7 * i, 0, 5 - i, 3 * (i % 2), -4}})
	}
	return r
}

// TestBestSplit: worked out by hand from the chapter's words. Three and three part with a Gain of 2 times 900 times 900 by 4.
func TestBestSplit(t *testing.T) {
	const whole = 405000
	one := func(f int, list ...int) []impl.Vec {
		borders := make([]impl.Vec, feats)
		borders[f].V = list
		return borders
	}
	two := func(f int, list []int, g int, other []int) []impl.Vec {
		borders := one(f, list...)
		borders[g].V = other
		return borders
	}
	for _, c := range []struct {
		borders []impl.Vec
		split   impl.Split
		gain    int
	}{
		{one(0, 20), impl.Split{F: 0, B: 20}, whole}, {one(0, 0, 10, 20, 30, 40), impl.Split{F: 0, B: 20}, whole}, {one(0, 40, 30, 20, 10), impl.Split{F: 0, B: 20}, whole},
		// One and five: 300 times 300 by 2, and by 6; two and four: 600 times 600 by 3, and by 5.
		{one(0, 0), impl.Split{F: 0, B: 0}, 60000}, {one(0, 0, 10), impl.Split{F: 0, B: 10}, 192000}, {one(0, 10, 0), impl.Split{F: 0, B: 10}, 192000},
		// The same Gain within one F: the first as they stand, not the least.
		{one(0, 29, 20, 25), impl.Split{F: 0, B: 29}, whole}, {one(0, 20, 25, 29), impl.Split{F: 0, B: 20}, whole}, {one(0, 0, 25, 20, 29), impl.Split{F: 0, B: 25}, whole}, {one(0, 40, 0), impl.Split{F: 0, B: 40}, 60000}, {one(0, 0, 40), impl.Split{F: 0, B: 0}, 60000}, {one(0, 10, 30, 9, 11), impl.Split{F: 0, B: 10}, 192000}, {one(0, 30, 10), impl.Split{F: 0, B: 30}, 192000},
		// The same Gain in two: the lesser F, also where the cells change places, and wherever it stands in its list.
		{two(0, []int{20}, 1, []int{14}), impl.Split{F: 0, B: 20}, whole}, {two(0, []int{0, 40, 20}, 1, []int{14}), impl.Split{F: 0, B: 20}, whole}, {two(1, []int{14}, 3, []int{2}), impl.Split{F: 1, B: 14}, whole}, {two(3, []int{2, 1}, 1, []int{0, 20}), impl.Split{F: 1, B: 20}, whole},
		// A greater Gain behind a lesser F.
		{two(0, []int{0, 10}, 3, []int{2}), impl.Split{F: 3, B: 2}, whole}, {two(2, []int{0, -1}, 4, []int{0}), impl.Split{F: 4, B: 0}, 45000},
		// No border parts the rows, whose Grads together are 0: so is the Gain, and the first one comes.
		{one(2, 5), impl.Split{F: 2, B: 5}, 0}, {one(5, -4, 3), impl.Split{F: 5, B: -4}, 0}, {two(2, []int{9, 8}, 5, []int{7}), impl.Split{F: 2, B: 9}, 0}, {one(5, math.MaxInt, math.MinInt), impl.Split{F: 5, B: math.MaxInt}, 0},
	} {
		if split, gain, ok := impl.BestSplit(handSearch(), c.borders); split != c.split || gain != c.gain || !ok {
			t.Errorf("BestSplit with %v = %v, %d, %v, not %v, %d", c.borders, split, gain, ok, c.split, c.gain)
		}
	}
}

func TestBestSplitAsTold(t *testing.T) {
	for _, r := range askedSearches() {
		for _, borders := range bordersFor(r) {
			split, gain, ok := impl.BestSplit(r, borders)
			if wantSplit, wantGain, want := bestAsTold(r, borders); split != wantSplit || gain != wantGain || ok != want {
				t.Fatalf("BestSplit(%v, %v) = %v, %d, %v, not %v, %d, %v", r, borders, split, gain, ok, wantSplit, wantGain, want)
			}
		}
	}
}

// TestNoSplitPartsBetter is the first half of promise 7: every split tried one by one has no greater Gain, and those ahead have a lesser one.
func TestNoSplitPartsBetter(t *testing.T) {
	for _, r := range askedSearches() {
		for _, borders := range bordersFor(r) {
			best, most, ok := impl.BestSplit(r, borders)
			splits := splitsAsTold(borders)
			at := slices.Index(splits, best)
			if ok != (len(splits) > 0) || ok && (at < 0 || impl.Gain(r, best) != most) {
				t.Fatalf("BestSplit(%v, %v) = %v, %d, %v", r, borders, best, most, ok)
			}
			for i, split := range splits {
				if gain := impl.Gain(r, split); gain > most || i < at && gain == most {
					t.Fatalf("BestSplit(%v, %v) = %v, %d, but %v has %d", r, borders, best, most, split, gain)
				}
			}
		}
	}
}

// TestBestSplitOfTies: every F parts alike, each F with borders that part alike; without the first ones the next is the first.
func TestBestSplitOfTies(t *testing.T) {
	r := handSearch()
	for i := range r.X {
		r.X[i].V = slices.Repeat([]int{10 * i}, feats)
	}
	for from := range feats {
		for skip := range 4 {
			borders := make([]impl.Vec, feats)
			for f := from; f < feats; f++ {
				borders[f].V = []int{28, 23, 21, 26}
			}
			borders[from].V = borders[from].V[skip:]
			want := impl.Split{F: from, B: borders[from].V[0]}
			for range 50 {
				if split, gain, ok := impl.BestSplit(r, borders); split != want || gain != 405000 || !ok {
					t.Fatalf("BestSplit(%v, %v) = %v, %d, %v, not %v", r, borders, split, gain, ok, want)
				}
			}
		}
	}
}

func TestBestSplitOfNoBorders(t *testing.T) {
	for _, r := range someSearches() {
		for _, borders := range [][]impl.Vec{make([]impl.Vec, feats), slices.Repeat([]impl.Vec{{V: []int{}}}, feats)} {
			if split, gain, ok := impl.BestSplit(r, borders); split != (impl.Split{}) || gain != 0 || ok {
				t.Fatalf("BestSplit(%v, %v) = %v, %d, %v", r, borders, split, gain, ok)
			}
		}
	}
}

func TestBestSplitOfOtherBorders(t *testing.T) {
	for _, r := range someSearches() {
		for _, n := range []int{0, 1, feats - 1, feats + 1, 2 * feats} {
			borders := slices.Repeat([]impl.Vec{{V: []int{0, 1}}}, n)
			if split, gain, ok := impl.BestSplit(r, borders); split != (impl.Split{}) || gain != 0 || ok {
				t.Fatalf("BestSplit(%v, %v) = %v, %d, %v", r, borders, split, gain, ok)
			}
		}
	}
}

func TestBestSplitOfManyLeaves(t *testing.T) {
	for _, r := range someSearches() {
		borders := slices.Repeat([]impl.Vec{{V: []int{0, 1}}}, feats)
		split, gain, ok := impl.BestSplit(r, borders)
		if ok != (r.Leaves <= mostAsked) || !ok && (split != impl.Split{} || gain != 0) {
			t.Fatalf("BestSplit(%v, %v) = %v, %d, %v", r, borders, split, gain, ok)
		}
	}
}

// TestBestSplitOfNoRows: every Gain is 0, so the first border comes.
func TestBestSplitOfNoRows(t *testing.T) {
	for _, leaves := range []int{1, 2, mostAsked} {
		for f := range feats {
			borders := make([]impl.Vec, feats)
			for g := f; g < feats; g++ {
				borders[g].V = []int{9 - g, 3}
			}
			split, gain, ok := impl.BestSplit(impl.Rows{Leaves: leaves, L2: 1}, borders)
			if want := (impl.Split{F: f, B: 9 - f}); split != want || gain != 0 || !ok {
				t.Errorf("BestSplit of no rows with %v = %v, %d, %v", borders, split, gain, ok)
			}
		}
	}
}

// TestBestSplitOfLongLists: more borders than MaxBorders, the best one at each end and amid.
func TestBestSplitOfLongLists(t *testing.T) {
	for _, at := range []int{0, 1, 499, 998, 999} {
		borders := make([]impl.Vec, feats)
		borders[1].V = slices.Repeat([]int{0}, 1000)
		borders[4].V = slices.Repeat([]int{1}, 1000)
		borders[1].V[at] = 14
		if split, gain, ok := impl.BestSplit(handSearch(), borders); split != (impl.Split{F: 1, B: 14}) || gain != 405000 || !ok {
			t.Errorf("BestSplit with the best at %d = %v, %d, %v", at, split, gain, ok)
		}
	}
}

// TestBestSplitAgain: the same answer however often it is asked, whatever was asked between, and by several at once.
func TestBestSplitAgain(t *testing.T) {
	for seed := 1; seed <= 5; seed++ {
		r, borders := drawnSearch(seed, impl.MaxRows, 4, seed), drawnBorders(seed)
		wantSplit, wantGain, _ := bestAsTold(r, borders)
		var askers sync.WaitGroup
		for range 8 {
			askers.Go(func() {
				for range 100 {
					if split, gain, ok := impl.BestSplit(r, borders); split != wantSplit || gain != wantGain || !ok {
						t.Errorf("BestSplit(%v, %v) = %v, %d, %v, not %v, %d", r, borders, split, gain, ok, wantSplit, wantGain)
						return
					}
					impl.BestSplit(handSearch(), borders)
					impl.BestSplit(impl.Rows{}, borders)
				}
			})
		}
		askers.Wait()
	}
}

// TestBestSplitLeavesNobodyAtWork: none of those that looked is left; the time is for those that are just about to end.
func TestBestSplitLeavesNobodyAtWork(t *testing.T) {
	before := runtime.NumGoroutine()
	for seed := 1; seed <= 200; seed++ {
		impl.BestSplit(drawnSearch(seed, 9, 2, 1), drawnBorders(seed))
		impl.BestSplit(drawnSearch(seed, 9, 2, 1), make([]impl.Vec, feats))
	}
	for range 1000 {
		if runtime.NumGoroutine() <= before {
			return
		}
		time.Sleep(5 * time.Millisecond)
	}
	t.Fatalf("%d are at work, where %d were", runtime.NumGoroutine(), before)
}

// vecsInRoom hands lists out with spare room behind each and behind all of them, filled so that a write there is seen.
func vecsInRoom(list []impl.Vec) []impl.Vec {
	var room []impl.Vec
	for _, x := range list {
		room = append(room, impl.Vec{V: inRoom(x.V)})
	}
	return append(room, impl.Vec{V: inRoom(counted(feats))})[:len(list)]
}

func vecsRoomKept(handed []impl.Vec, list []impl.Vec) bool {
	n := len(list)
	for i, x := range list {
		if !roomKept(handed[i].V, x.V) {
			return false
		}
	}
	return len(handed) == n && roomKept(handed[:n+1][n].V, counted(feats))
}

func searchInRoom(r impl.Rows) impl.Rows {
	return impl.Rows{X: vecsInRoom(r.X), Grads: inRoom(r.Grads), Ids: inRoom(r.Ids), Leaves: r.Leaves, L2: r.L2}
}

func searchRoomKept(handed impl.Rows, r impl.Rows) bool {
	return vecsRoomKept(handed.X, r.X) && roomKept(handed.Grads, r.Grads) && roomKept(handed.Ids, r.Ids)
}

func wipeVecs(list []impl.Vec) {
	for _, x := range list {
		wipe(x.V)
	}
	clear(list[:cap(list)])
}

func wipeSearch(r impl.Rows) {
	wipeVecs(r.X)
	wipe(r.Grads)
	wipe(r.Ids)
}

// TestSearchesStayAsTheyWere: also where what is answered is written into.
func TestSearchesStayAsTheyWere(t *testing.T) {
	for i, r := range append(noSearches(), someSearches()...) {
		borders := drawnBorders(1 + i%17)
		handed, handedBorders := searchInRoom(r), vecsInRoom(borders)
		impl.RowsOk(handed)
		cells := impl.CellsOf(handed)
		clear(cells[:cap(cells)])
		for _, split := range []impl.Split{{F: 0, B: 0}, {F: 3, B: -1}, {F: 5, B: 2}, {F: -1}, {F: feats}} {
			impl.Gain(handed, split)
			wipeSearch(impl.Asked(handed, split))
		}
		impl.BestSplit(handed, handedBorders)
		impl.BestSplit(handed, handedBorders[:feats-1])
		if !searchRoomKept(handed, r) || !vecsRoomKept(handedBorders, borders) {
			t.Fatalf("%v or %v was written into: %v, %v", r, borders, handed, handedBorders)
		}
	}
}

func TestScoredCellsStayAsTheyWere(t *testing.T) {
	room := []impl.Cell{{N: 1, G: 5}, {N: 2, G: -5}, {N: -1, G: 5}, {N: 77, G: 78}}
	kept := slices.Clone(room)
	for n := range len(room) + 1 {
		want := []int{0, 12, 20, 0, 0}[n]
		if got := impl.ScoreOf(room[:n], 1); got != want || !slices.Equal(room, kept) {
			t.Errorf("ScoreOf(%v, 1) = %d, and %v was %v", room[:n], got, room, kept)
		}
	}
}

// TestAskedRowsAreNew: neither what is handed in shares memory with the answer, nor do two lists of the answer, though those handed in be one.
func TestAskedRowsAreNew(t *testing.T) {
	one := []int{1, 2, 3, 4, 5, 6}
	r := impl.Rows{Grads: make([]int, 4), Leaves: 1, L2: 1}
	r.Ids = r.Grads
	r.X = slices.Repeat([]impl.Vec{{V: one}}, 4)
	asked := impl.Asked(r, impl.Split{F: 0, B: 0})
	kept := copySearch(asked)
	wipe(one)
	wipe(r.Grads)
	clear(r.X)
	if !sameSearch(asked, kept) || !slices.Equal(asked.Ids, []int{1, 1, 1, 1}) || !slices.Equal(asked.Grads, make([]int, 4)) {
		t.Fatalf("what was answered was written through what was handed in: %v, not %v", asked, kept)
	}
	for row := range asked.X {
		wipe(asked.X[row].V)
		kept.X[row].V = slices.Clone(asked.X[row].V)
		if !sameSearch(asked, kept) {
			t.Fatalf("lists of the answer share memory: %v, not %v", asked, kept)
		}
	}
	wipe(asked.Grads)
	kept.Grads = slices.Clone(asked.Grads)
	if !sameSearch(asked, kept) {
		t.Fatalf("lists of the answer share memory: %v, not %v", asked, kept)
	}
}

func TestCellsAreNew(t *testing.T) {
	for _, r := range someSearches() {
		handed := copySearch(r)
		cells, again := impl.CellsOf(handed), impl.CellsOf(handed)
		wipeSearch(handed)
		clear(again[:cap(again)])
		if !slices.Equal(cells, cellsAsTold(r)) {
			t.Fatalf("what %v answered was written through it: %v", r, cells)
		}
	}
}

// TestSearchesReadNothingBehindTheEnd: the room behind must not make up for what is too little, nor be too much.
func TestSearchesReadNothingBehindTheEnd(t *testing.T) {
	whole := drawnSearch(4, impl.MaxRows+2, 2, 1)
	for _, n := range []int{0, 1, 5, impl.MaxRows} {
		few := impl.Rows{X: whole.X[:n], Grads: whole.Grads[:n], Ids: whole.Ids[:n], Leaves: 2, L2: 1}
		if !impl.RowsOk(few) || !slices.Equal(impl.CellsOf(few), cellsAsTold(copySearch(few))) {
			t.Errorf("%v with room behind: %v", few, impl.CellsOf(few))
		}
		less := few
		less.Grads = whole.Grads[:n+1]
		if impl.RowsOk(less) {
			t.Errorf("RowsOk(%v) is true", less)
		}
	}
	short := copySearch(drawnSearch(4, 3, 2, 1))
	short.X[1].V = short.X[1].V[:feats-1]
	borders := slices.Repeat([]impl.Vec{{V: []int{0}}}, feats+1)
	if _, _, ok := impl.BestSplit(handSearch(), borders[:feats-1]); ok || impl.RowsOk(short) {
		t.Error("what lies behind the end was read")
	}
	long := []int{0, 20}
	if split, gain, ok := impl.BestSplit(handSearch(), []impl.Vec{{V: long[:1]}, {}, {}, {}, {}, {}}); split != (impl.Split{}) || gain != 60000 || !ok {
		t.Error(split, gain, ok)
	}
}

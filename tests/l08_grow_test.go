package tests

import (
	"math"
	"math/big"
	"runtime"
	"slices"
	"sync"
	"testing"
	"time"

	"loop.example/g00566/impl"
)

func goodRates() []int {
	return []int{1, 2, 3, 333, 500, impl.Scale - 1, impl.Scale}
}

func noRates() []int {
	return []int{0, -1, -impl.Scale, impl.Scale + 1, 2 * impl.Scale, math.MaxInt, math.MinInt}
}

func noDepths() []int {
	return []int{-1, -2, deepest + 1, deepest + 2, 1000, math.MaxInt, math.MinInt}
}

func goodGrows() []impl.Grow {
	var list []impl.Grow
	for depth := range deepest + 1 {
		for _, rate := range goodRates() {
			list = append(list, impl.Grow{Depth: depth, Rate: rate})
		}
	}
	return list
}

func noGrows() []impl.Grow {
	list := []impl.Grow{{}}
	for _, depth := range noDepths() {
		for _, rate := range append(noRates(), goodRates()...) {
			list = append(list, impl.Grow{Depth: depth, Rate: rate})
		}
	}
	for depth := range deepest + 1 {
		for _, rate := range noRates() {
			list = append(list, impl.Grow{Depth: depth, Rate: rate})
		}
	}
	return list
}

// someUnasked: rows that are all in the one leaf a tree begins with.
func someUnasked() []impl.Rows {
	list := []impl.Rows{handSearch(), evenRows(1, 300, 1), evenRows(2, 300, 1), evenRows(2, 70, 3)}
	return append(list, slices.DeleteFunc(someSearches(), func(r impl.Rows) bool { return r.Leaves != 1 })...)
}

// moreLeaves: right rows, but for the leaves they are in.
func moreLeaves() []impl.Rows {
	list := slices.DeleteFunc(someSearches(), func(r impl.Rows) bool { return r.Leaves == 1 })
	for _, leaves := range []int{2, 3, mostAsked, mostLeaves} {
		r := handSearch()
		r.Leaves = leaves
		list = append(list, r)
	}
	return list
}

// growBorders: borders for the rows, all of whose numbers are FixOk.
func growBorders(r impl.Rows) [][]impl.Vec {
	list := bordersFor(r)
	for _, borders := range list {
		for f := range borders {
			borders[f].V = slices.DeleteFunc(borders[f].V, func(b int) bool { return b < -top || b > top })
		}
	}
	return append(list, slices.Repeat([]impl.Vec{{V: []int{0, top, -top}}}, feats))
}

// evenRows: of each way to answer four questions as many rows; each yes adds what each no takes, so all questions are as good.
func evenRows(each int, weight int, l2 int) impl.Rows {
	r := impl.Rows{Leaves: 1, L2: l2}
	for range each {
		for _, way := range waysToAnswer(deepest) {
			x, grad := make([]int, feats), 0
			for f, yes := range way {
				if yes {
					x[f] = 1
					grad += weight
				} else {
					grad -= weight
				}
			}
			r.X = append(r.X, impl.Vec{V: x})
			r.Grads = append(r.Grads, grad)
			r.Ids = append(r.Ids, 0)
		}
	}
	return r
}

// fourRows: one row for each way to answer two questions, feature 0 changing fastest.
func fourRows(grads ...int) impl.Rows {
	r := impl.Rows{Grads: grads, Ids: make([]int, 4), Leaves: 1, L2: 1}
	for _, way := range [][]int{{0, 0}, {1, 0}, {0, 1}, {1, 1}} {
		r.X = append(r.X, impl.Vec{V: append(slices.Clone(way), 0, 0, 0, 0)})
	}
	return r
}

// bordersAtZero: the border 0 for each of the features, none for the others.
func bordersAtZero(list ...int) []impl.Vec {
	borders := make([]impl.Vec, feats)
	for _, f := range list {
		borders[f].V = []int{0}
	}
	return borders
}

func valueAsTold(cell impl.Cell, l2 int, rate int) int {
	if cell.N == 0 {
		return 0
	}
	whole := new(big.Int).Div(big.NewInt(int64(cell.G)), big.NewInt(int64(cell.N+l2)))
	return int(new(big.Int).Div(whole.Mul(whole, big.NewInt(int64(rate))), big.NewInt(1000)).Int64())
}

func valuesAsTold(cells []impl.Cell, l2 int, rate int) []int {
	var list []int
	for _, cell := range cells {
		list = append(list, valueAsTold(cell, l2, rate))
	}
	return list
}

// growAsTold goes by the words of the chapter, with what the tests of chapter 7 work out.
func growAsTold(r impl.Rows, borders []impl.Vec, g impl.Grow) impl.Tree {
	var tree impl.Tree
	for len(tree.Splits) < g.Depth {
		split, gain, some := bestAsTold(r, borders)
		if !some || gain <= scoreAsTold(cellsAsTold(r), r.L2) {
			break
		}
		tree.Splits = append(tree.Splits, split)
		r = askedAsTold(r, split)
	}
	tree.Leaves = valuesAsTold(cellsAsTold(r), r.L2, g.Rate)
	return tree
}

func TestGrowOk(t *testing.T) {
	for _, g := range goodGrows() {
		if !impl.GrowOk(g) {
			t.Errorf("GrowOk(%v) is false", g)
		}
	}
	for _, g := range noGrows() {
		if impl.GrowOk(g) {
			t.Errorf("GrowOk(%v) is true", g)
		}
	}
}

// TestLeafValues: worked out by hand from the chapter's words.
func TestLeafValues(t *testing.T) {
	for _, c := range []struct {
		cells []impl.Cell
		l2    int
		rate  int
		want  []int
	}{
		{nil, 1, 1, nil}, {[]impl.Cell{}, topL2, 1000, nil}, {make([]impl.Cell, 16), 1, 1000, make([]int, 16)},
		{[]impl.Cell{{N: 3, G: -1000}, {}}, 1, 500, []int{-125, 0}},
		{[]impl.Cell{{N: 1, G: 10}, {N: 1, G: -10}}, 1, 1000, []int{5, -5}}, {[]impl.Cell{{N: 4, G: 1000}}, 6, 1000, []int{100}},
		// What does not come out even goes down, on both sides of 0.
		{[]impl.Cell{{N: 2, G: 10}, {N: 2, G: -10}, {N: 2, G: 1}, {N: 2, G: -1}, {N: 2, G: 11}, {N: 2, G: -11}}, 1, 1000, []int{3, -4, 0, -1, 3, -4}},
		// First by N and l2, then by rate: each goes down by itself.
		{[]impl.Cell{{N: 2, G: -1000}, {N: 2, G: 1000}}, 1, 3, []int{-2, 0}}, {[]impl.Cell{{N: 1, G: 3}, {N: 1, G: -3}}, 1, 500, []int{0, -1}}, {[]impl.Cell{{N: 1, G: -1}, {N: 1, G: 1}}, topL2, 1, []int{-1, 0}},
		{[]impl.Cell{{N: 1, G: -3998}, {N: 1, G: 3998}}, 1, 1, []int{-2, 1}}, {[]impl.Cell{{N: 1, G: -4001}, {N: 1, G: -4000}}, 1, 1, []int{-3, -2}},
		// N 0: whatever G is.
		{[]impl.Cell{{N: 0, G: 5000}, {N: 0, G: -5000}, {N: 0, G: topTogether}, {N: 0, G: -topTogether}, {N: 1, G: 5000}}, 1, 1000, []int{0, 0, 0, 0, 2500}},
		// The greatest there may be.
		{[]impl.Cell{{N: 40, G: topTogether}, {N: 40, G: -topTogether}, {N: 1, G: topTogether}, {N: 1, G: -topTogether}}, 1, 1000, []int{1951219, -1951220, 40000000, -40000000}},
		{[]impl.Cell{{N: 40, G: topTogether}, {N: 40, G: -topTogether}, {N: 1, G: topTogether}, {N: 1, G: -topTogether}}, topL2, 1, []int{76, -77, 79, -80}},
	} {
		if got := impl.LeafValues(c.cells, c.l2, c.rate); !slices.Equal(got, c.want) {
			t.Errorf("LeafValues(%v, %d, %d) = %v, not %v", c.cells, c.l2, c.rate, got, c.want)
		}
	}
}

func TestLeafValuesAsTold(t *testing.T) {
	for seed := 1; seed < 300; seed++ {
		n := seed % (mostLeaves + 1)
		ns, gs := drawnNumbers(seed, n, 2*impl.MaxRows), drawnNumbers(seed+1, n, []int{30, 3000, 1000000}[seed%3])
		var cells []impl.Cell
		for i := range n {
			cells = append(cells, impl.Cell{N: max(0, ns[i]), G: gs[i] * []int{1, 1, 79}[seed%3]})
		}
		for _, l2 := range []int{1, 2, 3, seed, topL2} {
			for _, rate := range goodRates() {
				if got, want := impl.LeafValues(cells, l2, rate), valuesAsTold(cells, l2, rate); !slices.Equal(got, want) {
					t.Fatalf("LeafValues(%v, %d, %d) = %v, not %v", cells, l2, rate, got, want)
				}
			}
		}
	}
}

// TestLeafValuesEdges: each limit met exactly, and passed by one, at each place among others.
func TestLeafValuesEdges(t *testing.T) {
	for _, n := range []int{1, 2, 15, mostLeaves} {
		for at := range n {
			for _, cell := range []impl.Cell{{N: 0, G: 9}, {N: impl.MaxRows, G: -9}, {N: 3, G: topTogether}, {N: 3, G: -topTogether}, {N: 0, G: -topTogether}} {
				cells := slices.Repeat([]impl.Cell{{N: 1, G: 100}}, n)
				cells[at] = cell
				if got, want := impl.LeafValues(cells, 2, 900), valuesAsTold(cells, 2, 900); !slices.Equal(got, want) || len(got) != n {
					t.Fatalf("LeafValues(%v, 2, 900) = %v, not %v", cells, got, want)
				}
			}
			for _, cell := range []impl.Cell{{N: -1, G: 9}, {N: impl.MaxRows + 1, G: 9}, {N: math.MinInt}, {N: math.MaxInt}, {N: 3, G: topTogether + 1}, {N: 3, G: -topTogether - 1}, {N: 0, G: topTogether + 1}, {N: 0, G: -topTogether - 1}, {N: 3, G: math.MaxInt}, {N: 0, G: math.MinInt}} {
				cells := slices.Repeat([]impl.Cell{{N: 1, G: 100}}, n)
				cells[at] = cell
				if got := impl.LeafValues(cells, 2, 900); len(got) != 0 {
					t.Fatalf("LeafValues(%v, 2, 900) = %v", cells, got)
				}
			}
		}
	}
}

func TestLeafValuesOfOthers(t *testing.T) {
	for _, n := range []int{1, 2, mostLeaves} {
		cells := slices.Repeat([]impl.Cell{{N: 1, G: 2000000}}, n)
		for _, l2 := range noL2s() {
			if got := impl.LeafValues(cells, l2, 1000); len(got) != 0 {
				t.Errorf("LeafValues(%v, %d, 1000) = %v", cells, l2, got)
			}
		}
		for _, rate := range noRates() {
			if got := impl.LeafValues(cells, 1, rate); len(got) != 0 {
				t.Errorf("LeafValues(%v, 1, %d) = %v", cells, rate, got)
			}
		}
		if least, most := impl.LeafValues(cells, 1, 1), impl.LeafValues(cells, topL2, 1000); !slices.Equal(least, slices.Repeat([]int{1000}, n)) || !slices.Equal(most, slices.Repeat([]int{1998}, n)) {
			t.Errorf("LeafValues(%v) = %v, %v", cells, least, most)
		}
	}
	for _, n := range []int{mostLeaves + 1, mostLeaves + 2, 1000} {
		if got := impl.LeafValues(slices.Repeat([]impl.Cell{{N: 1, G: 1000}}, n), 1, 1000); len(got) != 0 {
			t.Errorf("LeafValues of %d cells = %v", n, got)
		}
	}
}

// TestGrowTree: worked out by hand from the chapter's words. What fourRows say: the score begins with the square of all by 5; question 0 makes 770833 of it, question 1 570833, both 1006250.
func TestGrowTree(t *testing.T) {
	four := fourRows(-1000, 100, -50, 1000)
	both := bordersAtZero(0, 1)
	for _, c := range []struct {
		r       impl.Rows
		borders []impl.Vec
		g       impl.Grow
		want    impl.Tree
	}{
		{four, both, impl.Grow{Depth: 2, Rate: 1000}, impl.Tree{Splits: []impl.Split{{F: 0}, {F: 1}}, Leaves: []int{-500, 50, -25, 500}}},
		{four, both, impl.Grow{Depth: 2, Rate: 333}, impl.Tree{Splits: []impl.Split{{F: 0}, {F: 1}}, Leaves: []int{-167, 16, -9, 166}}},
		{four, both, impl.Grow{Depth: 2, Rate: 1}, impl.Tree{Splits: []impl.Split{{F: 0}, {F: 1}}, Leaves: []int{-1, 0, -1, 0}}},
		// With all questions asked, the best one parts nothing: its Gain is the score as it is.
		{four, both, impl.Grow{Depth: 4, Rate: 1000}, impl.Tree{Splits: []impl.Split{{F: 0}, {F: 1}}, Leaves: []int{-500, 50, -25, 500}}},
		// Depth is met, though more were worth asking.
		{four, both, impl.Grow{Depth: 1, Rate: 1000}, impl.Tree{Splits: []impl.Split{{F: 0}}, Leaves: []int{-350, 366}}},
		{four, both, impl.Grow{Depth: 0, Rate: 1000}, impl.Tree{Leaves: []int{10}}},
		{fourRows(-1000, 100, -51, 900), both, impl.Grow{Depth: 0, Rate: 1000}, impl.Tree{Leaves: []int{-11}}},
		{four, bordersAtZero(1), impl.Grow{Depth: 1, Rate: 1000}, impl.Tree{Splits: []impl.Split{{F: 1}}, Leaves: []int{-300, 316}}},
		// No split is there.
		{four, make([]impl.Vec, feats), impl.Grow{Depth: 4, Rate: 1000}, impl.Tree{Leaves: []int{10}}},
		// Splits are there, none of which parts anything.
		{four, bordersAtZero(2, 3, 4, 5), impl.Grow{Depth: 4, Rate: 1000}, impl.Tree{Leaves: []int{10}}},
		{four, []impl.Vec{{V: []int{1, top, -1, -top}}, {}, {}, {}, {}, {}}, impl.Grow{Depth: 4, Rate: 1000}, impl.Tree{Leaves: []int{10}}},
		// Only both questions together tell these apart, but each one alone is worth nothing.
		{fourRows(-1000, 1000, 1000, -1000), both, impl.Grow{Depth: 4, Rate: 1000}, impl.Tree{Leaves: []int{0}}},
		// All alike: to part them makes the score less, 2666666 of 3200000.
		{fourRows(1000, 1000, 1000, 1000), both, impl.Grow{Depth: 4, Rate: 1000}, impl.Tree{Leaves: []int{800}}},
		{fourRows(0, 0, 0, 0), both, impl.Grow{Depth: 4, Rate: 1000}, impl.Tree{Leaves: []int{0}}},
		// Three and three, each with the same Grads.
		{handSearch(), nearBorders(handSearch()), impl.Grow{Depth: 4, Rate: 1000}, impl.Tree{Splits: []impl.Split{{F: 0, B: 29}}, Leaves: []int{-225, 225}}},
	} {
		tree, ok := impl.GrowTree(c.r, c.borders, c.g)
		if !sameTree(tree, c.want) || !ok {
			t.Errorf("GrowTree(%v, %v, %v) = %v, %v, not %v", c.r, c.borders, c.g, tree, ok, c.want)
		}
	}
}

// TestGrowTreeStopsWhereNothingIsWon: two rows, whose Gain is the half of each square, and whose score is a third of the square of both: less, as much, and just more.
func TestGrowTreeStopsWhereNothingIsWon(t *testing.T) {
	for _, c := range []struct {
		grads []int
		want  impl.Tree
	}{
		{[]int{3, 1}, impl.Tree{Leaves: []int{1}}}, {[]int{4, 1}, impl.Tree{Leaves: []int{1}}}, {[]int{5, 1}, impl.Tree{Leaves: []int{2}}}, {[]int{1, 5}, impl.Tree{Leaves: []int{2}}}, {[]int{-5, -1}, impl.Tree{Leaves: []int{-2}}},
		{[]int{1, -1}, impl.Tree{Leaves: []int{0}}}, {[]int{1000, 1000}, impl.Tree{Leaves: []int{666}}}, {[]int{0, 0}, impl.Tree{Leaves: []int{0}}},
		{[]int{6, 1}, impl.Tree{Splits: []impl.Split{{F: 3, B: 7}}, Leaves: []int{3, 0}}}, {[]int{-1, -6}, impl.Tree{Splits: []impl.Split{{F: 3, B: 7}}, Leaves: []int{-1, -3}}}, {[]int{2, 0}, impl.Tree{Splits: []impl.Split{{F: 3, B: 7}}, Leaves: []int{1, 0}}}, {[]int{2, -2}, impl.Tree{Splits: []impl.Split{{F: 3, B: 7}}, Leaves: []int{1, -1}}},
	} {
		r := impl.Rows{X: []impl.Vec{{V: make([]int, feats)}, {V: slices.Repeat([]int{8}, feats)}}, Grads: c.grads, Ids: []int{0, 0}, Leaves: 1, L2: 1}
		tree, ok := impl.GrowTree(r, []impl.Vec{{}, {}, {}, {V: []int{8, 7, 0}}, {}, {V: []int{7}}}, impl.Grow{Depth: 3, Rate: 1000})
		if !sameTree(tree, c.want) || !ok {
			t.Errorf("of %v: %v, %v, not %v", c.grads, tree, ok, c.want)
		}
	}
}

// TestGrowTreeOfEvenRows: two rows for each way make all four questions worth it, in their order; one row makes the fourth worth nothing.
func TestGrowTreeOfEvenRows(t *testing.T) {
	splits := []impl.Split{{F: 0}, {F: 1}, {F: 2}, {F: 3}}
	for _, c := range []struct{ each, worth int }{{1, 3}, {2, 4}} {
		for depth := range deepest + 1 {
			tree, ok := impl.GrowTree(evenRows(c.each, 300, 1), bordersAtZero(0, 1, 2, 3, 4, 5), impl.Grow{Depth: depth, Rate: 1000})
			if want := splits[:min(depth, c.worth)]; !slices.Equal(tree.Splits, want) || len(tree.Leaves) != 1<<len(want) || !ok {
				t.Errorf("%d rows each, Depth %d: %v, %v, not %v", c.each, depth, tree, ok, want)
			}
		}
	}
	whole, _ := impl.GrowTree(evenRows(2, 300, 1), bordersAtZero(0, 1, 2, 3), impl.Grow{Depth: 4, Rate: 1000})
	if want := []int{-800, -400, -400, 0, -400, 0, 0, 400, -400, 0, 0, 400, 0, 400, 400, 800}; !slices.Equal(whole.Leaves, want) {
		t.Errorf("the leaves are %v, not %v", whole.Leaves, want)
	}
}

func TestGrowTreeAsTold(t *testing.T) {
	for i, r := range someUnasked() {
		for j, borders := range growBorders(r) {
			for depth := range deepest + 1 {
				g := impl.Grow{Depth: depth, Rate: goodRates()[(i+j+depth)%len(goodRates())]}
				tree, ok := impl.GrowTree(r, borders, g)
				if want := growAsTold(r, borders, g); !sameTree(tree, want) || !ok || !impl.TreeOk(tree) {
					t.Fatalf("GrowTree(%v, %v, %v) = %v, %v, not %v", r, borders, g, tree, ok, want)
				}
			}
		}
	}
}

// TestRatesOfATree: the questions do not hang on the rate, the leaves do.
func TestRatesOfATree(t *testing.T) {
	for seed := 1; seed <= 20; seed++ {
		r, borders := drawnSearch(seed, 30, 1, seed), drawnBorders(seed)
		for _, g := range goodGrows() {
			tree, ok := impl.GrowTree(r, borders, g)
			if want := growAsTold(r, borders, g); !sameTree(tree, want) || !ok {
				t.Fatalf("GrowTree(%v, %v, %v) = %v, %v, not %v", r, borders, g, tree, ok, want)
			}
		}
	}
}

// TestEachQuestionIsWorthAsking: each one asked makes the score greater; where they end ahead of Depth, no other one would.
func TestEachQuestionIsWorthAsking(t *testing.T) {
	for _, r := range someUnasked() {
		for _, borders := range growBorders(r) {
			tree, _ := impl.GrowTree(r, borders, impl.Grow{Depth: deepest, Rate: 1000})
			rows := r
			for _, split := range tree.Splits {
				score, gain := impl.ScoreOf(impl.CellsOf(rows), r.L2), impl.Gain(rows, split)
				if gain <= score || !slices.Contains(borders[split.F].V, split.B) {
					t.Fatalf("of %v, %v: %v is asked, with %d where %d was", r, borders, split, gain, score)
				}
				rows = impl.Asked(rows, split)
			}
			if len(tree.Splits) == deepest {
				continue
			}
			score := impl.ScoreOf(impl.CellsOf(rows), r.L2)
			for _, split := range splitsAsTold(borders) {
				if gain := impl.Gain(rows, split); gain > score {
					t.Fatalf("of %v, %v: %v is not asked, with %d where %d was", r, borders, split, gain, score)
				}
			}
		}
	}
}

// TestLesserDepth: with less Depth the beginning of the same questions comes.
func TestLesserDepth(t *testing.T) {
	for _, r := range someUnasked() {
		for _, borders := range growBorders(r) {
			whole, _ := impl.GrowTree(r, borders, impl.Grow{Depth: deepest, Rate: 1000})
			for depth := range deepest {
				tree, ok := impl.GrowTree(r, borders, impl.Grow{Depth: depth, Rate: 1000})
				if want := whole.Splits[:min(depth, len(whole.Splits))]; !slices.Equal(tree.Splits, want) || !ok {
					t.Fatalf("Depth %d of %v, %v: %v, not %v", depth, r, borders, tree.Splits, want)
				}
			}
		}
	}
}

// TestLeavesHaveTheValuesOfWhatCame is the second half of promise 8: the rows are sent through the tree by chapter 6, and each leaf is worked out from those that came.
func TestLeavesHaveTheValuesOfWhatCame(t *testing.T) {
	for i, r := range someUnasked() {
		for j, borders := range growBorders(r) {
			rate := goodRates()[(i+j)%len(goodRates())]
			tree, ok := impl.GrowTree(r, borders, impl.Grow{Depth: deepest, Rate: rate})
			cells := make([]impl.Cell, len(tree.Leaves))
			for row, x := range r.X {
				leaf := impl.LeafOf(tree, x.V)
				cells[leaf].N++
				cells[leaf].G += r.Grads[row]
			}
			if want := valuesAsTold(cells, r.L2, rate); !slices.Equal(tree.Leaves, want) || !ok {
				t.Fatalf("of %v, %v: the leaves are %v, not %v", r, borders, tree.Leaves, want)
			}
			if routed := impl.LeafValues(impl.CellsOf(impl.Routed(r, tree)), r.L2, rate); !slices.Equal(tree.Leaves, routed) {
				t.Fatalf("of %v, %v: the leaves are %v, but the rows that are routed have %v", r, borders, tree.Leaves, routed)
			}
		}
	}
}

// moved puts the rows in another order, all that is told of a row together.
func moved(r impl.Rows, order []int) impl.Rows {
	other := impl.Rows{Leaves: r.Leaves, L2: r.L2}
	for _, row := range order {
		other.X = append(other.X, r.X[row])
		other.Grads = append(other.Grads, r.Grads[row])
		other.Ids = append(other.Ids, r.Ids[row])
	}
	return other
}

// TestOrderOfRowsDoesNotMatter is the first half of promise 8.
func TestOrderOfRowsDoesNotMatter(t *testing.T) {
	for i, r := range someUnasked() {
		n := len(r.X)
		orders := [][]int{reversed(counted(n)), permAsTold(1+i, n), permAsTold(1000+i, n)}
		for j, borders := range growBorders(r) {
			g := impl.Grow{Depth: 1 + (i+j)%deepest, Rate: goodRates()[j%len(goodRates())]}
			want, _ := impl.GrowTree(r, borders, g)
			for _, order := range orders {
				if tree, ok := impl.GrowTree(moved(r, order), borders, g); !sameTree(tree, want) || !ok {
					t.Fatalf("GrowTree(%v, %v, %v) in the order %v = %v, %v, not %v", r, borders, g, order, tree, ok, want)
				}
			}
		}
	}
}

// TestEveryOrderOfFewRows: also each order of rows that tie.
func TestEveryOrderOfFewRows(t *testing.T) {
	r := fourRows(-1000, 1000, -1000, 1000)
	want := impl.Tree{Splits: []impl.Split{{F: 0}}, Leaves: []int{-666 - 1, 666}}
	for a := range 4 {
		for b := range 4 {
			for c := range 4 {
				order := []int{a, b, c, 6 - a - b - c}
				if !impl.PermOk(order) {
					continue
				}
				if tree, ok := impl.GrowTree(moved(r, order), bordersAtZero(0, 1), impl.Grow{Depth: 4, Rate: 1000}); !sameTree(tree, want) || !ok {
					t.Errorf("in the order %v: %v, %v", order, tree, ok)
				}
			}
		}
	}
}

// TestGrowTreeOfFewAndManyRows: no rows, one, and MaxRows of them, all Grads at a bound.
func TestGrowTreeOfFewAndManyRows(t *testing.T) {
	borders := slices.Repeat([]impl.Vec{{V: []int{-5, 0, 5, 19}}}, feats)
	for depth := range deepest + 1 {
		for _, c := range []struct {
			r    impl.Rows
			want impl.Tree
		}{
			{impl.Rows{Leaves: 1, L2: 1}, impl.Tree{Leaves: []int{0}}}, {impl.Rows{X: []impl.Vec{}, Grads: []int{}, Ids: []int{}, Leaves: 1, L2: topL2}, impl.Tree{Leaves: []int{0}}},
			{greatRows(1, topGrad, 1, 1), impl.Tree{Leaves: []int{1000000}}}, {greatRows(1, -topGrad, 1, topL2), impl.Tree{Leaves: []int{-1999}}},
			{greatRows(impl.MaxRows, topGrad, 1, 1), impl.Tree{Leaves: []int{1951219}}}, {greatRows(impl.MaxRows, -topGrad, 1, 1), impl.Tree{Leaves: []int{-1951220}}},
		} {
			if tree, ok := impl.GrowTree(c.r, borders, impl.Grow{Depth: depth, Rate: 1000}); !sameTree(tree, c.want) || !ok {
				t.Errorf("Depth %d of %v: %v, %v, not %v", depth, c.r, tree, ok, c.want)
			}
		}
	}
	half := greatRows(impl.MaxRows, topGrad, 1, 1)
	for row := range 20 {
		half.Grads[row] = -topGrad
	}
	want := impl.Tree{Splits: []impl.Split{{F: 2, B: 19}}, Leaves: []int{-1904762, 1904761}}
	if tree, ok := impl.GrowTree(half, borders, impl.Grow{Depth: 4, Rate: 1000}); !sameTree(tree, want) || !ok {
		t.Errorf("of %v: %v, %v, not %v", half, tree, ok, want)
	}
}

// refusesToGrow: every other answer than false is nothing.
func refusesToGrow(t *testing.T, r impl.Rows, borders []impl.Vec, g impl.Grow) {
	t.Helper()
	if tree, ok := impl.GrowTree(r, borders, g); !isNoTree(tree) || ok {
		t.Fatalf("GrowTree(%v, %v, %v) = %v, %v", r, borders, g, tree, ok)
	}
}

func TestGrowTreeOfOtherRows(t *testing.T) {
	for _, r := range append(noSearches(), moreLeaves()...) {
		for _, depth := range []int{0, 1, deepest} {
			refusesToGrow(t, r, make([]impl.Vec, feats), impl.Grow{Depth: depth, Rate: 1000})
			refusesToGrow(t, r, bordersAtZero(0, 1, 5), impl.Grow{Depth: depth, Rate: 1})
		}
	}
}

func TestGrowTreeOfOtherSettings(t *testing.T) {
	for _, g := range noGrows() {
		for _, r := range []impl.Rows{{Leaves: 1, L2: 1}, handSearch(), evenRows(2, 300, 1)} {
			refusesToGrow(t, r, make([]impl.Vec, feats), g)
			refusesToGrow(t, r, bordersAtZero(0, 1, 2, 3), g)
		}
	}
}

func TestGrowTreeOfOtherBorders(t *testing.T) {
	for _, r := range []impl.Rows{{Leaves: 1, L2: 1}, handSearch(), evenRows(2, 300, 1)} {
		for _, depth := range []int{0, 1, deepest} {
			g := impl.Grow{Depth: depth, Rate: 1000}
			for _, n := range []int{0, 1, feats - 1, feats + 1, 2 * feats} {
				refusesToGrow(t, r, make([]impl.Vec, n), g)
				refusesToGrow(t, r, slices.Repeat([]impl.Vec{{V: []int{0, 1}}}, n), g)
			}
			for f := range feats {
				for _, wrong := range noNumbers() {
					for at := range 3 {
						borders := bordersAtZero(0, 1, 2, 3)
						borders[f].V = slices.Insert([]int{0, 1}, at, wrong)
						refusesToGrow(t, r, borders, g)
					}
				}
			}
		}
	}
}

// TestBordersAtTheBounds: the bounds themselves may be asked, and come into the tree.
func TestBordersAtTheBounds(t *testing.T) {
	for f := range feats {
		for _, b := range []int{top, -top} {
			r := handSearch()
			for row := range r.X {
				r.X[row].V = make([]int, feats)
				r.X[row].V[f] = b + row/3
			}
			borders := make([]impl.Vec, feats)
			borders[f].V = []int{b}
			want := impl.Tree{Splits: []impl.Split{{F: f, B: b}}, Leaves: []int{-225, 225}}
			if tree, ok := impl.GrowTree(r, borders, impl.Grow{Depth: 2, Rate: 1000}); !sameTree(tree, want) || !ok || !impl.TreeOk(tree) {
				t.Errorf("of %v, %v: %v, %v, not %v", r, borders, tree, ok, want)
			}
		}
	}
}

// TestGrowTreeOfLongLists: more borders than MaxBorders, in any order and alike.
func TestGrowTreeOfLongLists(t *testing.T) {
	borders := make([]impl.Vec, feats)
	borders[1].V = slices.Repeat([]int{35, 0}, 500)
	borders[1].V[777] = 14
	want := impl.Tree{Splits: []impl.Split{{F: 1, B: 14}}, Leaves: []int{-225, 225}}
	if tree, ok := impl.GrowTree(handSearch(), borders, impl.Grow{Depth: 4, Rate: 1000}); !sameTree(tree, want) || !ok {
		t.Error(tree, ok)
	}
}

// routedAsTold: but the Ids and Leaves change, by the ways that the rows answer.
func routedAsTold(r impl.Rows, tree impl.Tree) impl.Rows {
	routed := copySearch(r)
	routed.Leaves = len(tree.Leaves)
	for row, x := range r.X {
		routed.Ids[row] = leafOfWay(counted(len(tree.Leaves)), wayOf(tree, x.V))
	}
	return routed
}

func TestRouted(t *testing.T) {
	for _, r := range someUnasked() {
		for _, tree := range someTrees() {
			routed := impl.Routed(r, tree)
			if want := routedAsTold(r, tree); !sameSearch(routed, want) || !impl.RowsOk(routed) {
				t.Fatalf("Routed(%v, %v) = %v, not %v", r, tree, routed, want)
			}
			for row, x := range r.X {
				if leaf := impl.LeafOf(tree, x.V); routed.Ids[row] != leaf {
					t.Fatalf("of %v, %v: row %d is in leaf %d, not %d", r, tree, row, routed.Ids[row], leaf)
				}
			}
		}
	}
}

// TestRoutedOneByOne: the same as Asked each of the splits.
func TestRoutedOneByOne(t *testing.T) {
	for _, r := range someUnasked() {
		for _, tree := range someTrees() {
			asked := r
			for _, split := range tree.Splits {
				asked = impl.Asked(asked, split)
			}
			if routed := impl.Routed(r, tree); !sameSearch(routed, asked) {
				t.Fatalf("Routed(%v, %v) = %v, not %v", r, tree, routed, asked)
			}
		}
	}
}

func TestRoutedWithoutSplits(t *testing.T) {
	for _, r := range someUnasked() {
		for _, tree := range []impl.Tree{{Leaves: []int{0}}, {Splits: []impl.Split{}, Leaves: []int{-top}}} {
			if routed := impl.Routed(r, tree); !sameSearch(routed, r) {
				t.Fatalf("Routed(%v, %v) = %v", r, tree, routed)
			}
		}
	}
}

func TestRoutedOfOthers(t *testing.T) {
	for _, tree := range noTrees() {
		for _, r := range []impl.Rows{{Leaves: 1, L2: 1}, handSearch(), evenRows(2, 300, 1)} {
			if routed := impl.Routed(r, tree); !isNoSearch(routed) {
				t.Fatalf("Routed(%v, %v) = %v", r, tree, routed)
			}
		}
	}
	for _, r := range append(noSearches(), moreLeaves()...) {
		for depth := range deepest + 1 {
			if routed := impl.Routed(r, treeOf(0, depth)); !isNoSearch(routed) {
				t.Fatalf("Routed(%v, %v) = %v", r, treeOf(0, depth), routed)
			}
		}
	}
}

// TestWhatGrowsStaysAsItWas: also where what is answered is written into, and where nothing is answered.
func TestWhatGrowsStaysAsItWas(t *testing.T) {
	trees := append(someTrees(), noTrees()...)
	grows := append(goodGrows(), impl.Grow{}, impl.Grow{Depth: deepest + 1, Rate: 1})
	for i, r := range slices.Concat(someUnasked(), noSearches(), moreLeaves()) {
		borders, tree, g := drawnBorders(1+i%17), trees[i%len(trees)], grows[i%len(grows)]
		handed, handedBorders, handedTree := searchInRoom(r), vecsInRoom(borders), treeInRoom(tree)
		for _, answer := range []impl.Rows{impl.Routed(handed, handedTree), impl.Routed(handed, treeOf(i%feats, i%deepest))} {
			wipeSearch(answer)
		}
		grown, _ := impl.GrowTree(handed, handedBorders, g)
		wipeTree(grown)
		impl.GrowTree(handed, handedBorders[:feats-1], g)
		if !searchRoomKept(handed, r) || !vecsRoomKept(handedBorders, borders) || !treeRoomKept(handedTree, tree) {
			t.Fatalf("%v, %v or %v was written into: %v, %v, %v", r, borders, tree, handed, handedBorders, handedTree)
		}
	}
}

func TestValuedCellsStayAsTheyWere(t *testing.T) {
	room := []impl.Cell{{N: 1, G: 5}, {N: 2, G: -5}, {N: -1, G: 5}, {N: 77, G: 78}}
	kept := slices.Clone(room)
	for n := range len(room) + 1 {
		want := [][]int{nil, {2}, {2, -2}, nil, nil}[n]
		got := impl.LeafValues(room[:n], 1, 1000)
		if !slices.Equal(got, want) || !slices.Equal(room, kept) {
			t.Errorf("LeafValues(%v, 1, 1000) = %v, and %v was %v", room[:n], got, room, kept)
		}
		wipe(got)
		if again := impl.LeafValues(room[:n], 1, 1000); !slices.Equal(again, want) {
			t.Errorf("LeafValues(%v, 1, 1000) = %v, when asked again", room[:n], again)
		}
	}
}

// TestRoutedRowsAreNew: neither what is handed in shares memory with the answer, nor do two lists of the answer, though those handed in be one.
func TestRoutedRowsAreNew(t *testing.T) {
	for depth := range deepest + 1 {
		one := []int{1, 2, 3, 4, 5, 6}
		r := impl.Rows{Grads: make([]int, 4), Leaves: 1, L2: 1}
		r.Ids = r.Grads
		r.X = slices.Repeat([]impl.Vec{{V: one}}, 4)
		tree := treeOf(0, depth)
		routed := impl.Routed(r, tree)
		kept := copySearch(routed)
		wipe(one)
		wipe(r.Grads)
		clear(r.X)
		wipeTree(tree)
		if !sameSearch(routed, kept) || !slices.Equal(routed.Grads, make([]int, 4)) || len(routed.Ids) != 4 {
			t.Fatalf("what was answered was written through what was handed in: %v, not %v", routed, kept)
		}
		for row := range routed.X {
			wipe(routed.X[row].V)
			kept.X[row].V = slices.Clone(routed.X[row].V)
			if !sameSearch(routed, kept) {
				t.Fatalf("lists of the answer share memory: %v, not %v", routed, kept)
			}
		}
		wipe(routed.Grads)
		kept.Grads = slices.Clone(routed.Grads)
		if !sameSearch(routed, kept) {
			t.Fatalf("lists of the answer share memory: %v, not %v", routed, kept)
		}
	}
}

func TestGrownTreesAreNew(t *testing.T) {
	for _, r := range someUnasked() {
		for _, borders := range growBorders(r) {
			g := impl.Grow{Depth: deepest, Rate: 1000}
			handed, handedBorders := copySearch(r), copyVecs(borders)
			tree, _ := impl.GrowTree(handed, handedBorders, g)
			again, _ := impl.GrowTree(handed, handedBorders, g)
			kept := copyTree(tree)
			wipeSearch(handed)
			wipeVecs(handedBorders)
			wipeTree(again)
			if !sameTree(tree, kept) {
				t.Fatalf("what %v, %v answered was written through them: %v, not %v", r, borders, tree, kept)
			}
			wipe(tree.Leaves)
			if !slices.Equal(tree.Splits, kept.Splits) {
				t.Fatalf("the lists of %v share memory", tree)
			}
		}
	}
}

// TestGrowReadsNothingBehindTheEnd: the room behind must not make up for what is too little, nor be too much.
func TestGrowReadsNothingBehindTheEnd(t *testing.T) {
	whole := evenRows(2, 300, 1)
	g := impl.Grow{Depth: deepest, Rate: 1000}
	few := impl.Rows{X: whole.X[:9], Grads: whole.Grads[:9], Ids: whole.Ids[:9], Leaves: 1, L2: 1}
	borders := bordersAtZero(0, 1, 2, 3)
	want := growAsTold(copySearch(few), borders, g)
	if tree, ok := impl.GrowTree(few, borders, g); !sameTree(tree, want) || !ok {
		t.Errorf("GrowTree(%v) with room behind = %v, %v, not %v", few, tree, ok, want)
	}
	if routed := impl.Routed(few, treeOf(0, 2)); !sameSearch(routed, routedAsTold(copySearch(few), treeOf(0, 2))) {
		t.Errorf("Routed(%v) with room behind = %v", few, routed)
	}
	refusesToGrow(t, whole, borders[:feats-1], g)
	long := []int{0, top + 1}
	borders[0].V = long[:1]
	if tree, ok := impl.GrowTree(whole, borders, g); !slices.Equal(tree.Splits, []impl.Split{{F: 0}, {F: 1}, {F: 2}, {F: 3}}) || !ok {
		t.Error(tree, ok)
	}
	splits := append(slices.Clone(treeOf(0, 2).Splits), impl.Split{F: -1})
	short := impl.Tree{Splits: splits[:2], Leaves: []int{1, 2, 3, 4}}
	if routed := impl.Routed(whole, short); !sameSearch(routed, routedAsTold(whole, treeOf(0, 2))) {
		t.Error(routed)
	}
}

// TestGrowAgain: the same answer however often it is asked, whatever was asked between, and by several at once.
func TestGrowAgain(t *testing.T) {
	for seed := 1; seed <= 5; seed++ {
		r, borders, g := drawnSearch(seed, impl.MaxRows, 1, seed), drawnBorders(seed), impl.Grow{Depth: deepest, Rate: 700}
		want := growAsTold(r, borders, g)
		routed := routedAsTold(r, want)
		var askers sync.WaitGroup
		for range 8 {
			askers.Go(func() {
				for range 40 {
					if tree, ok := impl.GrowTree(r, borders, g); !sameTree(tree, want) || !ok || !sameSearch(impl.Routed(r, tree), routed) {
						t.Errorf("GrowTree(%v, %v, %v) = %v, %v, not %v", r, borders, g, tree, ok, want)
						return
					}
					impl.GrowTree(handSearch(), borders, g)
					impl.GrowTree(impl.Rows{}, borders, g)
				}
			})
		}
		askers.Wait()
	}
}

// TestGrowLeavesNobodyAtWork: the time is for those that are just about to end.
func TestGrowLeavesNobodyAtWork(t *testing.T) {
	before := runtime.NumGoroutine()
	for seed := 1; seed <= 100; seed++ {
		impl.GrowTree(drawnSearch(seed, 20, 1, 1), drawnBorders(seed), impl.Grow{Depth: deepest, Rate: 1})
	}
	for range 1000 {
		if runtime.NumGoroutine() <= before {
			return
		}
		time.Sleep(5 * time.Millisecond)
	}
	t.Fatalf("%d are at work, where %d were", runtime.NumGoroutine(), before)
}

package tests

import (
	"math"
	"slices"
	"testing"

	"loop.example/g00566/impl"
)

const (
	feats   = impl.MaxFeats
	deepest = impl.MaxDepth
)

// treeOf asks the features in order from the first one on, with different borders and leaves.
func treeOf(first int, depth int) impl.Tree {
	tree := impl.Tree{Leaves: make([]int, 1<<depth)}
	for i := range depth {
		tree.Splits = append(tree.Splits, impl.Split{F: (first + i) % feats, B: 100*i - 150})
	}
	for i := range tree.Leaves {
		tree.Leaves[i] = 1000*i - 3000 - first
	}
	return tree
}

// boundTree has but bounds as borders and leaves.
func boundTree(depth int) impl.Tree {
	tree := treeOf(feats-1, depth)
	for i := range tree.Splits {
		tree.Splits[i].B = top - 2*top*(i%2)
	}
	for i := range tree.Leaves {
		tree.Leaves[i] = -top + 2*top*(i%2)
	}
	return tree
}

// drawnTree may ask one feature several times, with one border or several; all hangs on the seed.
func drawnTree(seed int) impl.Tree {
	numbers := drawnNumbers(seed, 2*deepest, 12)
	tree := impl.Tree{Leaves: drawnNumbers(seed+1, 1<<(seed%(deepest+1)), 1000)}
	for i := range seed % (deepest + 1) {
		tree.Splits = append(tree.Splits, impl.Split{F: (numbers[2*i] + 6) % feats, B: numbers[2*i+1] / 3})
	}
	return tree
}

func someTrees() []impl.Tree {
	list := []impl.Tree{
		{Leaves: []int{0}}, {Leaves: []int{top}}, {Leaves: []int{-top}},
		{Splits: []impl.Split{}, Leaves: []int{7}},
		{Splits: []impl.Split{{F: 0, B: 0}}, Leaves: []int{-1, 1}},
		{Splits: []impl.Split{{F: feats - 1, B: top}}, Leaves: []int{-top, top}},
		{Splits: []impl.Split{{F: 0, B: -top}}, Leaves: []int{top, -top}},
		{Splits: []impl.Split{{F: 3, B: 5}, {F: 3, B: 5}}, Leaves: []int{1, 2, 3, 4}},
		{Splits: []impl.Split{{F: 3, B: 9}, {F: 3, B: 5}, {F: 3, B: 7}}, Leaves: counted(8)},
	}
	for depth := range deepest + 1 {
		for first := range feats {
			list = append(list, treeOf(first, depth))
		}
		list = append(list, boundTree(depth))
	}
	for seed := range 40 {
		list = append(list, drawnTree(1+seed))
	}
	return list
}

// copyTree shares no memory with what it is handed.
func copyTree(tree impl.Tree) impl.Tree {
	return impl.Tree{Splits: slices.Clone(tree.Splits), Leaves: slices.Clone(tree.Leaves)}
}

func sameTree(a impl.Tree, b impl.Tree) bool {
	return slices.Equal(a.Splits, b.Splits) && slices.Equal(a.Leaves, b.Leaves)
}

func isNoTree(tree impl.Tree) bool {
	return len(tree.Splits) == 0 && len(tree.Leaves) == 0
}

func noFeats() []int {
	return []int{-1, -2, feats, feats + 1, -feats, math.MinInt, math.MaxInt}
}

// splitFaults: the tree with one fault in each of its splits.
func splitFaults(tree impl.Tree) []impl.Tree {
	var list []impl.Tree
	for i := range tree.Splits {
		for _, f := range noFeats() {
			wrong := copyTree(tree)
			wrong.Splits[i].F = f
			list = append(list, wrong)
		}
		for _, b := range noNumbers() {
			wrong := copyTree(tree)
			wrong.Splits[i].B = b
			list = append(list, wrong)
		}
	}
	return list
}

// leafFaults: the tree with one fault in each of its leaves, and with leaves too few and too many.
func leafFaults(tree impl.Tree) []impl.Tree {
	var list []impl.Tree
	for i := range tree.Leaves {
		for _, value := range noNumbers() {
			wrong := copyTree(tree)
			wrong.Leaves[i] = value
			list = append(list, wrong)
		}
	}
	n := len(tree.Leaves)
	for _, leaves := range []int{0, n / 2, n - 1, n + 1, 2 * n, 4 * n} {
		wrong := copyTree(tree)
		wrong.Leaves = slices.Repeat([]int{7}, leaves)
		list = append(list, wrong)
	}
	return list
}

func noTrees() []impl.Tree {
	list := []impl.Tree{{}, {Splits: []impl.Split{}, Leaves: []int{}}, {Leaves: []int{1, 2}}, {Splits: []impl.Split{{}}}}
	for _, depth := range []int{deepest + 1, deepest + 2, 10} {
		list = append(list, treeOf(0, depth), impl.Tree{Splits: make([]impl.Split, depth), Leaves: make([]int, 1<<deepest)})
	}
	list = append(list, impl.Tree{Splits: make([]impl.Split, 100)}, impl.Tree{Splits: make([]impl.Split, 64), Leaves: []int{1}})
	for depth := range deepest + 1 {
		list = append(list, splitFaults(treeOf(1, depth))...)
		list = append(list, leafFaults(treeOf(1, depth))...)
	}
	return list
}

// noXs: lists that have not MaxFeats numbers.
func noXs() [][]int {
	return [][]int{nil, {}, {1}, counted(feats - 2), counted(feats - 1), counted(feats + 1), counted(2 * feats), make([]int, 1000)}
}

// someXs: numbers at each border of the tree, just below and just beyond it, and far from all of them.
func someXs(tree impl.Tree) [][]int {
	near := []int{math.MinInt, math.MaxInt, 0, top + 1, -top - 1}
	for _, split := range tree.Splits {
		near = append(near, split.B-1, split.B, split.B+1)
	}
	var list [][]int
	for _, number := range near {
		list = append(list, slices.Repeat([]int{number}, feats))
	}
	for turn := range 60 {
		x := drawnNumbers(7+turn, feats, 2*len(near))
		for i := range x {
			x[i] = near[(x[i]+len(near))%len(near)]
		}
		list = append(list, x)
	}
	return list
}

// xThatSays answers the questions of a tree that asks no feature twice; how says which number a yes and a no come from.
func xThatSays(tree impl.Tree, yes []bool, how int) []int {
	x := slices.Repeat([]int{math.MaxInt}, feats)
	for i, split := range tree.Splits {
		if yes[i] {
			x[split.F] = []int{split.B + 1, math.MaxInt, split.B + 1000*top}[how]
		} else {
			x[split.F] = []int{split.B, split.B - 1, math.MinInt}[how]
		}
	}
	return x
}

const hows = 3

// waysToAnswer: every way to answer k questions, the first question changing fastest.
func waysToAnswer(k int) [][]bool {
	ways := [][]bool{{}}
	for range k {
		var longer [][]bool
		for _, last := range []bool{false, true} {
			for _, way := range ways {
				longer = append(longer, append(slices.Clone(way), last))
			}
		}
		ways = longer
	}
	return ways
}

// leafOfWay halves the leaves by the last question first, so that it needs no bits.
func leafOfWay(leaves []int, way []bool) int {
	for _, yes := range slices.Backward(way) {
		half := len(leaves) / 2
		if yes {
			leaves = leaves[half:]
		} else {
			leaves = leaves[:half]
		}
	}
	return leaves[0]
}

func wayOf(tree impl.Tree, x []int) []bool {
	way := make([]bool, len(tree.Splits))
	for i, split := range tree.Splits {
		way[i] = x[split.F] > split.B
	}
	return way
}

func evalAsTold(tree impl.Tree, x []int) int {
	return leafOfWay(tree.Leaves, wayOf(tree, x))
}

// grownAsTold looks the places of the nodes up among the ways to answer.
func grownAsTold(tree impl.Tree) []impl.Node {
	var ways [][]bool
	for k := range len(tree.Splits) + 1 {
		ways = append(ways, waysToAnswer(k)...)
	}
	placeOf := func(way []bool, last bool) int {
		longer := append(slices.Clone(way), last)
		return slices.IndexFunc(ways, func(other []bool) bool { return slices.Equal(other, longer) })
	}
	list := make([]impl.Node, len(ways))
	for i, way := range ways {
		if k := len(way); k < len(tree.Splits) {
			list[i] = impl.Node{F: tree.Splits[k].F, B: tree.Splits[k].B, Left: placeOf(way, false), Right: placeOf(way, true)}
		} else {
			list[i] = impl.Node{Left: -1, Right: -1, Value: leafOfWay(tree.Leaves, way)}
		}
	}
	return list
}

func TestTreeConstants(t *testing.T) {
	if impl.MaxFeats != 6 || impl.MaxDepth != 4 {
		t.Fatal(impl.MaxFeats, impl.MaxDepth)
	}
}

func TestTreeOk(t *testing.T) {
	for _, tree := range someTrees() {
		if !impl.TreeOk(tree) {
			t.Errorf("TreeOk(%v) is false", tree)
		}
	}
	for depth := range deepest + 1 {
		for i := range depth {
			for _, split := range []impl.Split{{F: 0, B: -top}, {F: feats - 1, B: top}, {F: feats - 1, B: -top}, {F: 0, B: top}} {
				tree := treeOf(2, depth)
				tree.Splits[i] = split
				if !impl.TreeOk(tree) {
					t.Errorf("TreeOk(%v) is false", tree)
				}
			}
		}
	}
}

func TestTreeOkOfNoTrees(t *testing.T) {
	for _, tree := range noTrees() {
		if impl.TreeOk(tree) {
			t.Errorf("TreeOk(%v) is true", tree)
		}
	}
}

// TestLeafOf: worked out by hand from the chapter's words.
func TestLeafOf(t *testing.T) {
	two := impl.Tree{Splits: []impl.Split{{F: 0, B: 1000}, {F: 2, B: 0}}, Leaves: []int{10, 20, 30, 40}}
	three := impl.Tree{Splits: []impl.Split{{F: 5, B: -1}, {F: 0, B: 0}, {F: 1, B: 1}}, Leaves: []int{1, 2, 3, 4, 5, 6, 7, 8}}
	for _, c := range []struct {
		tree  impl.Tree
		x     []int
		leaf  int
		value int
	}{
		{impl.Tree{Leaves: []int{9}}, []int{1, 2, 3, 4, 5, 6}, 0, 9},
		{two, []int{0, 0, 0, 0, 0, 0}, 0, 10}, {two, []int{1000, 9, 0, 9, 9, 9}, 0, 10}, {two, []int{1001, 0, 0, 0, 0, 0}, 1, 20},
		{two, []int{1000, 0, 1, 0, 0, 0}, 2, 30}, {two, []int{1001, -9, 1, -9, -9, -9}, 3, 40},
		{three, []int{0, 1, 0, 0, 0, -1}, 0, 1}, {three, []int{0, 1, 0, 0, 0, 0}, 1, 2}, {three, []int{1, 1, 0, 0, 0, -1}, 2, 3}, {three, []int{1, 1, 0, 0, 0, 0}, 3, 4},
		{three, []int{0, 2, 0, 0, 0, -1}, 4, 5}, {three, []int{0, 2, 0, 0, 0, 0}, 5, 6}, {three, []int{1, 2, 0, 0, 0, -1}, 6, 7}, {three, []int{1, 2, 0, 0, 0, 0}, 7, 8},
	} {
		if leaf, value := impl.LeafOf(c.tree, c.x), impl.Eval(c.tree, c.x); leaf != c.leaf || value != c.value {
			t.Errorf("of %v, %v: LeafOf %d, Eval %d, not %d, %d", c.tree, c.x, leaf, value, c.leaf, c.value)
		}
	}
}

// TestQuestionsCountByTheirPlace: question i alone counts 2 to the i, several count together.
func TestQuestionsCountByTheirPlace(t *testing.T) {
	for depth := range deepest + 1 {
		for first := range feats {
			tree := treeOf(first, depth)
			for _, way := range waysToAnswer(depth) {
				want, counts := 0, 1
				for _, yes := range way {
					if yes {
						want += counts
					}
					counts *= 2
				}
				for how := range hows {
					x := xThatSays(tree, way, how)
					if leaf, value := impl.LeafOf(tree, x), impl.Eval(tree, x); leaf != want || value != tree.Leaves[want] {
						t.Fatalf("of %v, %v: LeafOf %d, Eval %d, not %d, %d", tree, x, leaf, value, want, tree.Leaves[want])
					}
				}
			}
		}
	}
}

// TestBordersOfQuestions: a number that is equal to B, just below and just beyond it, with all else saying the other way.
func TestBordersOfQuestions(t *testing.T) {
	for f := range feats {
		for _, b := range goodNumbers() {
			tree := impl.Tree{Splits: []impl.Split{{F: f, B: b}}, Leaves: []int{-5, 5}}
			for _, c := range []struct{ number, leaf int }{{b, 0}, {b - 1, 0}, {math.MinInt, 0}, {b + 1, 1}, {math.MaxInt, 1}} {
				x := slices.Repeat([]int{[]int{math.MaxInt, math.MinInt}[c.leaf]}, feats)
				x[f] = c.number
				value, ok := impl.Walk(impl.Grown(tree), x)
				if impl.LeafOf(tree, x) != c.leaf || impl.Eval(tree, x) != tree.Leaves[c.leaf] || value != tree.Leaves[c.leaf] || !ok {
					t.Errorf("of %v, %v: LeafOf %d, Eval %d, Walk %d, %v", tree, x, impl.LeafOf(tree, x), impl.Eval(tree, x), value, ok)
				}
			}
		}
	}
}

func TestTreesAsTold(t *testing.T) {
	for _, tree := range someTrees() {
		for _, x := range someXs(tree) {
			want := evalAsTold(tree, x)
			if leaf := impl.LeafOf(tree, x); leaf < 0 || leaf >= len(tree.Leaves) || tree.Leaves[leaf] != want || impl.Eval(tree, x) != want {
				t.Fatalf("of %v, %v: LeafOf %d, Eval %d, not %d", tree, x, leaf, impl.Eval(tree, x), want)
			}
		}
	}
}

func TestNoTreesSayNothing(t *testing.T) {
	for _, tree := range noTrees() {
		for _, x := range append(noXs(), someXs(treeOf(1, deepest))...) {
			if leaf, value := impl.LeafOf(tree, x), impl.Eval(tree, x); leaf != 0 || value != 0 {
				t.Fatalf("of %v, %v: LeafOf %d, Eval %d", tree, x, leaf, value)
			}
		}
		if got := impl.Grown(tree); len(got) != 0 {
			t.Fatalf("Grown(%v) = %v", tree, got)
		}
		for i := -1; i <= len(tree.Splits); i++ {
			if got := impl.Flipped(tree, i); !isNoTree(got) {
				t.Fatalf("Flipped(%v, %d) = %v", tree, i, got)
			}
		}
	}
}

// TestTreesOfWrongXs: also where the number that is asked for is there, and where the one leaf would need none.
func TestTreesOfWrongXs(t *testing.T) {
	for _, tree := range append(someTrees(), impl.Tree{Leaves: []int{5}}, impl.Tree{Splits: []impl.Split{{F: 0, B: -1}}, Leaves: []int{3, 4}}) {
		for _, x := range noXs() {
			value, ok := impl.Walk(impl.Grown(tree), x)
			if leaf, other := impl.LeafOf(tree, x), impl.Eval(tree, x); leaf != 0 || other != 0 || value != 0 || ok {
				t.Fatalf("of %v, %v: LeafOf %d, Eval %d, Walk %d, %v", tree, x, leaf, other, value, ok)
			}
		}
	}
}

// TestGrown: worked out by hand from the chapter's words.
func TestGrown(t *testing.T) {
	one, two, three := impl.Split{F: 4, B: 11}, impl.Split{F: 0, B: -22}, impl.Split{F: 5, B: 33}
	for _, c := range []struct {
		tree impl.Tree
		want []impl.Node
	}{
		{impl.Tree{Leaves: []int{7}}, []impl.Node{{Left: -1, Right: -1, Value: 7}}},
		{impl.Tree{Splits: []impl.Split{one}, Leaves: []int{7, 8}}, []impl.Node{{F: 4, B: 11, Left: 1, Right: 2}, {Left: -1, Right: -1, Value: 7}, {Left: -1, Right: -1, Value: 8}}},
		{impl.Tree{Splits: []impl.Split{one, two}, Leaves: []int{6, 7, 8, 9}}, []impl.Node{
			{F: 4, B: 11, Left: 1, Right: 2},
			{F: 0, B: -22, Left: 3, Right: 5}, {F: 0, B: -22, Left: 4, Right: 6},
			{Left: -1, Right: -1, Value: 6}, {Left: -1, Right: -1, Value: 7}, {Left: -1, Right: -1, Value: 8}, {Left: -1, Right: -1, Value: 9},
		}},
		{impl.Tree{Splits: []impl.Split{one, two, three}, Leaves: []int{1, 2, 3, 4, 5, 6, 7, 8}}, []impl.Node{
			{F: 4, B: 11, Left: 1, Right: 2},
			{F: 0, B: -22, Left: 3, Right: 5}, {F: 0, B: -22, Left: 4, Right: 6},
			{F: 5, B: 33, Left: 7, Right: 11}, {F: 5, B: 33, Left: 8, Right: 12}, {F: 5, B: 33, Left: 9, Right: 13}, {F: 5, B: 33, Left: 10, Right: 14},
			{Left: -1, Right: -1, Value: 1}, {Left: -1, Right: -1, Value: 2}, {Left: -1, Right: -1, Value: 3}, {Left: -1, Right: -1, Value: 4},
			{Left: -1, Right: -1, Value: 5}, {Left: -1, Right: -1, Value: 6}, {Left: -1, Right: -1, Value: 7}, {Left: -1, Right: -1, Value: 8},
		}},
	} {
		if got := impl.Grown(c.tree); !slices.Equal(got, c.want) {
			t.Errorf("Grown(%v) = %v, not %v", c.tree, got, c.want)
		}
	}
}

func TestGrownAsTold(t *testing.T) {
	for _, tree := range someTrees() {
		got, want := impl.Grown(tree), grownAsTold(tree)
		if !slices.Equal(got, want) || len(got) != 2*len(tree.Leaves)-1 {
			t.Fatalf("Grown(%v) = %v, not %v", tree, got, want)
		}
	}
}

// TestGrownTreesSayTheSame is the first half of promise 6.
func TestGrownTreesSayTheSame(t *testing.T) {
	for _, tree := range someTrees() {
		nodes := impl.Grown(tree)
		for _, x := range someXs(tree) {
			if value, ok := impl.Walk(nodes, x); value != impl.Eval(tree, x) || value != evalAsTold(tree, x) || !ok {
				t.Fatalf("of %v, %v: Walk %d, %v, Eval %d", tree, x, value, ok, impl.Eval(tree, x))
			}
		}
	}
	for depth := range deepest + 1 {
		tree := treeOf(depth, depth)
		for _, way := range waysToAnswer(depth) {
			for how := range hows {
				if value, ok := impl.Walk(impl.Grown(tree), xThatSays(tree, way, how)); value != leafOfWay(tree.Leaves, way) || !ok {
					t.Fatalf("of %v, answered %v: Walk %d, %v", tree, way, value, ok)
				}
			}
		}
	}
}

func last(value int) impl.Node {
	return impl.Node{Left: -1, Right: -1, Value: value}
}

// TestWalk goes over nodes that no tree of this chapter grows into.
func TestWalk(t *testing.T) {
	x := []int{10, 20, 30, 40, 50, math.MaxInt}
	for _, c := range []struct {
		list []impl.Node
		want int
	}{
		{[]impl.Node{last(5)}, 5}, {[]impl.Node{last(5), last(6)}, 5}, {[]impl.Node{last(math.MinInt)}, math.MinInt}, {[]impl.Node{last(top + 1)}, top + 1},
		// Only Left tells that a node is a last one; what else it has is not asked.
		{[]impl.Node{{Left: -1, Value: 3}}, 3}, {[]impl.Node{{Left: -1, Right: 77, Value: 3}}, 3}, {[]impl.Node{{F: -1, Left: -1, Right: -1, Value: 3}}, 3}, {[]impl.Node{{F: feats, B: math.MaxInt, Left: -1, Right: -1, Value: 3}}, 3},
		// One that leads on may have a Value.
		{[]impl.Node{{F: 0, B: 9, Left: 1, Right: 2, Value: 9}, last(1), last(2)}, 2}, {[]impl.Node{{F: 0, B: 10, Left: 1, Right: 2, Value: 9}, last(1), last(2)}, 1}, {[]impl.Node{{F: 0, B: 11, Left: 1, Right: 2, Value: 9}, last(1), last(2)}, 1},
		// Both ways to one node; the ways crossed; nodes left out.
		{[]impl.Node{{F: 1, B: 0, Left: 1, Right: 1}, last(4)}, 4}, {[]impl.Node{{F: 1, B: 19, Left: 2, Right: 1}, last(1), last(2)}, 1}, {[]impl.Node{{F: 1, B: 20, Left: 2, Right: 1}, last(1), last(2)}, 2}, {[]impl.Node{{F: 1, Left: 3, Right: 4}, last(1), last(2), last(3), last(4)}, 4},
		// Borders that are not FixOk.
		{[]impl.Node{{F: 5, B: math.MaxInt, Left: 1, Right: 2}, last(1), last(2)}, 1}, {[]impl.Node{{F: 5, B: math.MaxInt - 1, Left: 1, Right: 2}, last(1), last(2)}, 2}, {[]impl.Node{{F: 0, B: math.MinInt, Left: 1, Right: 2}, last(1), last(2)}, 2},
		// Long ways, deeper than MaxDepth.
		{chain(7, 40), 40}, {chain(1000, 0), 1000},
	} {
		if value, ok := impl.Walk(c.list, x); value != c.want || !ok {
			t.Errorf("Walk(%v, %v) = %d, %v, not %d", c.list, x, value, ok, c.want)
		}
	}
}

// chain: n nodes, each with the next one for a yes; all yeses lead to a last one that says n, any no to one that says 40.
func chain(n int, border int) []impl.Node {
	var list []impl.Node
	for i := range n {
		list = append(list, impl.Node{F: 3, B: border, Left: n + 1, Right: i + 1})
	}
	return append(list, last(n), last(40))
}

func TestWalkOfNoNodes(t *testing.T) {
	for _, list := range [][]impl.Node{nil, {}, []impl.Node{last(5)}[:0]} {
		for _, x := range append(noXs(), counted(feats)) {
			if value, ok := impl.Walk(list, x); value != 0 || ok {
				t.Errorf("Walk(%v, %v) = %d, %v", list, x, value, ok)
			}
		}
	}
}

func TestWalkOfWrongXs(t *testing.T) {
	for _, list := range [][]impl.Node{{last(5)}, {{Left: 1, Right: 2}, last(1), last(2)}, chain(5, 0)} {
		for _, x := range noXs() {
			if value, ok := impl.Walk(list, x); value != 0 || ok {
				t.Errorf("Walk(%v, %v) = %d, %v", list, x, value, ok)
			}
		}
	}
}

// nodeFaults: a node that leads on, at a place in a list of some length, with one fault.
func nodeFaults(right impl.Node, place int, length int) []impl.Node {
	var list []impl.Node
	for _, f := range noFeats() {
		wrong := right
		wrong.F = f
		list = append(list, wrong)
	}
	for _, to := range []int{place, place - 1, 0, length, length + 1, -2, math.MinInt, math.MaxInt, -1} {
		byNo, byYes := right, right
		byNo.Left, byYes.Right = to, to
		list = append(list, byYes)
		if to != -1 { // a Left of -1 is no fault
			list = append(list, byNo)
		}
	}
	return list
}

// TestWalkOfWrongNodes puts the fault into each node that leads on: it is told where that node is come to, and there alone.
func TestWalkOfWrongNodes(t *testing.T) {
	for depth := 1; depth <= deepest; depth++ {
		tree := treeOf(2, depth)
		nodes := impl.Grown(tree)
		for place := range len(nodes) - len(tree.Leaves) {
			for _, fault := range nodeFaults(nodes[place], place, len(nodes)) {
				wrong := slices.Clone(nodes)
				wrong[place] = fault
				for _, way := range waysToAnswer(depth) {
					walkWithFault(t, tree, wrong, place, way)
				}
			}
		}
	}
}

// walkWithFault finds out from the right nodes whether the wrong one is come to.
func walkWithFault(t *testing.T, tree impl.Tree, wrong []impl.Node, place int, way []bool) {
	t.Helper()
	nodes, at, come := grownAsTold(tree), 0, false
	for _, yes := range way {
		come = come || at == place
		if yes {
			at = nodes[at].Right
		} else {
			at = nodes[at].Left
		}
	}
	want := leafOfWay(tree.Leaves, way)
	if come {
		want = 0
	}
	if value, ok := impl.Walk(wrong, xThatSays(tree, way, 0)); value != want || ok == come {
		t.Fatalf("Walk(%v), answered %v, with a fault at %d: %d, %v", wrong, way, place, value, ok)
	}
}

// TestWalkAsksBothWays: the way that is not taken must lead on too.
func TestWalkAsksBothWays(t *testing.T) {
	x := make([]int, feats)
	for _, to := range []int{0, -2, 3, 4, math.MaxInt, math.MinInt} {
		for _, list := range [][]impl.Node{
			{{B: 0, Left: 1, Right: to}, last(1), last(2)}, {{B: -1, Left: to, Right: 2}, last(1), last(2)}, {{B: 0, Left: to, Right: 2}, last(1), last(2)}, {{B: -1, Left: 1, Right: to}, last(1), last(2)},
		} {
			if value, ok := impl.Walk(list, x); value != 0 || ok {
				t.Errorf("Walk(%v, %v) = %d, %v", list, x, value, ok)
			}
		}
	}
	if value, ok := impl.Walk([]impl.Node{{B: 0, Left: 1, Right: -1}, last(1)}, x); value != 0 || ok {
		t.Error(value, ok)
	}
}

// TestWalkReadsNothingBehindTheEnd: a place in the room behind is none.
func TestWalkReadsNothingBehindTheEnd(t *testing.T) {
	room := []impl.Node{{F: 0, B: 0, Left: 1, Right: 2}, last(1), last(2)}
	for n := range 3 {
		if value, ok := impl.Walk(room[:n], make([]int, feats)); value != 0 || ok {
			t.Errorf("Walk(%v) = %d, %v", room[:n], value, ok)
		}
	}
}

// TestFlipped: worked out by hand from the chapter's words.
func TestFlipped(t *testing.T) {
	a, b, c, d := impl.Split{F: 0, B: 1}, impl.Split{F: 1, B: 2}, impl.Split{F: 2, B: 3}, impl.Split{F: 0, B: 4}
	two := impl.Tree{Splits: []impl.Split{a, b}, Leaves: []int{0, 1, 2, 3}}
	three := impl.Tree{Splits: []impl.Split{a, b, c}, Leaves: counted(8)}
	four := impl.Tree{Splits: []impl.Split{a, b, c, d}, Leaves: counted(16)}
	for _, c := range []struct {
		tree impl.Tree
		i    int
		want impl.Tree
	}{
		{two, 0, impl.Tree{Splits: []impl.Split{b, a}, Leaves: []int{0, 2, 1, 3}}},
		{three, 0, impl.Tree{Splits: []impl.Split{b, a, c}, Leaves: []int{0, 2, 1, 3, 4, 6, 5, 7}}},
		{three, 1, impl.Tree{Splits: []impl.Split{a, c, b}, Leaves: []int{0, 1, 4, 5, 2, 3, 6, 7}}},
		{four, 0, impl.Tree{Splits: []impl.Split{b, a, c, d}, Leaves: []int{0, 2, 1, 3, 4, 6, 5, 7, 8, 10, 9, 11, 12, 14, 13, 15}}},
		{four, 1, impl.Tree{Splits: []impl.Split{a, c, b, d}, Leaves: []int{0, 1, 4, 5, 2, 3, 6, 7, 8, 9, 12, 13, 10, 11, 14, 15}}},
		{four, 2, impl.Tree{Splits: []impl.Split{a, b, d, c}, Leaves: []int{0, 1, 2, 3, 8, 9, 10, 11, 4, 5, 6, 7, 12, 13, 14, 15}}},
	} {
		if got := impl.Flipped(c.tree, c.i); !sameTree(got, c.want) {
			t.Errorf("Flipped(%v, %d) = %v, not %v", c.tree, c.i, got, c.want)
		}
	}
}

// TestTreesAskedInAnotherOrderSayTheSame is the second half of promise 6.
func TestTreesAskedInAnotherOrderSayTheSame(t *testing.T) {
	for _, tree := range someTrees() {
		for i := 0; i < len(tree.Splits)-1; i++ {
			flipped := impl.Flipped(tree, i)
			splits := slices.Clone(tree.Splits)
			splits[i], splits[i+1] = splits[i+1], splits[i]
			if !impl.TreeOk(flipped) || !slices.Equal(flipped.Splits, splits) {
				t.Fatalf("Flipped(%v, %d) = %v", tree, i, flipped)
			}
			for _, x := range someXs(tree) {
				value, ok := impl.Walk(impl.Grown(flipped), x)
				if want := evalAsTold(tree, x); impl.Eval(flipped, x) != want || impl.Eval(tree, x) != want || value != want || !ok {
					t.Fatalf("Flipped(%v, %d) = %v: of %v Eval %d, not %d", tree, i, flipped, x, impl.Eval(flipped, x), want)
				}
			}
			if back := impl.Flipped(flipped, i); !sameTree(back, tree) {
				t.Fatalf("Flipped(%v, %d) and back: %v", tree, i, back)
			}
		}
	}
}

// TestFlippedEveryWay: for every way to answer, all questions with a feature of their own.
func TestFlippedEveryWay(t *testing.T) {
	for depth := 2; depth <= deepest; depth++ {
		tree := treeOf(3, depth)
		for i := range depth - 1 {
			flipped := impl.Flipped(tree, i)
			for _, way := range waysToAnswer(depth) {
				for how := range hows {
					x := xThatSays(tree, way, how)
					if got, want := impl.Eval(flipped, x), leafOfWay(tree.Leaves, way); got != want {
						t.Fatalf("Flipped(%v, %d): of %v Eval %d, not %d", tree, i, x, got, want)
					}
				}
			}
		}
	}
}

func TestFlippedOfOtherPlaces(t *testing.T) {
	for _, tree := range someTrees() {
		n := len(tree.Splits)
		for _, i := range []int{-1, -2, n - 1, n, n + 1, math.MinInt, math.MinInt + 1, math.MaxInt - 1, math.MaxInt} {
			if got := impl.Flipped(tree, i); !isNoTree(got) {
				t.Errorf("Flipped(%v, %d) = %v", tree, i, got)
			}
		}
		if got := impl.Flipped(tree, 0); isNoTree(got) != (n < 2) {
			t.Errorf("Flipped(%v, 0) = %v", tree, got)
		}
	}
}

func TestSum(t *testing.T) {
	tree := impl.Tree{Splits: []impl.Split{{F: 0, B: 0}}, Leaves: []int{-300, 500}}
	up, down := impl.Tree{Leaves: []int{top}}, impl.Tree{Leaves: []int{-top}}
	no, yes := []int{0, 1, 1, 1, 1, 1}, []int{1, 0, 0, 0, 0, 0}
	for _, c := range []struct {
		list []impl.Tree
		x    []int
		base int
		want int
	}{
		{nil, yes, 0, 0}, {nil, yes, 5, 5}, {nil, no, -5, -5}, {[]impl.Tree{}, yes, top, top}, {nil, yes, -top, -top},
		{[]impl.Tree{tree}, yes, 0, 500}, {[]impl.Tree{tree}, no, 0, -300}, {[]impl.Tree{tree}, no, 301, 1}, {[]impl.Tree{tree, tree, tree}, yes, 7, 1507}, {[]impl.Tree{tree, {Leaves: []int{1}}}, no, 7, -292},
		// One by one: what went beyond a bound is lost to those that follow.
		{[]impl.Tree{up, tree}, yes, 1, top}, {[]impl.Tree{up, tree}, no, 1, top - 300}, {[]impl.Tree{tree, up}, no, 1, top - 299}, {[]impl.Tree{up, down}, yes, 9, 0}, {[]impl.Tree{down, up}, yes, 9, 9}, {[]impl.Tree{down, up}, yes, -9, 0}, {[]impl.Tree{up, up, down, tree}, yes, 0, 500},
		// A base beyond the bounds.
		{[]impl.Tree{tree}, yes, top + 1, top}, {[]impl.Tree{tree}, no, top + 1, top - 300}, {[]impl.Tree{tree}, no, math.MaxInt, top - 300}, {[]impl.Tree{tree}, yes, -top - 1, -top + 500}, {[]impl.Tree{tree}, yes, math.MinInt, -top + 500}, {[]impl.Tree{down}, no, math.MaxInt, 0}, {[]impl.Tree{up}, no, math.MinInt, 0},
	} {
		if got := impl.Sum(c.list, c.x, c.base); got != c.want {
			t.Errorf("Sum(%v, %v, %d) = %d, not %d", c.list, c.x, c.base, got, c.want)
		}
	}
}

func TestSumAsTold(t *testing.T) {
	trees := someTrees()
	for n := range 14 {
		for turn := range 20 {
			var list []impl.Tree
			for i := range n {
				list = append(list, trees[(turn*31+i*17)%len(trees)])
			}
			for _, base := range edges() {
				x := someXs(trees[turn])[turn%20]
				want := bounded(base)
				for _, tree := range list {
					want = bounded(want + evalAsTold(tree, x))
				}
				if got := impl.Sum(list, x, base); got != want {
					t.Fatalf("Sum(%v, %v, %d) = %d, not %d", list, x, base, got, want)
				}
			}
		}
	}
}

// TestSumOfNoTrees: one that is not TreeOk, at each place among others, whatever x and base are.
func TestSumOfNoTrees(t *testing.T) {
	for _, wrong := range noTrees() {
		for n := range 3 {
			for at := range n + 1 {
				list := slices.Insert(slices.Repeat([]impl.Tree{treeOf(0, 2)}, n), at, wrong)
				for _, x := range append(noXs(), make([]int, feats)) {
					for _, base := range []int{0, 5, -5, top, math.MinInt} {
						if got := impl.Sum(list, x, base); got != 0 {
							t.Fatalf("Sum(%v, %v, %d) = %d", list, x, base, got)
						}
					}
				}
			}
		}
	}
}

// TestSumOfWrongXs: base comes, taken within its bounds.
func TestSumOfWrongXs(t *testing.T) {
	for n := range 4 {
		list := []impl.Tree{treeOf(0, 3), boundTree(2), {Leaves: []int{9}}}[:n]
		for _, x := range noXs() {
			for _, base := range edges() {
				if got := impl.Sum(list, x, base); got != bounded(base) {
					t.Fatalf("Sum(%v, %v, %d) = %d", list, x, base, got)
				}
			}
		}
	}
}

// treeInRoom hands a tree out with spare room behind its lists, filled so that a write there is seen.
func treeInRoom(tree impl.Tree) impl.Tree {
	splits := append(slices.Clone(tree.Splits), impl.Split{F: 77, B: 78}, impl.Split{F: 2, B: 0})
	return impl.Tree{Splits: splits[:len(tree.Splits)], Leaves: inRoom(tree.Leaves)}
}

func treeRoomKept(handed impl.Tree, tree impl.Tree) bool {
	n := len(tree.Splits)
	behind := handed.Splits[:n+2][n:]
	return sameTree(handed, tree) && roomKept(handed.Leaves, tree.Leaves) && behind[0] == impl.Split{F: 77, B: 78} && behind[1] == impl.Split{F: 2, B: 0}
}

func wipeSplits(list []impl.Split) {
	for i := range list[:cap(list)] {
		list[:cap(list)][i] = impl.Split{F: -1, B: -1}
	}
}

func wipeTree(tree impl.Tree) {
	wipeSplits(tree.Splits)
	wipe(tree.Leaves)
}

func wipeNodes(list []impl.Node) {
	for i := range list[:cap(list)] {
		list[:cap(list)][i] = impl.Node{F: -1, B: -1, Left: -1, Right: -1, Value: -1}
	}
}

// askAll calls whatever takes a tree, and writes into all that is answered.
func askAll(tree impl.Tree, x []int) {
	impl.TreeOk(tree)
	impl.LeafOf(tree, x)
	impl.Eval(tree, x)
	impl.Sum([]impl.Tree{tree, tree}, x, 5)
	nodes := impl.Grown(tree)
	impl.Walk(nodes, x)
	wipeNodes(nodes)
	for i := -1; i <= len(tree.Splits); i++ {
		wipeTree(impl.Flipped(tree, i))
	}
}

func TestTreesStayAsTheyWere(t *testing.T) {
	for _, tree := range append(noTrees(), someTrees()...) {
		for _, x := range [][]int{counted(feats), counted(feats - 1), counted(feats + 1), make([]int, feats)} {
			handed, numbers := treeInRoom(tree), inRoom(x)
			askAll(handed, numbers)
			if !treeRoomKept(handed, tree) || !roomKept(numbers, x) {
				t.Fatalf("%v or %v was written into: %v, %v", tree, x, handed, numbers)
			}
		}
	}
}

// TestTreesReadNothingBehindTheEnd: the room behind must not make up for what is too little, nor be too much.
func TestTreesReadNothingBehindTheEnd(t *testing.T) {
	whole := treeOf(0, 3)
	for n := range 3 {
		few := impl.Tree{Splits: whole.Splits[:n], Leaves: whole.Leaves[:1<<n]}
		if x := make([]int, feats+3); !impl.TreeOk(few) || impl.LeafOf(few, x[:feats]) != impl.LeafOf(copyTree(few), x[:feats]) || impl.Eval(few, x[:feats-1]) != 0 {
			t.Errorf("%v with room behind", few)
		}
		if less := (impl.Tree{Splits: whole.Splits, Leaves: whole.Leaves[:1<<n]}); impl.TreeOk(less) {
			t.Errorf("TreeOk(%v) is true", less)
		}
	}
	list := []impl.Tree{{Leaves: []int{1}}, {Leaves: []int{2}}, {}}
	if got := impl.Sum(list[:1], make([]int, feats), 0); got != 1 {
		t.Error(got)
	}
}

func TestTreeAnswersAreNew(t *testing.T) {
	for _, tree := range someTrees() {
		handed := copyTree(tree)
		nodes, again := impl.Grown(handed), impl.Grown(handed)
		flipped := impl.Flipped(handed, 0)
		kept := copyTree(flipped)
		wipeTree(handed)
		wipeNodes(again)
		if !slices.Equal(nodes, grownAsTold(tree)) || !sameTree(flipped, kept) {
			t.Fatalf("what %v answered was written through it: %v, %v", tree, nodes, flipped)
		}
		wipeSplits(flipped.Splits)
		if !slices.Equal(flipped.Leaves, kept.Leaves) {
			t.Fatalf("the lists of %v share memory", flipped)
		}
	}
}

func TestNodesStayAsTheyWere(t *testing.T) {
	for _, tree := range someTrees() {
		nodes := append(impl.Grown(tree), last(77), last(78))
		kept := slices.Clone(nodes)
		for _, x := range append(noXs(), someXs(tree)...) {
			handed := inRoom(x)
			impl.Walk(nodes[:len(nodes)-2], handed)
			if !slices.Equal(nodes, kept) || !roomKept(handed, x) {
				t.Fatalf("%v or %v was written into: %v, %v", kept, x, nodes, handed)
			}
		}
	}
}

func TestSumsStayAsTheyWere(t *testing.T) {
	wrong := impl.Tree{Splits: []impl.Split{{F: -1}}, Leaves: []int{1, 2}}
	list := []impl.Tree{treeInRoom(treeOf(0, 4)), treeInRoom(treeOf(1, 2)), treeInRoom(wrong)}
	for n := range len(list) + 1 {
		x := inRoom(counted(feats))
		impl.Sum(list[:n], x, 5)
		if !treeRoomKept(list[0], treeOf(0, 4)) || !treeRoomKept(list[1], treeOf(1, 2)) || !treeRoomKept(list[2], wrong) || !roomKept(x, counted(feats)) {
			t.Fatalf("of %d trees something was written into: %v, %v", n, list, x)
		}
	}
}

// TestTreesAskedAcross: no call keeps anything for another one.
func TestTreesAskedAcross(t *testing.T) {
	first, second := treeOf(0, 4), drawnTree(8)
	nodes, flipped := impl.Grown(first), impl.Flipped(first, 2)
	for range 3 {
		askAll(second, counted(feats))
		askAll(impl.Tree{}, nil)
		if !slices.Equal(impl.Grown(first), nodes) || !sameTree(impl.Flipped(first, 2), flipped) {
			t.Fatal(impl.Grown(first), impl.Flipped(first, 2))
		}
	}
}

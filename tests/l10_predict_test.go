package tests

import (
	"math"
	"slices"
	"strings"
	"sync"
	"testing"

	"loop.example/g00566/impl"
)

const longestWord = 25

// tabsFor: for each word column of a schema some words, of which n tells the numbers.
func tabsFor(s impl.Schema, n int) []impl.CtrTab {
	tabs := []impl.CtrTab{
		{Words: []string{"red", "r", "a_1"}, Vals: []int{1000 + n, -1000 - n, 7}},
		{Words: []string{"0", "red"}, Vals: []int{-2000 - n, 2000 + n}},
		{Words: []string{"red+0", "r+red", "red+red", "a_1+0"}, Vals: []int{3000 + n, -3000 - n, 70, -70}},
	}
	return tabs[:[]int{0, 1, 3}[s.Cats]]
}

// modelOf: a right model, whose trees n tells.
func modelOf(s impl.Schema, trees int, n int) impl.Model {
	m := impl.Model{S: s, Prior: 40 + n, Base: 500 - n, Ctrs: tabsFor(s, n)}
	for i := range trees {
		m.Trees = append(m.Trees, someTrees()[(9+5*i+n)%len(someTrees())])
	}
	return m
}

func someModels() []impl.Model {
	list := []impl.Model{{}, {S: impl.Schema{Nums: 3, Cats: 2}, Ctrs: make([]impl.CtrTab, 3)}}
	for i, s := range allSchemas() {
		for _, trees := range []int{0, 1, 2, 5, mostTrees - 1, mostTrees} {
			list = append(list, modelOf(s, trees, i+trees))
		}
		for turn, rows := range []int{0, 1, 9, impl.MaxRows} {
			m, _ := impl.Train(drawnTable(1+i+rows, s, rows), goodConfs()[(11*i+turn)%len(goodConfs())])
			deep, _ := impl.Train(drawnTable(2+i+rows, s, rows), learnConf(mostTrees, deepest, 700))
			list = append(list, m, deep)
		}
	}
	return list
}

// modelFaults: models that are no longer ModelOk by a single change of a right one.
func modelFaults(right impl.Model) []impl.Model {
	var list []impl.Model
	changed := func(change func(m *impl.Model)) {
		m := copyModel(right)
		change(&m)
		list = append(list, m)
	}
	for _, s := range noSchemas() {
		changed(func(m *impl.Model) { m.S = s })
	}
	for _, prior := range []int{-topPrior - 1, topPrior + 1, math.MinInt, math.MaxInt} {
		changed(func(m *impl.Model) { m.Prior = prior })
	}
	for _, base := range noNumbers() {
		changed(func(m *impl.Model) { m.Base = base })
	}
	for _, trees := range []int{mostTrees + 1, mostTrees + 2, 1000} {
		changed(func(m *impl.Model) { m.Trees = slices.Repeat([]impl.Tree{treeOf(0, 1)}, trees) })
	}
	for _, wrong := range []impl.Tree{{}, {Leaves: []int{top + 1}}, {Leaves: []int{-top - 1}}, {Leaves: []int{1, 2}}, treeOf(0, deepest+1), splitFaults(treeOf(0, 2))[0], splitFaults(treeOf(3, 1))[len(noFeats())]} {
		for at := range right.Trees {
			changed(func(m *impl.Model) { m.Trees[at] = wrong })
		}
	}
	changed(func(m *impl.Model) { m.Ctrs = append(m.Ctrs, impl.CtrTab{}) })
	changed(func(m *impl.Model) { m.Ctrs = append(m.Ctrs, impl.CtrTab{}, impl.CtrTab{}, impl.CtrTab{}) })
	if n := len(right.Ctrs); n > 0 {
		changed(func(m *impl.Model) { m.Ctrs = nil })
		changed(func(m *impl.Model) { m.Ctrs = m.Ctrs[:n-1] })
	}
	for at := range right.Ctrs {
		for _, wrong := range noTabs() {
			changed(func(m *impl.Model) { m.Ctrs[at] = wrong })
		}
	}
	return list
}

// noTabs: each has one fault alone.
func noTabs() []impl.CtrTab {
	words := differentWords(impl.MaxRows + 2)
	list := []impl.CtrTab{
		{Words: words[:impl.MaxRows+1], Vals: make([]int, impl.MaxRows+1)}, {Words: words, Vals: make([]int, impl.MaxRows+2)},
		{Words: []string{"a", "a"}, Vals: []int{1, 1}}, {Words: []string{"a", "a"}, Vals: []int{1, 2}}, {Words: []string{"a", "b", "a"}, Vals: []int{1, 2, 3}}, {Words: []string{"b", "a", "c", "a"}, Vals: []int{1, 2, 3, 4}},
		{Words: append(slices.Clone(words[:impl.MaxRows-1]), words[0]), Vals: make([]int, impl.MaxRows)}, {Words: append(slices.Clone(words[:impl.MaxRows-1]), words[impl.MaxRows-2]), Vals: make([]int, impl.MaxRows)},
		{Words: []string{""}, Vals: []int{1}}, {Words: []string{"a", ""}, Vals: []int{1, 2}}, {Words: []string{"", "a"}, Vals: []int{1, 2}},
		{Words: []string{strings.Repeat("a", longestWord+1)}, Vals: []int{1}}, {Words: []string{"b", strings.Repeat("a", longestWord+1), "c"}, Vals: []int{1, 2, 3}}, {Words: []string{"b", "c", strings.Repeat("a", 100000)}, Vals: []int{1, 2, 3}},
		{Words: []string{"a"}}, {Vals: []int{1}}, {Words: []string{"a"}, Vals: []int{1, 2}}, {Words: []string{"a", "b"}, Vals: []int{1}}, {Words: words[:impl.MaxRows], Vals: make([]int, impl.MaxRows-1)}, {Words: words[:impl.MaxRows], Vals: make([]int, impl.MaxRows+1)},
	}
	for _, wrong := range noNumbers() {
		list = append(list, impl.CtrTab{Words: []string{"a"}, Vals: []int{wrong}}, impl.CtrTab{Words: []string{"a", "b"}, Vals: []int{1, wrong}}, impl.CtrTab{Words: []string{"a", "b"}, Vals: []int{wrong, 1}})
	}
	return list
}

// goodTabs: at the bounds, and with words that no table has.
func goodTabs() []impl.CtrTab {
	return []impl.CtrTab{
		{}, {Words: []string{}, Vals: []int{}}, {Words: []string{"a"}, Vals: []int{0}}, {Words: []string{"a"}, Vals: []int{top}}, {Words: []string{"a", "b"}, Vals: []int{-top, top}}, {Words: []string{"a", "b"}, Vals: []int{5, 5}},
		{Words: differentWords(impl.MaxRows - 1), Vals: make([]int, impl.MaxRows-1)}, {Words: differentWords(impl.MaxRows), Vals: make([]int, impl.MaxRows)},
		{Words: []string{strings.Repeat("a", longestWord)}, Vals: []int{1}}, {Words: []string{strings.Repeat("a", longestWord), strings.Repeat("a", longestWord-1), "a", "aa"}, Vals: []int{1, 2, 3, 4}},
		{Words: []string{"A", "a", " ", "+", "\n", "\x00", "\xff", "\u00e9", "e\u0301", "a\nb", ","}, Vals: counted(11)},
	}
}

func noModels() []impl.Model {
	var list []impl.Model
	for cats := range impl.MaxCats + 1 {
		for nums := range 2 {
			list = append(list, modelFaults(modelOf(impl.Schema{Nums: nums, Cats: cats}, 3*nums, cats))...)
		}
	}
	return list
}

func TestModelOk(t *testing.T) {
	for _, m := range someModels() {
		if !impl.ModelOk(m) {
			t.Errorf("ModelOk(%v) is false", m)
		}
	}
	for _, m := range noModels() {
		if impl.ModelOk(m) {
			t.Errorf("ModelOk(%.200v) is true", m)
		}
	}
}

func TestModelOkAtTheBounds(t *testing.T) {
	right := func(change func(m *impl.Model)) {
		t.Helper()
		for _, s := range allSchemas() {
			m := modelOf(s, 2, 1)
			change(&m)
			if !impl.ModelOk(m) {
				t.Errorf("ModelOk(%v) is false", m)
			}
		}
	}
	for _, prior := range []int{-1000000, -999999, 0, 999999, 1000000} {
		right(func(m *impl.Model) { m.Prior = prior })
	}
	for _, base := range goodNumbers() {
		right(func(m *impl.Model) { m.Base = base })
	}
	for trees := range mostTrees + 1 {
		right(func(m *impl.Model) { m.Trees = slices.Repeat([]impl.Tree{boundTree(deepest)}, trees) })
	}
	for _, tree := range someTrees() {
		right(func(m *impl.Model) { m.Trees[1] = tree })
	}
	for _, tab := range goodTabs() {
		right(func(m *impl.Model) {
			// The same words in several columns are no fault.
			for at := range m.Ctrs {
				m.Ctrs[at] = tab
			}
		})
		right(func(m *impl.Model) {
			if len(m.Ctrs) > 0 {
				m.Ctrs[len(m.Ctrs)-1] = tab
			}
		})
	}
}

// TestModelOkAsksEachTree: one that is not TreeOk, at each place among others.
func TestModelOkAsksEachTree(t *testing.T) {
	for i, wrong := range noTrees() {
		m := modelOf(allSchemas()[i%12], []int{1, 2, mostTrees}[i%3], i)
		for at := range m.Trees {
			other := copyModel(m)
			other.Trees[at] = wrong
			if impl.ModelOk(other) {
				t.Fatalf("ModelOk(%.200v) is true", other)
			}
		}
	}
}

// TestModelOkCountsWordColumns: none, one and three, whatever the numbers are.
func TestModelOkCountsWordColumns(t *testing.T) {
	for _, s := range allSchemas() {
		for n := range 8 {
			m := impl.Model{S: s, Ctrs: make([]impl.CtrTab, n)}
			if want := n == []int{0, 1, 3}[s.Cats]; impl.ModelOk(m) != want {
				t.Errorf("ModelOk(%v) is not %v", m, want)
			}
		}
	}
}

func featuresAsTold(m impl.Model, x impl.Sample) []int {
	var list []int
	for _, number := range x.Nums {
		list = append(list, bounded(number))
	}
	words := slices.Clone(x.Cats)
	if m.S.Cats == 2 {
		words = append(words, strings.Join(x.Cats, "+"))
	}
	for i, word := range words {
		number := m.Prior
		for place, known := range m.Ctrs[i].Words {
			if known == word {
				number = m.Ctrs[i].Vals[place]
			}
		}
		list = append(list, number)
	}
	return append(list, make([]int, feats-len(list))...)
}

func stagedAsTold(m impl.Model, x impl.Sample) []int {
	list := []int{m.Base}
	for _, tree := range m.Trees {
		list = append(list, bounded(list[len(list)-1]+evalAsTold(tree, featuresAsTold(m, x))))
	}
	return list
}

// rowsFor: rows of as many numbers and words as the model wants, whatever these are.
func rowsFor(m impl.Model) []impl.Sample {
	words := []string{"red", "r", "a_1", "0", "never", "red+0", "red+", "", "NO WORD", "a,\n", "\xff", strings.Repeat("z", 1000)}
	for _, tab := range m.Ctrs {
		words = append(words, tab.Words[:min(3, len(tab.Words))]...)
	}
	var list []impl.Sample
	for turn := range 40 {
		x := impl.Sample{Label: edges()[turn%len(edges())]}
		for i := range m.S.Nums {
			x.Nums = append(x.Nums, edges()[(turn+11*i)%len(edges())])
		}
		for i := range m.S.Cats {
			x.Cats = append(x.Cats, words[(turn*(i+1)+turn/7+i)%len(words)])
		}
		list = append(list, x)
	}
	return append(list, drawnTable(3, m.S, 20).Rows...)
}

// pairModel knows words of both columns, of which not all are known together; some are no words of a table.
func pairModel() impl.Model {
	return impl.Model{
		S: impl.Schema{Nums: 1, Cats: 2}, Prior: -5,
		Ctrs: []impl.CtrTab{
			{Words: []string{"a", "b", "a+b"}, Vals: []int{10, 11, 12}},
			{Words: []string{"b", "c", "\n"}, Vals: []int{20, top, -top}},
			{Words: []string{"a+b", "b+c", "a+b+c", "+", "a+", "a"}, Vals: []int{30, 31, 32, 33, 34, 35}},
		},
	}
}

// TestFeatures: worked out by hand.
func TestFeatures(t *testing.T) {
	one := impl.Model{S: impl.Schema{Cats: 1}, Prior: 7, Ctrs: []impl.CtrTab{{Words: []string{"a", "b"}, Vals: []int{40, -50}}}}
	after := impl.Model{S: impl.Schema{Nums: 3, Cats: 1}, Prior: -topPrior, Ctrs: []impl.CtrTab{{Words: []string{"a", "b"}, Vals: []int{40, -50}}}}
	full := pairModel()
	full.S.Nums = 3
	for _, c := range []struct {
		m    impl.Model
		x    impl.Sample
		want []int
	}{
		{impl.Model{}, impl.Sample{}, []int{0, 0, 0, 0, 0, 0}}, {impl.Model{Prior: 9, Base: 8}, impl.Sample{Nums: []int{}, Cats: []string{}, Label: 5}, []int{0, 0, 0, 0, 0, 0}},
		{impl.Model{S: impl.Schema{Nums: 1}}, impl.Sample{Nums: []int{4}}, []int{4, 0, 0, 0, 0, 0}},
		{impl.Model{S: impl.Schema{Nums: 3}}, impl.Sample{Nums: []int{4, -5, 6}, Label: math.MaxInt}, []int{4, -5, 6, 0, 0, 0}},
		// Numbers at the bounds and beyond.
		{impl.Model{S: impl.Schema{Nums: 3}}, impl.Sample{Nums: []int{top, -top, top - 1}}, []int{top, -top, top - 1, 0, 0, 0}},
		{impl.Model{S: impl.Schema{Nums: 3}}, impl.Sample{Nums: []int{top + 1, -top - 1, 0}}, []int{top, -top, 0, 0, 0, 0}},
		{impl.Model{S: impl.Schema{Nums: 2}}, impl.Sample{Nums: []int{math.MinInt, math.MaxInt}}, []int{-top, top, 0, 0, 0, 0}},
		// One word: known, not known, none of a table's.
		{one, impl.Sample{Cats: []string{"a"}}, []int{40, 0, 0, 0, 0, 0}}, {one, impl.Sample{Cats: []string{"b"}}, []int{-50, 0, 0, 0, 0, 0}}, {one, impl.Sample{Cats: []string{"c"}}, []int{7, 0, 0, 0, 0, 0}},
		{one, impl.Sample{Cats: []string{""}}, []int{7, 0, 0, 0, 0, 0}}, {one, impl.Sample{Cats: []string{"A"}}, []int{7, 0, 0, 0, 0, 0}}, {one, impl.Sample{Cats: []string{"ab"}}, []int{7, 0, 0, 0, 0, 0}}, {one, impl.Sample{Cats: []string{"a\x00"}}, []int{7, 0, 0, 0, 0, 0}}, {one, impl.Sample{Cats: []string{strings.Repeat("a", 9999)}}, []int{7, 0, 0, 0, 0, 0}},
		{after, impl.Sample{Nums: []int{1, 2, 3}, Cats: []string{"b"}}, []int{1, 2, 3, -50, 0, 0}}, {after, impl.Sample{Nums: []int{1, 2, 3}, Cats: []string{"x"}}, []int{1, 2, 3, -1000000, 0, 0}},
		// Two words: both known, also together; each known, but not together; one of them known; none.
		{pairModel(), impl.Sample{Nums: []int{1}, Cats: []string{"a", "b"}}, []int{1, 10, 20, 30, 0, 0}}, {pairModel(), impl.Sample{Nums: []int{1}, Cats: []string{"b", "c"}}, []int{1, 11, top, 31, 0, 0}},
		{pairModel(), impl.Sample{Nums: []int{1}, Cats: []string{"a", "c"}}, []int{1, 10, top, -5, 0, 0}}, {pairModel(), impl.Sample{Nums: []int{1}, Cats: []string{"b", "b"}}, []int{1, 11, 20, -5, 0, 0}},
		{pairModel(), impl.Sample{Nums: []int{1}, Cats: []string{"a", "x"}}, []int{1, 10, -5, -5, 0, 0}}, {pairModel(), impl.Sample{Nums: []int{1}, Cats: []string{"x", "b"}}, []int{1, -5, 20, -5, 0, 0}}, {pairModel(), impl.Sample{Nums: []int{1}, Cats: []string{"x", "y"}}, []int{1, -5, -5, -5, 0, 0}},
		// A word of one column is no word of the other one, and the order counts.
		{pairModel(), impl.Sample{Nums: []int{1}, Cats: []string{"c", "a"}}, []int{1, -5, -5, -5, 0, 0}}, {pairModel(), impl.Sample{Nums: []int{1}, Cats: []string{"c", "b"}}, []int{1, -5, 20, -5, 0, 0}},
		// Words that no table has: the pair is both with the sign between, whatever they are.
		{pairModel(), impl.Sample{Nums: []int{1}, Cats: []string{"a+b", "c"}}, []int{1, 12, top, 32, 0, 0}}, {pairModel(), impl.Sample{Nums: []int{1}, Cats: []string{"a", "b+c"}}, []int{1, 10, -5, 32, 0, 0}}, {pairModel(), impl.Sample{Nums: []int{1}, Cats: []string{"", ""}}, []int{1, -5, -5, 33, 0, 0}}, {pairModel(), impl.Sample{Nums: []int{1}, Cats: []string{"a", ""}}, []int{1, 10, -5, 34, 0, 0}}, {pairModel(), impl.Sample{Nums: []int{1}, Cats: []string{"", "a"}}, []int{1, -5, -5, -5, 0, 0}}, {pairModel(), impl.Sample{Nums: []int{1}, Cats: []string{"x", "\n"}}, []int{1, -5, -top, -5, 0, 0}},
		{full, impl.Sample{Nums: []int{1, -2, top + 9}, Cats: []string{"b", "c"}}, []int{1, -2, top, 11, top, 31}},
		// Columns without words.
		{impl.Model{S: impl.Schema{Nums: 2, Cats: 2}, Prior: 8, Ctrs: make([]impl.CtrTab, 3)}, impl.Sample{Nums: []int{1, 2}, Cats: []string{"a", "b"}}, []int{1, 2, 8, 8, 8, 0}},
	} {
		if got, ok := impl.Features(c.m, c.x); !slices.Equal(got, c.want) || !ok {
			t.Errorf("Features(%v, %.80v) = %v, %v, not %v", c.m, c.x, got, ok, c.want)
		}
	}
}

// TestFeaturesAtTheBoundsOfWords: the first and the last of as many words as there may be, the longest ones.
func TestFeaturesAtTheBoundsOfWords(t *testing.T) {
	first, second := strings.Repeat("a", impl.MaxWord), strings.Repeat("b", impl.MaxWord)
	m := impl.Model{S: impl.Schema{Cats: 2}, Ctrs: make([]impl.CtrTab, 3)}
	for i := range m.Ctrs {
		m.Ctrs[i] = impl.CtrTab{Words: differentWords(impl.MaxRows), Vals: counted(impl.MaxRows)}
	}
	m.Ctrs[2].Words[impl.MaxRows-1] = first + "+" + second
	m.Ctrs[0].Words[0], m.Ctrs[1].Words[impl.MaxRows-1] = first, second
	got, ok := impl.Features(m, impl.Sample{Cats: []string{first, second}})
	if want := []int{0, impl.MaxRows - 1, impl.MaxRows - 1, 0, 0, 0}; !slices.Equal(got, want) || !ok {
		t.Errorf("Features = %v, %v, not %v", got, ok, want)
	}
	for place, word := range differentWords(impl.MaxRows)[1 : impl.MaxRows-1] {
		if got, ok := impl.Features(m, impl.Sample{Cats: []string{word, word}}); !slices.Equal(got, []int{place + 1, place + 1, 0, 0, 0, 0}) || !ok {
			t.Errorf("Features of %q = %v, %v", word, got, ok)
		}
	}
}

// TestTellingAsTold: whatever the row is; what is told hangs on no label.
func TestTellingAsTold(t *testing.T) {
	for _, m := range someModels() {
		for _, x := range rowsFor(m) {
			features, ok := impl.Features(m, x)
			if want := featuresAsTold(m, x); !slices.Equal(features, want) || !ok {
				t.Fatalf("Features(%v, %v) = %v, %v, not %v", m, x, features, ok, want)
			}
			want := stagedAsTold(m, x)
			if staged, ok := impl.Staged(m, x); !slices.Equal(staged, want) || !ok || len(staged) != len(m.Trees)+1 {
				t.Fatalf("Staged(%v, %v) = %v, %v, not %v", m, x, staged, ok, want)
			}
			if told, ok := impl.Predict(m, x); told != want[len(m.Trees)] || !ok {
				t.Fatalf("Predict(%v, %v) = %d, %v, not %v", m, x, told, ok, want)
			}
		}
	}
}

// TestFeaturesOfLearnedRows: in place, where the rows are learned by them; the numbers are the same, and where no words are, all is.
func TestFeaturesOfLearnedRows(t *testing.T) {
	for i, table := range someTables() {
		c := goodConfs()[i%len(goodConfs())]
		m, _ := impl.Train(table, c)
		learned, _ := impl.Matrix(table, c)
		for row, x := range table.Rows {
			features, ok := impl.Features(m, x)
			if !ok || !slices.Equal(features[:table.S.Nums], learned[row].V[:table.S.Nums]) || table.S.Cats == 0 && !slices.Equal(features, learned[row].V) {
				t.Fatalf("Features(%v, %v) = %v, %v, where it was learned by %v", m, x, features, ok, learned[row])
			}
			for column, words := range columnsAsTold(table) {
				l := labelled{words: words, labels: labelsOf(table), prior: c.Prior}
				if want := l.ofAsTold(words[row]); features[table.S.Nums+column] != want {
					t.Fatalf("Features(%v, %v) = %v, where the word column %d says %d", m, x, features, column, want)
				}
			}
		}
	}
}

// TestPredict: worked out by hand.
func TestPredict(t *testing.T) {
	s := impl.Schema{Nums: 1, Cats: 1}
	ask := impl.Tree{Splits: []impl.Split{{F: 0, B: 10}, {F: 1, B: 7}}, Leaves: []int{1, 20, 300, 4000}}
	up, down := impl.Tree{Leaves: []int{top}}, impl.Tree{Leaves: []int{-top}}
	tabs := []impl.CtrTab{{Words: []string{"much", "even"}, Vals: []int{8, 7}}}
	high := impl.Tree{Splits: []impl.Split{{F: 0, B: top}}, Leaves: []int{1, -1}}
	for _, c := range []struct {
		base  int
		trees []impl.Tree
		x     impl.Sample
		want  []int
	}{
		{0, nil, impl.Sample{Nums: []int{1}, Cats: []string{"much"}}, []int{0}}, {-9, nil, impl.Sample{Nums: []int{1}, Cats: []string{"x"}}, []int{-9}}, {top, nil, impl.Sample{Nums: []int{1}, Cats: []string{"x"}}, []int{top}}, {-top, nil, impl.Sample{Nums: []int{1}, Cats: []string{"x"}}, []int{-top}},
		{5, []impl.Tree{ask}, impl.Sample{Nums: []int{10}, Cats: []string{"even"}}, []int{5, 6}}, {5, []impl.Tree{ask}, impl.Sample{Nums: []int{11}, Cats: []string{"even"}}, []int{5, 25}}, {5, []impl.Tree{ask}, impl.Sample{Nums: []int{10}, Cats: []string{"much"}}, []int{5, 305}}, {5, []impl.Tree{ask}, impl.Sample{Nums: []int{11}, Cats: []string{"much"}}, []int{5, 4005}},
		// The prior is 50.
		{5, []impl.Tree{ask, ask}, impl.Sample{Nums: []int{10}, Cats: []string{"never"}}, []int{5, 305, 605}},
		// What came to a bound is lost to those that follow.
		{5, []impl.Tree{up, ask}, impl.Sample{Nums: []int{10}, Cats: []string{"even"}}, []int{5, top, top}}, {5, []impl.Tree{up, down, ask}, impl.Sample{Nums: []int{10}, Cats: []string{"even"}}, []int{5, top, 0, 1}}, {-5, []impl.Tree{down, up, ask}, impl.Sample{Nums: []int{10}, Cats: []string{"even"}}, []int{-5, -top, 0, 1}}, {5, []impl.Tree{down, up}, impl.Sample{Nums: []int{10}, Cats: []string{"even"}}, []int{5, 5 - top, 5}}, {0, []impl.Tree{down, down, ask}, impl.Sample{Nums: []int{11}, Cats: []string{"much"}}, []int{0, -top, -top, 4000 - top}}, {top, []impl.Tree{up, up, down}, impl.Sample{Nums: []int{0}, Cats: []string{"even"}}, []int{top, top, top, 0}},
		// A number beyond the bound is no greater than the bound.
		{0, []impl.Tree{high}, impl.Sample{Nums: []int{top + 1}, Cats: []string{"x"}}, []int{0, 1}}, {0, []impl.Tree{high}, impl.Sample{Nums: []int{math.MaxInt}, Cats: []string{"x"}}, []int{0, 1}},
		// Features that the schema has not are 0.
		{0, []impl.Tree{{Splits: []impl.Split{{F: 2, B: 0}, {F: 5, B: -1}}, Leaves: []int{1, 2, 3, 4}}}, impl.Sample{Nums: []int{9}, Cats: []string{"x"}}, []int{0, 3}},
	} {
		m := impl.Model{S: s, Prior: 50, Base: c.base, Ctrs: tabs, Trees: c.trees}
		staged, ok := impl.Staged(m, c.x)
		told, is := impl.Predict(m, c.x)
		if !slices.Equal(staged, c.want) || !ok || told != c.want[len(c.want)-1] || !is {
			t.Errorf("Staged(%v, %v) = %v, %v, Predict %d, %v, not %v", m, c.x, staged, ok, told, is, c.want)
		}
	}
}

// TestStagesAreCuts: the k-th of Staged is what Predict answers of CutTo of k, the last one what it answers of all.
func TestStagesAreCuts(t *testing.T) {
	for _, m := range someModels() {
		for _, x := range rowsFor(m)[20:50] {
			staged, ok := impl.Staged(m, x)
			if told, is := impl.Predict(m, x); !ok || !is || staged[len(staged)-1] != told {
				t.Fatalf("Staged(%v, %v) = %v, %v, Predict %d, %v", m, x, staged, ok, told, is)
			}
			for k := range len(m.Trees) + 1 {
				if told, is := impl.Predict(impl.CutTo(m, k), x); staged[k] != told || !is {
					t.Fatalf("Staged(%v, %v) = %v, but of %d trees %d, %v", m, x, staged, k, told, is)
				}
			}
		}
	}
}

// tableOfLesson: a table without words, and the lesson that it is.
func tableOfLesson(l lesson, nums int) impl.Table {
	t := impl.Table{S: impl.Schema{Nums: nums}}
	for row, x := range l.x {
		clear(x.V[nums:])
		t.Rows = append(t.Rows, impl.Sample{Nums: slices.Clone(x.V[:nums]), Label: l.labels[row]})
	}
	return t
}

// TestRowsAreToldAsLearned is promise 10's first part: where no words are.
func TestRowsAreToldAsLearned(t *testing.T) {
	lessons := someLessons()
	for i, l := range lessons {
		nums := i % (impl.MaxNums + 1)
		if 2*i > len(lessons) {
			nums = impl.MaxNums
		}
		table := tableOfLesson(l, nums)
		_, base, learned := l.learnAsTold()
		m, _ := impl.Train(table, l.c)
		all, ok := impl.PredictAll(m, table)
		if !slices.Equal(all, learned) || !ok {
			t.Fatalf("PredictAll(%v, %v) = %v, %v, where %v was learned", m, table, all, ok, learned)
		}
		for row, x := range table.Rows {
			x.Label = -x.Label
			told, ok := impl.Predict(m, x)
			staged, is := impl.Staged(m, x)
			if told != learned[row] || !ok || !is || staged[0] != base {
				t.Fatalf("Predict(%v, %v) = %d, %v, Staged %v, where %d was learned", m, x, told, ok, staged, learned[row])
			}
			by := base
			for k, tree := range m.Trees {
				by = bounded(by + evalAsTold(tree, l.x[row].V))
				if staged[k+1] != by {
					t.Fatalf("Staged(%v, %v) = %v, where %d was learned by %d trees", m, x, staged, by, k+1)
				}
			}
		}
	}
}

// TestFewerTreesAreCuts is promise 9's second part, of models: what CutTo answers is learned where so few trees are asked for, and tells what the stages tell.
func TestFewerTreesAreCuts(t *testing.T) {
	for i, s := range allSchemas() {
		table, c := drawnTable(20+i, s, 25), learnConf(mostTrees, 3, 800)
		whole, _ := impl.Train(table, c)
		for n := range mostTrees + 1 {
			c.Trees = n
			fewer, _ := impl.Train(table, c)
			if cut := impl.CutTo(whole, n); !sameModel(cut, fewer) {
				t.Fatalf("CutTo(%v, %d) = %v, not %v", whole, n, cut, fewer)
			}
			for _, x := range table.Rows {
				staged, _ := impl.Staged(whole, x)
				if few, ok := impl.Staged(fewer, x); !slices.Equal(few, staged[:n+1]) || !ok {
					t.Fatalf("Staged of %d trees %v, %v, not the beginning of %v", n, few, ok, staged)
				}
			}
		}
	}
}

// TestUnknownWordsAreToldAsThePrior is promise 10's last part: the model tells what it would tell, had it known the word with the prior as its number.
func TestUnknownWordsAreToldAsThePrior(t *testing.T) {
	for seed := range 30 {
		for nums := range impl.MaxNums + 1 {
			c := learnConf(mostTrees, deepest, 900)
			c.Prior = []int{0, 350, -topPrior, topPrior}[seed%4]
			one, _ := impl.Train(drawnTable(1+seed, impl.Schema{Nums: nums, Cats: 1}, 20), c)
			two, _ := impl.Train(drawnTable(1+seed, impl.Schema{Nums: nums, Cats: 2}, 20), c)
			numbers := drawnNumbers(2+seed, nums, 9000)
			unknownAsPrior(t, one, impl.Sample{Nums: numbers, Cats: []string{"never"}})
			for _, word := range []string{"red", "r", "a_1", "0", "never"} {
				unknownAsPrior(t, two, impl.Sample{Nums: numbers, Cats: []string{"never", word}})
				unknownAsPrior(t, two, impl.Sample{Nums: numbers, Cats: []string{word, "never"}})
			}
		}
	}
}

// unknownAsPrior is handed a row with the word never in one or both of its columns.
func unknownAsPrior(t *testing.T, m impl.Model, x impl.Sample) {
	t.Helper()
	v, knowing := slices.Clone(x.Nums), copyModel(m)
	words := append(slices.Clone(x.Cats), strings.Join(x.Cats, "+"))[:len(m.Ctrs)]
	for i, word := range words {
		if strings.Contains(word, "never") {
			knowing.Ctrs[i].Words = append(knowing.Ctrs[i].Words, word)
			knowing.Ctrs[i].Vals = append(knowing.Ctrs[i].Vals, m.Prior)
			v = append(v, m.Prior)
		} else {
			v = append(v, featuresAsTold(m, x)[len(v)])
		}
	}
	v = append(v, make([]int, feats-len(v))...)
	told, ok := impl.Predict(m, x)
	known, is := impl.Predict(knowing, x)
	if want := impl.Sum(m.Trees, v, m.Base); told != want || known != want || !ok || !is {
		t.Fatalf("Predict(%v, %v) = %d, %v, had it known the word %d, %v, not %d", m, x, told, ok, known, is, want)
	}
}

func tellsNothing(t *testing.T, m impl.Model, x impl.Sample) {
	t.Helper()
	if features, ok := impl.Features(m, x); len(features) != 0 || ok {
		t.Fatalf("Features(%.200v, %v) = %v, %v", m, x, features, ok)
	}
	if told, ok := impl.Predict(m, x); told != 0 || ok {
		t.Fatalf("Predict(%.200v, %v) = %d, %v", m, x, told, ok)
	}
	if staged, ok := impl.Staged(m, x); len(staged) != 0 || ok {
		t.Fatalf("Staged(%.200v, %v) = %v, %v", m, x, staged, ok)
	}
}

func tellsNothingOfAll(t *testing.T, m impl.Model, table impl.Table) {
	t.Helper()
	if all, ok := impl.PredictAll(m, table); len(all) != 0 || ok {
		t.Fatalf("PredictAll(%.200v, %.200v) = %v, %v", m, table, all, ok)
	}
}

// TestNoModelsTellNothing: of rows and tables that would be right for the schema, and of others.
func TestNoModelsTellNothing(t *testing.T) {
	for _, m := range noModels() {
		rows := []impl.Sample{{}, rowOf(impl.Schema{Nums: 1, Cats: 2}, 3)}
		if impl.SchemaOk(m.S) {
			rows = append(rows, rowOf(m.S, 3), rowsFor(impl.Model{S: m.S})[7])
			tellsNothingOfAll(t, m, tableOf(m.S, 3))
		}
		for _, x := range rows {
			tellsNothing(t, m, x)
		}
		tellsNothingOfAll(t, m, impl.Table{})
		tellsNothingOfAll(t, m, impl.Table{S: m.S})
		if asked := impl.Importance(m); len(asked) != 0 {
			t.Fatalf("Importance(%.200v) = %v", m, asked)
		}
		for _, n := range []int{-1, 0, 1, len(m.Trees), len(m.Trees) + 1} {
			if cut := impl.CutTo(m, n); !sameModel(cut, impl.Model{}) {
				t.Fatalf("CutTo(%.200v, %d) = %v", m, n, cut)
			}
		}
	}
}

// TestRowsOfOtherCounts: with fewer and more numbers and words than the model wants.
func TestRowsOfOtherCounts(t *testing.T) {
	for _, s := range allSchemas() {
		for _, trees := range []int{0, 3} {
			m := modelOf(s, trees, 2)
			for nums := range 6 {
				for cats := range 5 {
					x := impl.Sample{Nums: make([]int, nums), Cats: slices.Repeat([]string{"red"}, cats), Label: 5}
					if nums != s.Nums || cats != s.Cats {
						tellsNothing(t, m, x)
					} else if told, ok := impl.Predict(m, x); told != stagedAsTold(m, x)[trees] || !ok {
						t.Fatalf("Predict(%v, %v) = %d, %v", m, x, told, ok)
					}
				}
			}
		}
	}
}

func TestPredictAll(t *testing.T) {
	for i, m := range someModels() {
		for _, rows := range []int{0, 1, 2, 7, impl.MaxRows} {
			for _, table := range []impl.Table{tableOf(m.S, rows), drawnTable(1+i, m.S, rows)} {
				all, ok := impl.PredictAll(m, table)
				if len(all) != rows || !ok {
					t.Fatalf("PredictAll(%v, %v) = %v, %v", m, table, all, ok)
				}
				for row, x := range table.Rows {
					told, _ := impl.Predict(m, x)
					if want := stagedAsTold(m, x); all[row] != told || told != want[len(m.Trees)] {
						t.Fatalf("PredictAll(%v, %v) has %d at %d, Predict %d, not %v", m, table, all[row], row, told, want)
					}
				}
			}
		}
	}
}

// TestPredictAllOfOtherTables: of another Schema, also without rows; and tables that are not TableOk.
func TestPredictAllOfOtherTables(t *testing.T) {
	for _, s := range allSchemas() {
		m := modelOf(s, 3, 4)
		for _, other := range allSchemas() {
			for _, rows := range []int{0, 1, 5} {
				if other != s {
					tellsNothingOfAll(t, m, tableOf(other, rows))
				}
			}
		}
		if all, ok := impl.PredictAll(m, impl.Table{S: s}); len(all) != 0 || !ok {
			t.Errorf("of no rows: %v, %v", all, ok)
		}
	}
	for i, table := range noTables() {
		s := table.S
		if !impl.SchemaOk(s) {
			s = allSchemas()[i%12]
		}
		tellsNothingOfAll(t, modelOf(s, 2, i), table)
	}
}

func TestImportance(t *testing.T) {
	same := impl.Tree{Splits: []impl.Split{{F: 2, B: 1}, {F: 2, B: 1}, {F: 2, B: 5}, {F: 0, B: 1}}, Leaves: make([]int, 16)}
	for _, c := range []struct {
		trees []impl.Tree
		want  []int
	}{
		{nil, []int{0, 0, 0, 0, 0, 0}}, {[]impl.Tree{}, []int{0, 0, 0, 0, 0, 0}}, {[]impl.Tree{{Leaves: []int{5}}, {Leaves: []int{top}}}, []int{0, 0, 0, 0, 0, 0}},
		{[]impl.Tree{treeOf(0, 1)}, []int{1, 0, 0, 0, 0, 0}}, {[]impl.Tree{treeOf(5, 1)}, []int{0, 0, 0, 0, 0, 1}}, {[]impl.Tree{treeOf(4, 4)}, []int{1, 1, 0, 0, 1, 1}},
		{[]impl.Tree{same}, []int{1, 0, 3, 0, 0, 0}}, {[]impl.Tree{same, {Leaves: []int{1}}, same, treeOf(1, 2)}, []int{2, 1, 7, 0, 0, 0}},
		{slices.Repeat([]impl.Tree{{Splits: slices.Repeat([]impl.Split{{F: 3}}, 4), Leaves: make([]int, 16)}}, 12), []int{0, 0, 0, 48, 0, 0}},
	} {
		for _, s := range allSchemas() {
			m := impl.Model{S: s, Base: 9, Ctrs: tabsFor(s, 1), Trees: c.trees}
			if got := impl.Importance(m); !slices.Equal(got, c.want) {
				t.Errorf("Importance(%v) = %v, not %v", m, got, c.want)
			}
		}
	}
	for _, m := range someModels() {
		got := impl.Importance(m)
		for f := range feats {
			count := 0
			for _, tree := range m.Trees {
				for _, split := range tree.Splits {
					if split.F == f {
						count++
					}
				}
			}
			if len(got) != feats || got[f] != count {
				t.Fatalf("Importance(%v) = %v, where %d is asked %d times", m, got, f, count)
			}
		}
	}
}

func TestCutTo(t *testing.T) {
	for _, m := range someModels() {
		all := len(m.Trees)
		for _, c := range []struct{ n, want int }{{math.MinInt, 0}, {-2, 0}, {-1, 0}, {0, 0}, {1, min(1, all)}, {2, min(2, all)}, {all - 1, max(0, all-1)}, {all, all}, {all + 1, all}, {mostTrees + 1, all}, {math.MaxInt, all}} {
			want := copyModel(m)
			want.Trees = want.Trees[:c.want]
			if got := impl.CutTo(m, c.n); !sameModel(got, want) || !impl.ModelOk(got) {
				t.Fatalf("CutTo(%v, %d) = %v, not %v", m, c.n, got, want)
			}
		}
	}
}

// modelInRoom hands a model out with spare room behind all of its lists, filled so that a write or a read there is seen.
func modelInRoom(m impl.Model) impl.Model {
	handed := m
	handed.Ctrs, handed.Trees = nil, nil
	for _, tab := range m.Ctrs {
		handed.Ctrs = append(handed.Ctrs, impl.CtrTab{Words: wordsInRoom(tab.Words), Vals: inRoom(tab.Vals)})
	}
	for _, tree := range m.Trees {
		handed.Trees = append(handed.Trees, treeInRoom(tree))
	}
	handed.Ctrs = append(handed.Ctrs, impl.CtrTab{Words: []string{"room"}, Vals: []int{77}})[:len(m.Ctrs)]
	handed.Trees = append(handed.Trees, impl.Tree{Leaves: []int{77}})[:len(m.Trees)]
	return handed
}

func modelRoomKept(handed impl.Model, m impl.Model) bool {
	for i, tab := range m.Ctrs {
		if !wordsRoomKept(handed.Ctrs[i].Words, tab.Words) || !roomKept(handed.Ctrs[i].Vals, tab.Vals) {
			return false
		}
	}
	for i, tree := range m.Trees {
		if !treeRoomKept(handed.Trees[i], tree) {
			return false
		}
	}
	tab, tree := handed.Ctrs[:len(m.Ctrs)+1][len(m.Ctrs)], handed.Trees[:len(m.Trees)+1][len(m.Trees)]
	return sameModel(handed, m) && slices.Equal(tab.Words, []string{"room"}) && slices.Equal(tab.Vals, []int{77}) && sameTree(tree, impl.Tree{Leaves: []int{77}})
}

// tellAll calls whatever takes a model, and writes into all that is answered.
func tellAll(m impl.Model, x impl.Sample, table impl.Table) {
	impl.ModelOk(m)
	impl.Predict(m, x)
	features, _ := impl.Features(m, x)
	staged, _ := impl.Staged(m, x)
	all, _ := impl.PredictAll(m, table)
	for _, list := range [][]int{features, staged, all, impl.Importance(m)} {
		wipe(list)
	}
	for _, n := range []int{-1, 0, 1, len(m.Trees), len(m.Trees) + 1} {
		cut := impl.CutTo(m, n)
		wipeTabs(cut.Ctrs)
		wipeTrees(cut.Trees)
	}
}

// TestTellingLeavesAllAsItWas: also the room behind each of the lists, and where what is answered is written into.
func TestTellingLeavesAllAsItWas(t *testing.T) {
	for i, m := range append(someModels(), noModels()...) {
		handed, s := modelInRoom(m), m.S
		if !impl.SchemaOk(s) {
			s = impl.Schema{Nums: 1, Cats: 2}
		}
		row, table := rowOf(s, i), tableInRoom()
		x := impl.Sample{Nums: inRoom(row.Nums), Cats: wordsInRoom(row.Cats), Label: row.Label}
		for range 2 {
			tellAll(handed, x, tableOf(s, 2))
			tellAll(handed, x, table)
			if !modelRoomKept(handed, m) || !roomKept(x.Nums, row.Nums) || !wordsRoomKept(x.Cats, row.Cats) || !sameRoom(table, tableInRoom()) {
				t.Fatalf("%.300v, %v or %v was written into: %.300v, %v", m, row, table, handed, x)
			}
		}
	}
}

// TestTellingReadsNothingBehindTheEnd: the room behind must not make up for what is too little, nor be too much.
func TestTellingReadsNothingBehindTheEnd(t *testing.T) {
	for _, m := range someModels() {
		handed := modelInRoom(m)
		table := tableOf(m.S, 3)
		all, ok := impl.PredictAll(handed, table)
		for row, x := range table.Rows {
			// The room behind words has "a", which must not be known by it.
			for i := range x.Cats {
				x.Cats[i] = []string{"a", "room", x.Cats[i]}[(row+i)%3]
			}
			staged, is := impl.Staged(handed, x)
			if !slices.Equal(staged, stagedAsTold(m, x)) || !is || !ok || len(all) != 3 {
				t.Fatalf("Staged(%v, %v) = %v, %v with room behind", m, x, staged, is)
			}
		}
		if !impl.ModelOk(handed) || !slices.Equal(impl.Importance(handed), impl.Importance(m)) || !sameModel(impl.CutTo(handed, mostTrees), m) {
			t.Fatalf("%v with room behind", m)
		}
	}
	m := modelOf(impl.Schema{Nums: 2, Cats: 2}, 3, 5)
	few := impl.Sample{Nums: []int{1, 2, 3}[:1], Cats: []string{"red", "0"}}
	tellsNothing(t, m, few)
	tellsNothing(t, m, impl.Sample{Nums: []int{1, 2}, Cats: []string{"red", "0"}[:1]})
	m.Ctrs = m.Ctrs[:2]
	tellsNothing(t, m, rowOf(m.S, 1))
}

// TestWhatIsToldIsNew: wiping what was handed in changes no answer, nor does wiping another answer.
func TestWhatIsToldIsNew(t *testing.T) {
	for i, given := range someModels() {
		m, row, table := copyModel(given), rowOf(given.S, i), drawnTable(3, given.S, 4)
		x := impl.Sample{Nums: slices.Clone(row.Nums), Cats: slices.Clone(row.Cats)}
		features, _ := impl.Features(m, x)
		staged, _ := impl.Staged(m, x)
		all, _ := impl.PredictAll(m, table)
		cut, again := impl.CutTo(m, mostTrees), impl.CutTo(m, mostTrees)
		asked, other := impl.Importance(m), impl.Importance(m)
		wipeTabs(again.Ctrs)
		wipeTrees(again.Trees)
		wipe(other)
		wipe(x.Nums)
		wipeWords(x.Cats)
		wipeTabs(m.Ctrs)
		wipeTrees(m.Trees)
		wipeTable(table)
		want, _ := impl.PredictAll(given, drawnTable(3, given.S, 4))
		if !slices.Equal(features, featuresAsTold(given, row)) || !slices.Equal(staged, stagedAsTold(given, row)) || !slices.Equal(all, want) || !sameModel(cut, given) || !slices.Equal(asked, impl.Importance(given)) {
			t.Fatalf("what %v answered was written through it: %v, %v, %v, %v, %v", given, features, staged, all, cut, asked)
		}
	}
}

// TestListsOfACutAreApart: though the lists of the model handed in be one.
func TestListsOfACutAreApart(t *testing.T) {
	tab, tree := impl.CtrTab{Words: []string{"a", "b"}, Vals: []int{1, 2}}, treeOf(0, 2)
	m := impl.Model{S: impl.Schema{Cats: 2}, Ctrs: slices.Repeat([]impl.CtrTab{tab}, 3), Trees: slices.Repeat([]impl.Tree{tree}, mostTrees)}
	cut := impl.CutTo(m, mostTrees)
	kept := copyModel(cut)
	look := func() {
		t.Helper()
		if !sameModel(cut, kept) || !slices.Equal(tab.Words, []string{"a", "b"}) || !slices.Equal(tab.Vals, []int{1, 2}) || !sameTree(tree, treeOf(0, 2)) {
			t.Fatalf("lists share memory: %v, not %v", cut, kept)
		}
	}
	look()
	for i := range cut.Ctrs {
		wipeWords(cut.Ctrs[i].Words)
		kept.Ctrs[i].Words = slices.Clone(cut.Ctrs[i].Words)
		look()
		wipe(cut.Ctrs[i].Vals)
		kept.Ctrs[i].Vals = slices.Clone(cut.Ctrs[i].Vals)
		look()
	}
	for i := range cut.Trees {
		wipeSplits(cut.Trees[i].Splits)
		kept.Trees[i].Splits = slices.Clone(cut.Trees[i].Splits)
		look()
		wipe(cut.Trees[i].Leaves)
		kept.Trees[i].Leaves = slices.Clone(cut.Trees[i].Leaves)
		look()
	}
}

// TestWordsOfACutAreCopied: no word of it lies within the model's, nor within another one's.
func TestWordsOfACutAreCopied(t *testing.T) {
	word := strings.Clone("red")
	m := impl.Model{S: impl.Schema{Cats: 2}, Ctrs: slices.Repeat([]impl.CtrTab{{Words: []string{word}, Vals: []int{5}}}, 3)}
	cut := impl.CutTo(m, 0)
	for i, tab := range cut.Ctrs {
		if tab.Words[0] != "red" || within(tab.Words[0], word) {
			t.Errorf("%q lies within what was handed in", tab.Words[0])
		}
		for _, behind := range cut.Ctrs[i+1:] {
			if within(tab.Words[0], behind.Words[0]) {
				t.Errorf("%q and %q share memory", tab.Words[0], behind.Words[0])
			}
		}
	}
}

// TestTellAgain: the same answers however often they are asked, whatever was asked between, and by several at once.
func TestTellAgain(t *testing.T) {
	m := modelOf(impl.Schema{Nums: 3, Cats: 2}, mostTrees, 6)
	table := drawnTable(21, m.S, impl.MaxRows)
	var askers sync.WaitGroup
	for n := range 8 {
		askers.Go(func() {
			other := modelOf(impl.Schema{Nums: n % 4, Cats: n % 3}, n, n)
			for turn := range 20 {
				tellAll(other, rowOf(other.S, turn), tableOf(other.S, turn))
				all, ok := impl.PredictAll(m, table)
				for row, x := range table.Rows {
					staged, _ := impl.Staged(m, x)
					if want := stagedAsTold(m, x); !slices.Equal(staged, want) || !ok || all[row] != want[mostTrees] {
						t.Errorf("Staged(%v, %v) = %v, PredictAll %d, not %v", m, x, staged, all[row], want)
						return
					}
				}
			}
		})
	}
	askers.Wait()
}

package tests

import (
	"math"
	"math/big"
	"runtime"
	"slices"
	"strings"
	"sync"
	"testing"
	"time"

	"loop.example/g00566/impl"
)

const mostTrees = impl.MaxTrees

// lesson: what TrainOn is handed.
type lesson struct {
	x      []impl.Vec
	labels []int
	c      impl.Conf
}

func (l lesson) learn() ([]impl.Tree, int, bool) {
	return impl.TrainOn(l.x, l.labels, l.c)
}

func midConf() impl.Conf {
	return impl.Conf{Trees: 3, Depth: 2, Most: 5, Rate: 700, L2: 3, Prior: -40, Seed: 77}
}

// fields: each field of a Conf with what is good for it, and what is not.
func fields() []struct {
	set      func(c *impl.Conf, n int)
	good, no []int
} {
	return []struct {
		set      func(c *impl.Conf, n int)
		good, no []int
	}{
		{func(c *impl.Conf, n int) { c.Trees = n }, counted(13), []int{-1, -2, -12, 13, 14, 1000, math.MaxInt, math.MinInt}},
		{func(c *impl.Conf, n int) { c.Depth = n }, counted(5), noDepths()},
		{func(c *impl.Conf, n int) { c.Most = n }, counted(13)[1:], append(noMosts(), 0)},
		{func(c *impl.Conf, n int) { c.Rate = n }, goodRates(), noRates()},
		{func(c *impl.Conf, n int) { c.L2 = n }, []int{1, 2, 7, 999, 1000}, noL2s()},
		{func(c *impl.Conf, n int) { c.Prior = n }, []int{-1000000, -999999, -1, 0, 1, 999999, 1000000}, []int{-1000001, 1000001, -2000000, 2000000, math.MaxInt, math.MinInt}},
		{func(c *impl.Conf, n int) { c.Seed = n }, someSeeds(), noSeeds()},
	}
}

func goodConfs() []impl.Conf {
	list := []impl.Conf{midConf(), {Most: 1, Rate: 1, L2: 1, Prior: -1000000, Seed: 1}, {Trees: 12, Depth: 4, Most: 12, Rate: 1000, L2: 1000, Prior: 1000000, Seed: 2147483646}}
	for _, field := range fields() {
		for _, n := range field.good {
			c := midConf()
			field.set(&c, n)
			list = append(list, c)
		}
	}
	return list
}

// noConfs: each with one field that is wrong; and the zero value.
func noConfs() []impl.Conf {
	list := []impl.Conf{{}}
	for _, field := range fields() {
		for _, n := range field.no {
			c := midConf()
			field.set(&c, n)
			list = append(list, c)
		}
	}
	return list
}

func TestMaxTrees(t *testing.T) {
	if impl.MaxTrees != 12 {
		t.Fatal(impl.MaxTrees)
	}
}

func TestConfOk(t *testing.T) {
	for _, c := range goodConfs() {
		if !impl.ConfOk(c) {
			t.Errorf("ConfOk(%v) is false", c)
		}
	}
	for _, c := range noConfs() {
		if impl.ConfOk(c) {
			t.Errorf("ConfOk(%v) is true", c)
		}
	}
}

// drawnTable: numbers and words of which rows have many in common; all hangs on the seed.
func drawnTable(seed int, s impl.Schema, rows int) impl.Table {
	t := impl.Table{S: s}
	labels := drawnLabels(seed, rows)
	for n := range rows {
		x := impl.Sample{Label: labels[n]}
		for _, number := range drawnNumbers(seed+3*n+1, s.Nums, 9) {
			x.Nums = append(x.Nums, 1000*number)
		}
		for _, place := range drawnNumbers(seed+3*n+2, s.Cats, 4) {
			x.Cats = append(x.Cats, []string{"red", "r", "a_1", "0"}[place+2])
		}
		t.Rows = append(t.Rows, x)
	}
	return t
}

// drawnLabels: few different ones, some thousands, or as far apart as they may be.
func drawnLabels(seed int, n int) []int {
	list := drawnNumbers(seed, n, []int{7, 4001, 1000000}[seed%3])
	if seed%3 == 2 {
		for i := range list {
			list[i] *= 2
		}
	}
	return list
}

func someTables() []impl.Table {
	var list []impl.Table
	for turn, s := range allSchemas() {
		for _, rows := range []int{0, 1, 2, 3, 11, impl.MaxRows - 1, impl.MaxRows} {
			list = append(list, tableOf(s, rows), drawnTable(1+20*rows+turn, s, rows), drawnTable(2+20*rows+turn, s, rows))
		}
	}
	return list
}

// columnsAsTold: the word columns of a table, row by row.
func columnsAsTold(t impl.Table) [][]string {
	columns := make([][]string, []int{0, 1, 3}[t.S.Cats])
	for _, row := range t.Rows {
		for cat, word := range row.Cats {
			columns[cat] = append(columns[cat], word)
		}
		if t.S.Cats == 2 {
			columns[2] = append(columns[2], strings.Join(row.Cats, "+"))
		}
	}
	return columns
}

func labelsOf(t impl.Table) []int {
	var labels []int
	for _, row := range t.Rows {
		labels = append(labels, row.Label)
	}
	return labels
}

func matrixAsTold(t impl.Table, c impl.Conf) []impl.Vec {
	var x []impl.Vec
	order := permAsTold(c.Seed, len(t.Rows))
	for row, sample := range t.Rows {
		v := slices.Clone(sample.Nums)
		for _, words := range columnsAsTold(t) {
			l := labelled{words, labelsOf(t), order, c.Prior}
			v = append(v, l.atAsTold(slices.Index(order, row)))
		}
		x = append(x, impl.Vec{V: append(v, make([]int, feats-len(v))...)})
	}
	return x
}

func tabsAsTold(t impl.Table, c impl.Conf) []impl.CtrTab {
	var tabs []impl.CtrTab
	for _, words := range columnsAsTold(t) {
		tab := impl.CtrTab{Words: dictAsTold(words)}
		for _, word := range tab.Words {
			tab.Vals = append(tab.Vals, labelled{words: words, labels: labelsOf(t), prior: c.Prior}.ofAsTold(word))
		}
		tabs = append(tabs, tab)
	}
	return tabs
}

func sameTabs(a []impl.CtrTab, b []impl.CtrTab) bool {
	return slices.EqualFunc(a, b, func(x impl.CtrTab, y impl.CtrTab) bool {
		return slices.Equal(x.Words, y.Words) && slices.Equal(x.Vals, y.Vals)
	})
}

func sameTrees(a []impl.Tree, b []impl.Tree) bool {
	return slices.EqualFunc(a, b, sameTree)
}

func sameModel(a impl.Model, b impl.Model) bool {
	return a.S == b.S && a.Prior == b.Prior && a.Base == b.Base && sameTabs(a.Ctrs, b.Ctrs) && sameTrees(a.Trees, b.Trees)
}

// TestMatrix: worked out by hand. Seed 1 puts two rows in the order 1, 0.
func TestMatrix(t *testing.T) {
	c := impl.Conf{Most: 1, Rate: 1, L2: 1, Prior: 10, Seed: 1}
	if order := impl.PermOf(1, 2); !slices.Equal(order, []int{1, 0}) {
		t.Fatal(order)
	}
	for _, one := range []struct {
		table impl.Table
		want  []impl.Vec
	}{
		{impl.Table{}, nil}, {impl.Table{S: impl.Schema{Nums: 3, Cats: 2}}, nil},
		{impl.Table{Rows: []impl.Sample{{Label: 5}, {Label: 6}}}, []impl.Vec{{V: []int{0, 0, 0, 0, 0, 0}}, {V: []int{0, 0, 0, 0, 0, 0}}}},
		{impl.Table{S: impl.Schema{Nums: 1}, Rows: []impl.Sample{{Nums: []int{-top}, Label: 5}, {Nums: []int{8}, Label: 7}}}, []impl.Vec{{V: []int{-top, 0, 0, 0, 0, 0}}, {V: []int{8, 0, 0, 0, 0, 0}}}},
		{impl.Table{S: impl.Schema{Nums: 3}, Rows: []impl.Sample{{Nums: []int{1, 2, 3}, Label: 5}}}, []impl.Vec{{V: []int{1, 2, 3, 0, 0, 0}}}},
		// A word that came ahead once: 10 and 3000, by 2.
		{impl.Table{S: impl.Schema{Cats: 1}, Rows: []impl.Sample{{Cats: []string{"a"}, Label: 1000}, {Cats: []string{"a"}, Label: 3000}}}, []impl.Vec{{V: []int{1505, 0, 0, 0, 0, 0}}, {V: []int{10, 0, 0, 0, 0, 0}}}},
		{impl.Table{S: impl.Schema{Cats: 1}, Rows: []impl.Sample{{Cats: []string{"a"}, Label: 1000}, {Cats: []string{"b"}, Label: 3000}}}, []impl.Vec{{V: []int{10, 0, 0, 0, 0, 0}}, {V: []int{10, 0, 0, 0, 0, 0}}}},
		// Below 0: 10 and -13, by 2.
		{impl.Table{S: impl.Schema{Nums: 2, Cats: 1}, Rows: []impl.Sample{{Nums: []int{4, 5}, Cats: []string{"a"}, Label: 7}, {Nums: []int{6, 7}, Cats: []string{"a"}, Label: -13}}}, []impl.Vec{{V: []int{4, 5, -2, 0, 0, 0}}, {V: []int{6, 7, 10, 0, 0, 0}}}},
		// The second words are alike, the first and the pairs are not.
		{impl.Table{S: impl.Schema{Nums: 1, Cats: 2}, Rows: []impl.Sample{{Nums: []int{4}, Cats: []string{"a", "b"}, Label: 7}, {Nums: []int{5}, Cats: []string{"c", "b"}, Label: 90}}}, []impl.Vec{{V: []int{4, 10, 50, 10, 0, 0}}, {V: []int{5, 10, 10, 10, 0, 0}}}},
		// All are.
		{impl.Table{S: impl.Schema{Nums: 3, Cats: 2}, Rows: []impl.Sample{{Nums: []int{1, 2, 3}, Cats: []string{"a", "b"}, Label: 7}, {Nums: []int{4, 5, 6}, Cats: []string{"a", "b"}, Label: 90}}}, []impl.Vec{{V: []int{1, 2, 3, 50, 50, 50}}, {V: []int{4, 5, 6, 10, 10, 10}}}},
		// A word of one column is no word of the other one.
		{impl.Table{S: impl.Schema{Cats: 2}, Rows: []impl.Sample{{Cats: []string{"a", "b"}, Label: 7}, {Cats: []string{"b", "a"}, Label: 90}}}, []impl.Vec{{V: []int{10, 10, 10, 0, 0, 0}}, {V: []int{10, 10, 10, 0, 0, 0}}}},
	} {
		if x, ok := impl.Matrix(one.table, c); !sameVecs(x, one.want) || !ok {
			t.Errorf("Matrix(%v) = %v, %v, not %v", one.table, x, ok, one.want)
		}
	}
}

func TestMatrixAsTold(t *testing.T) {
	confs := goodConfs()
	for i, table := range someTables() {
		for turn := range 4 {
			c := confs[(7*i+turn)%len(confs)]
			x, ok := impl.Matrix(table, c)
			if want := matrixAsTold(table, c); !sameVecs(x, want) || !ok {
				t.Fatalf("Matrix(%v, %v) = %v, %v, not %v", table, c, x, ok, want)
			}
		}
	}
	for _, c := range confs {
		table := drawnTable(8, impl.Schema{Nums: 3, Cats: 2}, impl.MaxRows)
		if x, ok := impl.Matrix(table, c); !sameVecs(x, matrixAsTold(table, c)) || !ok {
			t.Fatalf("Matrix(%v, %v) = %v, %v", table, c, x, ok)
		}
	}
}

// TestMatrixHangsOnSeedAndPriorAlone: of a Conf, no other field is asked.
func TestMatrixHangsOnSeedAndPriorAlone(t *testing.T) {
	table := drawnTable(5, impl.Schema{Nums: 1, Cats: 2}, 30)
	want, _ := impl.Matrix(table, midConf())
	for _, c := range goodConfs() {
		x, _ := impl.Matrix(table, c)
		if alike := c.Seed == midConf().Seed && c.Prior == midConf().Prior; sameVecs(x, want) != alike {
			t.Errorf("Matrix with %v and with %v: alike is not %v", c, midConf(), alike)
		}
	}
}

// relabelledTable has other labels from k on in the order.
func relabelledTable(t impl.Table, order []int, k int, turn int) impl.Table {
	l := labelled{labels: labelsOf(t), perm: order}.relabelled(k, turn)
	rows := slices.Clone(t.Rows)
	for i := range rows {
		rows[i].Label = l.labels[i]
	}
	return impl.Table{S: t.S, Rows: rows}
}

// TestFeaturesDoNotHangOnLabelsBehind is promise 4, of the features that rows are learned by.
func TestFeaturesDoNotHangOnLabelsBehind(t *testing.T) {
	for _, s := range allSchemas() {
		for _, rows := range []int{1, 2, 12, impl.MaxRows} {
			table, c := drawnTable(4+rows, s, rows), midConf()
			want, _ := impl.Matrix(table, c)
			order := permAsTold(c.Seed, rows)
			for k := range order {
				for turn := range 6 {
					x, ok := impl.Matrix(relabelledTable(table, order, k, turn), c)
					for _, row := range order[:k+1] {
						if !ok || !slices.Equal(x[row].V, want[row].V) {
							t.Fatalf("%v: row %d has %v, with other labels from %d on %v, %v", table, row, want[row], k, x[row], ok)
						}
					}
				}
			}
		}
	}
}

// TestFeaturesHangOnLabelsAhead keeps the promise from being met by numbers that hang on no label.
func TestFeaturesHangOnLabelsAhead(t *testing.T) {
	for _, s := range allSchemas() {
		table, c := impl.Table{S: s}, midConf()
		for n := range impl.MaxRows {
			row := rowOf(s, n)
			for i := range row.Cats {
				row.Cats[i] = []string{"a", "b"}[n>>i&1]
			}
			table.Rows = append(table.Rows, row)
		}
		want, _ := impl.Matrix(table, c)
		order := permAsTold(c.Seed, impl.MaxRows)
		columns := columnsAsTold(table)
		for k, changed := range order {
			other := impl.Table{S: s, Rows: slices.Clone(table.Rows)}
			other.Rows[changed].Label = (table.Rows[changed].Label + 2*topLabel + 500000) % topLabel
			x, _ := impl.Matrix(other, c)
			for i, row := range order {
				for f := range feats {
					hangs := s.Nums <= f && f < s.Nums+len(columns) && i > k && columns[f-s.Nums][row] == columns[f-s.Nums][changed]
					if got := x[row].V[f] != want[row].V[f]; got != hangs {
						t.Fatalf("%v: feature %d at %d in the order hangs on the label at %d: %v", s, f, i, k, got)
					}
				}
			}
		}
	}
}

// TestCtrTabs: worked out by hand.
func TestCtrTabs(t *testing.T) {
	c := impl.Conf{Most: 1, Rate: 1, L2: 1, Prior: 10, Seed: 1}
	rows := []impl.Sample{{Cats: []string{"b", "x"}, Label: 7}, {Cats: []string{"a", "x"}, Label: -30}, {Cats: []string{"b", "y"}, Label: 1}, {Cats: []string{"b", "x"}, Label: -1}}
	first := slices.Clone(rows)
	for i := range first {
		first[i].Cats = first[i].Cats[:1]
	}
	for _, one := range []struct {
		table impl.Table
		want  []impl.CtrTab
	}{
		{impl.Table{}, nil}, {impl.Table{S: impl.Schema{Nums: 3}}, nil}, {impl.Table{S: impl.Schema{Nums: 1}, Rows: []impl.Sample{{Nums: []int{4}, Label: 8}}}, nil},
		// No rows, but word columns.
		{impl.Table{S: impl.Schema{Cats: 1}}, make([]impl.CtrTab, 1)}, {impl.Table{S: impl.Schema{Nums: 3, Cats: 2}}, make([]impl.CtrTab, 3)},
		{impl.Table{S: impl.Schema{Cats: 1}, Rows: first[:1]}, []impl.CtrTab{{Words: []string{"b"}, Vals: []int{8}}}},
		{impl.Table{S: impl.Schema{Cats: 1}, Rows: first}, []impl.CtrTab{{Words: []string{"b", "a"}, Vals: []int{4, -10}}}},
		{impl.Table{S: impl.Schema{Cats: 2}, Rows: rows}, []impl.CtrTab{{Words: []string{"b", "a"}, Vals: []int{4, -10}}, {Words: []string{"x", "y"}, Vals: []int{-4, 5}}, {Words: []string{"b+x", "a+x", "b+y"}, Vals: []int{5, -10, 5}}}},
	} {
		if tabs, ok := impl.CtrTabs(one.table, c); !sameTabs(tabs, one.want) || !ok {
			t.Errorf("CtrTabs(%v) = %v, %v, not %v", one.table, tabs, ok, one.want)
		}
	}
}

func TestCtrTabsAsTold(t *testing.T) {
	confs := goodConfs()
	for i, table := range someTables() {
		for turn := range 4 {
			c := confs[(7*i+turn)%len(confs)]
			tabs, ok := impl.CtrTabs(table, c)
			if want := tabsAsTold(table, c); !sameTabs(tabs, want) || !ok || len(tabs) != []int{0, 1, 3}[table.S.Cats] {
				t.Fatalf("CtrTabs(%v, %v) = %v, %v, not %v", table, c, tabs, ok, want)
			}
		}
	}
	for _, c := range confs {
		table := drawnTable(8, impl.Schema{Nums: 3, Cats: 2}, impl.MaxRows)
		if tabs, ok := impl.CtrTabs(table, c); !sameTabs(tabs, tabsAsTold(table, c)) || !ok {
			t.Fatalf("CtrTabs(%v, %v) = %v, %v", table, c, tabs, ok)
		}
	}
}

// refusesTable: Matrix, CtrTabs and Train ask for the same.
func refusesTable(t *testing.T, table impl.Table, c impl.Conf) {
	t.Helper()
	if x, ok := impl.Matrix(table, c); len(x) != 0 || ok {
		t.Fatalf("Matrix(%.80v, %v) = %v, %v", table, c, x, ok)
	}
	if tabs, ok := impl.CtrTabs(table, c); len(tabs) != 0 || ok {
		t.Fatalf("CtrTabs(%.80v, %v) = %v, %v", table, c, tabs, ok)
	}
	if m, ok := impl.Train(table, c); !sameModel(m, impl.Model{}) || ok {
		t.Fatalf("Train(%.80v, %v) = %v, %v", table, c, m, ok)
	}
}

func TestNoTablesAreLearned(t *testing.T) {
	for i, table := range noTables() {
		refusesTable(t, table, goodConfs()[i%len(goodConfs())])
		refusesTable(t, table, noConfs()[i%len(noConfs())])
	}
	for _, c := range noConfs() {
		for _, s := range allSchemas() {
			for _, rows := range []int{0, 1, 5, impl.MaxRows} {
				refusesTable(t, tableOf(s, rows), c)
			}
		}
	}
}

func baseAsTold(labels []int) int {
	if len(labels) == 0 {
		return 0
	}
	together := new(big.Int)
	for _, label := range labels {
		together.Add(together, big.NewInt(int64(label)))
	}
	return floorOf(together, big.NewInt(int64(len(labels))))
}

func TestBaseOf(t *testing.T) {
	for _, c := range []struct {
		labels []int
		want   int
	}{
		{nil, 0}, {[]int{}, 0}, {[]int{0}, 0}, {[]int{7}, 7}, {[]int{-7}, -7}, {[]int{1, 2}, 1}, {[]int{2, 2}, 2}, {[]int{1, 2, 3, 5}, 2},
		// Below 0: down, not towards 0.
		{[]int{-1, 0}, -1}, {[]int{-1, -2}, -2}, {[]int{1, -4}, -2}, {[]int{-1, 0, 0}, -1}, {[]int{-1, -1, 0}, -1}, {[]int{-2, -2, 0}, -2}, {[]int{-3, 0, 0}, -1}, {[]int{-4, 2}, -1}, {[]int{-7, 3, 0, 1}, -1},
		{[]int{1000000}, 1000000}, {[]int{-1000000}, -1000000}, {[]int{1000000, -1000000}, 0}, {[]int{1000000, -1000000, -1}, -1}, {[]int{-1000000, -999999}, -1000000}, {[]int{1000000, 999999}, 999999},
		{slices.Repeat([]int{1000000}, 40), 1000000}, {slices.Repeat([]int{-1000000}, 40), -1000000}, {append(make([]int, 39), -1), -1}, {append(make([]int, 39), 1), 0}, {append(make([]int, 39), 40), 1}, {append(make([]int, 39), -40), -1}, {append(make([]int, 39), -41), -2},
	} {
		if got := impl.BaseOf(c.labels); got != c.want {
			t.Errorf("BaseOf(%v) = %d, not %d", c.labels, got, c.want)
		}
	}
	for seed := 1; seed <= 400; seed++ {
		labels := drawnLabels(seed, seed%(impl.MaxRows+1))
		if got := impl.BaseOf(labels); got != baseAsTold(labels) {
			t.Fatalf("BaseOf(%v) = %d, not %d", labels, got, baseAsTold(labels))
		}
	}
}

func TestBaseOfOthers(t *testing.T) {
	for _, n := range []int{1, 2, 5, impl.MaxRows} {
		for at := range n {
			for _, wrong := range noLabels() {
				labels := slices.Repeat([]int{topLabel}, n)
				labels[at] = wrong
				if got := impl.BaseOf(labels); got != 0 {
					t.Fatalf("BaseOf(%v) = %d", labels, got)
				}
			}
		}
	}
	for _, n := range []int{impl.MaxRows + 1, impl.MaxRows + 2, 1000} {
		if got := impl.BaseOf(slices.Repeat([]int{500}, n)); got != 0 {
			t.Errorf("BaseOf of %d labels = %d", n, got)
		}
	}
	// Two wrong ones whose sum would be right.
	if got := impl.BaseOf([]int{topLabel + 1, 5, -topLabel - 1, 5}); got != 0 {
		t.Error(got)
	}
}

// gradAsTold goes by numbers of any size, so that nothing wraps round.
func gradAsTold(label int, pred int) int {
	off := new(big.Int).Sub(big.NewInt(int64(bounded(label))), big.NewInt(int64(bounded(pred))))
	switch {
	case off.Cmp(big.NewInt(2000000)) > 0:
		return 2000000
	case off.Cmp(big.NewInt(-2000000)) < 0:
		return -2000000
	}
	return int(off.Int64())
}

func gradsAsTold(labels []int, preds []int) []int {
	var grads []int
	for row, label := range labels {
		grads = append(grads, gradAsTold(label, preds[row]))
	}
	return grads
}

func TestGradsOf(t *testing.T) {
	for _, c := range []struct{ label, pred, want int }{
		{0, 0, 0}, {5, 3, 2}, {3, 5, -2}, {-3, 5, -8}, {-3, -5, 2}, {1000, -1000, 2000}, {-1000, 1000, -2000},
		// Just at MaxGrad, and just beyond.
		{1000000, -1000000, 2000000}, {-1000000, 1000000, -2000000}, {1000000, -999999, 1999999}, {-1000000, 999999, -1999999}, {1000000, -1000001, 2000000}, {-1000000, 1000001, -2000000},
		{1000000, -5000000, 2000000}, {-1000000, 5000000, -2000000}, {2000000, 0, 2000000}, {2000001, 0, 2000000}, {-2000000, 0, -2000000}, {-2000001, 0, -2000000}, {0, 1999999, -1999999}, {0, -1999999, 1999999},
		// Beyond MaxFix: taken for the bound.
		{top, -top, 2000000}, {-top, top, -2000000}, {top, top, 0}, {top + 5, top, 0}, {top, top + 5, 0}, {top + 5, top - 5, 5}, {top - 5, top + 5, -5}, {-top - 5, -top, 0}, {-top, -top - 5, 0}, {-top - 5, -top + 5, -5}, {-top + 5, -top - 5, 5},
		{math.MaxInt, top - 1, 1}, {math.MinInt, -top + 1, -1}, {math.MaxInt, math.MaxInt - 9, 0}, {math.MinInt, math.MinInt + 9, 0},
		{math.MaxInt, math.MinInt, 2000000}, {math.MinInt, math.MaxInt, -2000000}, {math.MinInt, math.MinInt, 0}, {math.MaxInt, math.MaxInt, 0}, {0, math.MinInt, 2000000}, {0, math.MaxInt, -2000000}, {-1, math.MinInt, 2000000}, {math.MinInt, 1, -2000000},
	} {
		if got := impl.GradsOf([]int{c.label}, []int{c.pred}); !slices.Equal(got, []int{c.want}) {
			t.Errorf("GradsOf(%d, %d) = %v, not %d", c.label, c.pred, got, c.want)
		}
	}
}

func TestGradsOfLists(t *testing.T) {
	var labels, preds []int
	for _, label := range append(goodNumbers(), noNumbers()...) {
		for _, pred := range append(goodNumbers(), noNumbers()...) {
			labels, preds = append(labels, label), append(preds, pred)
		}
	}
	// More than MaxRows are taken as well.
	if got := impl.GradsOf(labels, preds); !slices.Equal(got, gradsAsTold(labels, preds)) {
		t.Errorf("GradsOf(%v, %v) = %v", labels, preds, got)
	}
	for _, n := range []int{0, 1, 2, impl.MaxRows, impl.MaxRows + 1, len(labels)} {
		for _, m := range []int{0, 1, 2, impl.MaxRows, impl.MaxRows + 1, len(labels)} {
			got := impl.GradsOf(labels[:n], preds[:m])
			if n == m && !slices.Equal(got, gradsAsTold(labels[:n], preds[:m])) || n != m && len(got) != 0 {
				t.Errorf("GradsOf of %d labels and %d predictions = %v", n, m, got)
			}
		}
	}
	if got := impl.GradsOf(nil, []int{}); len(got) != 0 {
		t.Error(got)
	}
}

// learnAsTold goes by the words of the chapter, with what the tests of the chapters ahead work out. It answers the predictions as well, at last.
func (l lesson) learnAsTold() ([]impl.Tree, int, []int) {
	borders := make([]impl.Vec, feats)
	for f := range borders {
		var numbers []int
		for _, x := range l.x {
			numbers = append(numbers, x.V[f])
		}
		borders[f].V = bordersAsTold(numbers, l.c.Most)
	}
	base := baseAsTold(l.labels)
	preds := slices.Repeat([]int{base}, len(l.x))
	var trees []impl.Tree
	for len(trees) < l.c.Trees {
		r := impl.Rows{X: l.x, Grads: gradsAsTold(l.labels, preds), Ids: make([]int, len(l.x)), Leaves: 1, L2: l.c.L2}
		tree := growAsTold(r, borders, impl.Grow{Depth: l.c.Depth, Rate: l.c.Rate})
		trees = append(trees, tree)
		for row, x := range l.x {
			preds[row] = bounded(preds[row] + evalAsTold(tree, x.V))
		}
	}
	return trees, base, preds
}

func learnConf(trees int, depth int, rate int) impl.Conf {
	return impl.Conf{Trees: trees, Depth: depth, Most: mostBorders, Rate: rate, L2: 1, Seed: 1}
}

// oneFeature: a row for each number, at the place f.
func oneFeature(f int, numbers ...int) []impl.Vec {
	var x []impl.Vec
	for _, number := range numbers {
		v := make([]int, feats)
		v[f] = number
		x = append(x, impl.Vec{V: v})
	}
	return x
}

// farLesson: two features that say much each, and one row that both speak of, which has the contrary label: with one question a tree, it is told ever further off.
func farLesson(sign int, depth int) lesson {
	l := lesson{c: learnConf(mostTrees, depth, 1000)}
	for n := range 37 {
		x, label := []int{n % 3 & 1, n % 3 >> 1, 0, 0, 0, 0}, sign*topLabel
		if n%3 == 0 {
			label = -label
		}
		if n == 36 {
			x[0], x[1] = 1, 1
		}
		l.x, l.labels = append(l.x, impl.Vec{V: x}), append(l.labels, label)
	}
	return l
}

func drawnLesson(seed int, rows int, c impl.Conf) lesson {
	l := lesson{labels: drawnLabels(seed, rows), c: c}
	for row := range rows {
		l.x = append(l.x, impl.Vec{V: drawnNumbers(seed+7*row+1, feats, []int{3, 9, 1000}[seed%3])})
	}
	return l
}

// boundLesson: numbers and labels at their bounds.
func boundLesson(rows int, c impl.Conf) lesson {
	l := lesson{c: c}
	for row := range rows {
		l.x = append(l.x, impl.Vec{V: []int{top, -top, row - top, top - row, []int{top, -top}[row%2], 0}})
		l.labels = append(l.labels, []int{topLabel, -topLabel, -topLabel}[row%3])
	}
	return l
}

func someLessons() []lesson {
	var list []lesson
	for i, c := range goodConfs() {
		list = append(list, drawnLesson(1+i, []int{0, 1, 2, 3, 11, 25, impl.MaxRows}[i%7], c), drawnLesson(500+i, impl.MaxRows, c))
	}
	for depth := range deepest + 1 {
		list = append(list, farLesson(1, depth), farLesson(-1, depth))
		for _, rows := range []int{0, 1, 2, 7, impl.MaxRows} {
			list = append(list, boundLesson(rows, learnConf(mostTrees, depth, 1000)), drawnLesson(9+rows+depth, rows, learnConf(mostTrees, depth, 900)))
		}
	}
	return list
}

// TestTrainOn: worked out by hand from the chapter's words.
func TestTrainOn(t *testing.T) {
	at := func(f int, b int, leaves ...int) impl.Tree {
		return impl.Tree{Splits: []impl.Split{{F: f, B: b}}, Leaves: leaves}
	}
	for _, one := range []struct {
		x      []impl.Vec
		labels []int
		c      impl.Conf
		base   int
		want   []impl.Tree
	}{
		// Half of what is wrong each time; what does not come out even goes down.
		{oneFeature(0, 0, 2000), []int{-1000, 1000}, learnConf(5, 1, 1000), 0, []impl.Tree{at(0, 0, -500, 500), at(0, 0, -250, 250), at(0, 0, -125, 125), at(0, 0, -63, 62), at(0, 0, -31, 31)}},
		{oneFeature(4, 8, -7), []int{-1000, 1000}, learnConf(2, 4, 500), 0, []impl.Tree{at(4, -7, 250, -250), at(4, -7, 187, -188)}},
		// The base is -2; what is wrong is 3 and -2, then 2 and -1, then 1 and 0, which is worth no question.
		{oneFeature(1, 5, 6), []int{1, -4}, learnConf(4, 1, 1000), -2, []impl.Tree{at(1, 5, 1, -1), at(1, 5, 1, -1), {Leaves: []int{0}}, {Leaves: []int{0}}}},
		// No question may be asked: of three rows, one by four.
		{oneFeature(0, 1, 2, 3), []int{0, 0, 5}, learnConf(3, 0, 1000), 1, []impl.Tree{{Leaves: []int{0}}, {Leaves: []int{0}}, {Leaves: []int{0}}}},
		{oneFeature(0, 1, 2, 3), []int{0, 0, -5}, learnConf(2, 0, 1000), -2, []impl.Tree{{Leaves: []int{0}}, {Leaves: []int{0}}}},
		// No border is there.
		{oneFeature(0, 3, 3), []int{-1000, 1000}, learnConf(2, 4, 1000), 0, []impl.Tree{{Leaves: []int{0}}, {Leaves: []int{0}}}},
		// One row: nothing is wrong.
		{oneFeature(0, 3), []int{-777}, learnConf(2, 4, 1000), -777, []impl.Tree{{Leaves: []int{0}}, {Leaves: []int{0}}}},
		// No rows.
		{nil, nil, learnConf(2, 4, 1000), 0, []impl.Tree{{Leaves: []int{0}}, {Leaves: []int{0}}}}, {[]impl.Vec{}, []int{}, learnConf(0, 4, 1000), 0, nil},
		// No trees.
		{oneFeature(0, 0, 2000), []int{-1000, 1001}, learnConf(0, 4, 1000), 0, nil}, {oneFeature(0, 0, 2000), []int{-1001, 1000}, learnConf(0, 4, 1000), -1, nil},
		// As far apart as labels may be.
		{oneFeature(5, -top, top), []int{topLabel, -topLabel}, learnConf(1, 1, 1000), 0, []impl.Tree{at(5, -top, 500000, -500000)}},
		// Two features say the same: the first is asked.
		{[]impl.Vec{{V: []int{0, 0, 4, 4, 0, 0}}, {V: []int{0, 0, 5, 5, 0, 0}}}, []int{-1000, 1000}, learnConf(1, 4, 1000), 0, []impl.Tree{at(2, 4, -500, 500)}},
		// Of four numbers one border alone: the second.
		{oneFeature(0, 1, 2, 3, 4), []int{-900, 300, 300, 300}, impl.Conf{Trees: 1, Depth: 1, Most: 1, Rate: 1000, L2: 1, Seed: 1}, 0, []impl.Tree{at(0, 2, -200, 200)}},
		{oneFeature(0, 1, 2, 3, 4), []int{-900, 300, 300, 300}, impl.Conf{Trees: 1, Depth: 1, Most: 3, Rate: 1000, L2: 1, Seed: 1}, 0, []impl.Tree{at(0, 1, -450, 225)}},
		{oneFeature(0, 1, 2, 3, 4), []int{-900, 300, 300, 300}, impl.Conf{Trees: 1, Depth: 1, Most: 3, Rate: 1000, L2: 6, Seed: 1}, 0, []impl.Tree{at(0, 1, -129, 100)}},
	} {
		trees, base, ok := impl.TrainOn(one.x, one.labels, one.c)
		if !sameTrees(trees, one.want) || base != one.base || !ok {
			t.Errorf("TrainOn(%v, %v, %v) = %v, %d, %v, not %v, %d", one.x, one.labels, one.c, trees, base, ok, one.want, one.base)
		}
	}
}

func TestTrainOnAsTold(t *testing.T) {
	for _, l := range someLessons() {
		trees, base, ok := l.learn()
		if want, wantBase, _ := l.learnAsTold(); !sameTrees(trees, want) || base != wantBase || !ok || len(trees) != l.c.Trees {
			t.Fatalf("TrainOn(%v) = %v, %d, %v, not %v, %d", l, trees, base, ok, want, wantBase)
		}
		for _, tree := range trees {
			if !impl.TreeOk(tree) || len(tree.Splits) > l.c.Depth {
				t.Fatalf("TrainOn(%v) has a tree %v", l, tree)
			}
		}
	}
}

// TestLabelsFarFromWhatIsTold: what is wrong with a row goes beyond MaxGrad on each side, and trees come on.
func TestLabelsFarFromWhatIsTold(t *testing.T) {
	for _, sign := range []int{1, -1} {
		l := farLesson(sign, 1)
		_, base, preds := l.learnAsTold()
		if far := sign * (l.labels[36] - preds[36]); far >= -topGrad {
			t.Fatalf("the label %d is not far enough from %d", l.labels[36], preds[36])
		}
		trees, gotBase, ok := l.learn()
		if len(trees) != mostTrees || gotBase != base || !ok {
			t.Fatalf("TrainOn(%v) = %v, %d, %v", l, trees, gotBase, ok)
		}
		for row, x := range l.x {
			if told := impl.Sum(trees, x.V, base); told != preds[row] {
				t.Errorf("row %d is told %d, not %d", row, told, preds[row])
			}
		}
		last := trees[mostTrees-1]
		if !impl.TreeOk(last) || len(last.Splits) != 1 {
			t.Errorf("the last tree is %v", last)
		}
	}
}

// TestOrderOfLearnedRows is promise 9's first part.
func TestOrderOfLearnedRows(t *testing.T) {
	for i, l := range someLessons() {
		n := len(l.x)
		want, wantBase, _ := l.learn()
		for _, order := range [][]int{reversed(counted(n)), permAsTold(1+i, n), permAsTold(1000+i, n)} {
			other := lesson{c: l.c, labels: impl.Through(order, l.labels)}
			for _, row := range order {
				other.x = append(other.x, l.x[row])
			}
			if trees, base, ok := other.learn(); !sameTrees(trees, want) || base != wantBase || !ok {
				t.Fatalf("TrainOn(%v) in the order %v = %v, %d, %v, not %v, %d", l, order, trees, base, ok, want, wantBase)
			}
		}
	}
}

// TestOrderOfRowsOfATable: the same of a table without words, whatever the seed is.
func TestOrderOfRowsOfATable(t *testing.T) {
	for nums := range impl.MaxNums + 1 {
		for _, rows := range []int{0, 1, 2, 11, impl.MaxRows} {
			table, c := drawnTable(6+rows+nums, impl.Schema{Nums: nums}, rows), midConf()
			want, _ := impl.Train(table, c)
			for seed := 1; seed <= 5; seed++ {
				other := impl.Table{S: table.S}
				for _, row := range permAsTold(seed, rows) {
					other.Rows = append(other.Rows, table.Rows[row])
				}
				c.Seed = seed
				if m, ok := impl.Train(other, c); !sameModel(m, want) || !ok {
					t.Fatalf("Train(%v, %v) = %v, %v, not %v", other, c, m, ok, want)
				}
			}
		}
	}
}

// TestFewerTrees is promise 9's second part.
func TestFewerTrees(t *testing.T) {
	for _, l := range someLessons() {
		whole := l
		whole.c.Trees = mostTrees
		want, wantBase, _ := whole.learn()
		for n := range mostTrees + 1 {
			fewer := l
			fewer.c.Trees = n
			if trees, base, ok := fewer.learn(); !sameTrees(trees, want[:n]) || base != wantBase || !ok {
				t.Fatalf("TrainOn(%v) = %v, %d, %v, not the beginning of %v, %d", fewer, trees, base, ok, want, wantBase)
			}
		}
	}
	for _, s := range allSchemas() {
		table, c := drawnTable(10, s, 20), learnConf(mostTrees, 3, 800)
		want, _ := impl.Train(table, c)
		for n := range mostTrees {
			c.Trees = n
			beginning := want
			beginning.Trees = want.Trees[:n]
			if m, ok := impl.Train(table, c); !sameModel(m, beginning) || !ok {
				t.Fatalf("Train(%v, %v) = %v, %v, not %v", table, c, m, ok, beginning)
			}
		}
	}
}

// TestLabelsAlikeAreTold is promise 9's last part: of each row, by however many of the trees.
func TestLabelsAlikeAreTold(t *testing.T) {
	for i, label := range goodLabels() {
		for j, l := range someLessons() {
			if j%5 != i%5 {
				continue
			}
			for row := range l.labels {
				l.labels[row] = label
			}
			trees, base, ok := l.learn()
			if !ok || len(trees) != l.c.Trees {
				t.Fatalf("TrainOn(%v) = %v, %d, %v", l, trees, base, ok)
			}
			for _, x := range l.x {
				for n := range len(trees) + 1 {
					if told := impl.Sum(trees[:n], x.V, base); told != label {
						t.Fatalf("TrainOn(%v) = %v, %d, which tells %d of %v", l, trees, base, told, x)
					}
				}
			}
		}
	}
}

func TestLabelsAlikeOfATableAreTold(t *testing.T) {
	for _, label := range goodLabels() {
		for _, s := range allSchemas() {
			table := drawnTable(11, s, 15)
			for row := range table.Rows {
				table.Rows[row].Label = label
			}
			for _, c := range []impl.Conf{midConf(), learnConf(mostTrees, deepest, 1000), learnConf(0, 0, 1)} {
				m, ok := impl.Train(table, c)
				x, _ := impl.Matrix(table, c)
				for _, features := range append(x, impl.Vec{V: make([]int, feats)}, impl.Vec{V: slices.Repeat([]int{top}, feats)}) {
					if told := impl.Sum(m.Trees, features.V, m.Base); told != label || !ok {
						t.Fatalf("Train(%v, %v) = %v, %v, which tells %d of %v", table, c, m, ok, told, features)
					}
				}
			}
		}
	}
}

// TestPriorAndSeedTellNothingOfRows: rows of numbers are learned the same whatever these are.
func TestPriorAndSeedTellNothingOfRows(t *testing.T) {
	l := drawnLesson(12, 30, midConf())
	want, wantBase, _ := l.learn()
	for _, c := range goodConfs() {
		l.c.Prior, l.c.Seed = c.Prior, c.Seed
		if trees, base, ok := l.learn(); !sameTrees(trees, want) || base != wantBase || !ok {
			t.Fatalf("TrainOn(%v) = %v, %d, %v, not %v, %d", l, trees, base, ok, want, wantBase)
		}
	}
}

func (l lesson) refused(t *testing.T) {
	t.Helper()
	if trees, base, ok := l.learn(); len(trees) != 0 || base != 0 || ok {
		t.Fatalf("TrainOn(%v) = %v, %d, %v", l, trees, base, ok)
	}
}

// plain: a right lesson whose base is not 0, so that one that is refused is told apart.
func plain(rows int, trees int) lesson {
	l := drawnLesson(13, rows, learnConf(trees, 2, 1000))
	for row := range l.labels {
		l.labels[row] = 500 + row
	}
	return l
}

func TestTrainOnTooManyRows(t *testing.T) {
	for _, trees := range []int{0, 3} {
		for _, rows := range []int{impl.MaxRows - 1, impl.MaxRows} {
			if got, base, ok := plain(rows, trees).learn(); len(got) != trees || base != 500+(rows-1)/2 || !ok {
				t.Errorf("TrainOn of %d rows: %v, %d, %v", rows, got, base, ok)
			}
		}
		for _, rows := range []int{impl.MaxRows + 1, impl.MaxRows + 2, 1000} {
			plain(rows, trees).refused(t)
		}
	}
}

func TestTrainOnWrongRows(t *testing.T) {
	for _, trees := range []int{0, 3} {
		for _, rows := range []int{1, 2, 5, impl.MaxRows} {
			for row := range rows {
				for _, n := range []int{0, 1, feats - 1, feats + 1, 2 * feats} {
					l := plain(rows, trees)
					l.x[row].V = make([]int, n)
					l.refused(t)
				}
				for f := range feats {
					for _, wrong := range noNumbers() {
						l := plain(rows, trees)
						l.x[row].V[f] = wrong
						l.refused(t)
					}
					for _, right := range []int{top, -top} {
						l := plain(rows, trees)
						l.x[row].V[f] = right
						if _, base, ok := l.learn(); base != 500+(rows-1)/2 || !ok {
							t.Fatalf("TrainOn(%v): %d, %v", l, base, ok)
						}
					}
				}
			}
		}
	}
}

func TestTrainOnWrongLabels(t *testing.T) {
	for _, trees := range []int{0, 3} {
		for _, rows := range []int{0, 1, 2, 5, impl.MaxRows} {
			for _, n := range []int{0, 1, 2, rows - 1, rows + 1, 2 * rows, impl.MaxRows, impl.MaxRows + 1} {
				if n < 0 || n == rows {
					continue
				}
				l := plain(rows, trees)
				l.labels = slices.Repeat([]int{500}, n)
				l.refused(t)
			}
			for row := range rows {
				for _, wrong := range noLabels() {
					l := plain(rows, trees)
					l.labels[row] = wrong
					l.refused(t)
				}
				for _, right := range []int{topLabel, -topLabel} {
					l := plain(rows, trees)
					l.labels[row] = right
					if _, base, ok := l.learn(); base != baseAsTold(l.labels) || !ok {
						t.Fatalf("TrainOn(%v): %d, %v", l, base, ok)
					}
				}
			}
		}
	}
}

func TestTrainOnWrongConfs(t *testing.T) {
	for _, c := range noConfs() {
		for _, rows := range []int{0, 1, 5, impl.MaxRows} {
			l := plain(rows, 3)
			l.c = c
			l.refused(t)
		}
	}
}

func (l lesson) copied() lesson {
	return lesson{copyVecs(l.x), slices.Clone(l.labels), l.c}
}

// trainAsTold: from the features and tables worked out apart from the program.
func trainAsTold(t impl.Table, c impl.Conf) impl.Model {
	trees, base, _ := lesson{matrixAsTold(t, c), labelsOf(t), c}.learnAsTold()
	return impl.Model{S: t.S, Prior: c.Prior, Base: base, Ctrs: tabsAsTold(t, c), Trees: trees}
}

// TestTrain: worked out by hand. The rows are in the order 1, 0; their words come to 1505 and 10.
func TestTrain(t *testing.T) {
	c := impl.Conf{Trees: 1, Depth: 1, Most: 3, Rate: 1000, L2: 1, Prior: 10, Seed: 1}
	table := impl.Table{S: impl.Schema{Cats: 1}, Rows: []impl.Sample{{Cats: []string{"a"}, Label: 1000}, {Cats: []string{"a"}, Label: 3000}}}
	want := impl.Model{
		S: impl.Schema{Cats: 1}, Prior: 10, Base: 2000,
		Ctrs:  []impl.CtrTab{{Words: []string{"a"}, Vals: []int{1336}}},
		Trees: []impl.Tree{{Splits: []impl.Split{{F: 0, B: 10}}, Leaves: []int{500, -500}}},
	}
	if m, ok := impl.Train(table, c); !sameModel(m, want) || !ok {
		t.Errorf("Train(%v, %v) = %v, %v, not %v", table, c, m, ok, want)
	}
	empty := impl.Model{S: impl.Schema{Nums: 3, Cats: 2}, Prior: 10, Ctrs: make([]impl.CtrTab, 3), Trees: []impl.Tree{{Leaves: []int{0}}}}
	if m, ok := impl.Train(impl.Table{S: empty.S}, c); !sameModel(m, empty) || !ok {
		t.Errorf("of no rows: %v, %v, not %v", m, ok, empty)
	}
	if m, ok := impl.Train(impl.Table{}, impl.Conf{Most: 1, Rate: 1, L2: 1, Seed: 1}); !sameModel(m, impl.Model{}) || !ok {
		t.Errorf("of no rows, no columns and no trees: %v, %v", m, ok)
	}
}

func TestTrainAsTold(t *testing.T) {
	confs := goodConfs()
	for i, table := range someTables() {
		c := confs[7*i%len(confs)]
		m, ok := impl.Train(table, c)
		if want := trainAsTold(table, c); !sameModel(m, want) || !ok {
			t.Fatalf("Train(%v, %v) = %v, %v, not %v", table, c, m, ok, want)
		}
	}
	for _, c := range confs {
		table := drawnTable(14, impl.Schema{Nums: 2, Cats: 2}, impl.MaxRows)
		if m, ok := impl.Train(table, c); !sameModel(m, trainAsTold(table, c)) || !ok {
			t.Fatalf("Train(%v, %v) = %v, %v", table, c, m, ok)
		}
	}
}

// TestTrainIsMadeOfTheOthers: what it answers is what they answer.
func TestTrainIsMadeOfTheOthers(t *testing.T) {
	for i, table := range someTables() {
		c := goodConfs()[i%len(goodConfs())]
		m, ok := impl.Train(table, c)
		x, _ := impl.Matrix(table, c)
		trees, base, _ := impl.TrainOn(x, impl.Labels(table), c)
		tabs, _ := impl.CtrTabs(table, c)
		if want := (impl.Model{S: table.S, Prior: c.Prior, Base: base, Ctrs: tabs, Trees: trees}); !sameModel(m, want) || !ok {
			t.Fatalf("Train(%v, %v) = %v, %v, not %v", table, c, m, ok, want)
		}
	}
}

func copyTable(t impl.Table) impl.Table {
	copied := impl.Table{S: t.S}
	for _, row := range t.Rows {
		copied.Rows = append(copied.Rows, impl.Sample{Nums: slices.Clone(row.Nums), Cats: slices.Clone(row.Cats), Label: row.Label})
	}
	return copied
}

func copyModel(m impl.Model) impl.Model {
	copied := m
	copied.Ctrs, copied.Trees = nil, nil
	for _, tab := range m.Ctrs {
		copied.Ctrs = append(copied.Ctrs, impl.CtrTab{Words: slices.Clone(tab.Words), Vals: slices.Clone(tab.Vals)})
	}
	for _, tree := range m.Trees {
		copied.Trees = append(copied.Trees, copyTree(tree))
	}
	return copied
}

func wipeTabs(list []impl.CtrTab) {
	for _, tab := range list {
		wipeWords(tab.Words)
		wipe(tab.Vals)
	}
	clear(list[:cap(list)])
}

func wipeTrees(list []impl.Tree) {
	for _, tree := range list {
		wipeTree(tree)
	}
	clear(list[:cap(list)])
}

// TestLearnedTablesStayAsTheyWere: also the room behind each of their lists, and where what is answered is written into.
func TestLearnedTablesStayAsTheyWere(t *testing.T) {
	table := tableInRoom()
	few := copyTable(table)
	for _, c := range append(goodConfs(), noConfs()...) {
		for range 2 {
			x, ok := impl.Matrix(table, c)
			tabs, _ := impl.CtrTabs(table, c)
			m, _ := impl.Train(table, c)
			if ok && (!sameVecs(x, matrixAsTold(few, c)) || !sameTabs(tabs, tabsAsTold(few, c)) || !sameModel(m, trainAsTold(few, c))) {
				t.Fatalf("of %v, with room behind it: %v, %v, %v", few, x, tabs, m)
			}
			wipeVecs(x)
			wipeTabs(tabs)
			wipeTabs(m.Ctrs)
			wipeTrees(m.Trees)
			if !sameRoom(table, tableInRoom()) {
				t.Fatal("what was handed in was written into", table)
			}
		}
	}
}

func TestLessonsStayAsTheyWere(t *testing.T) {
	wrong := []lesson{plain(impl.MaxRows+1, 2), {x: make([]impl.Vec, 2), labels: []int{1, 2}, c: midConf()}, {x: oneFeature(0, 1), labels: []int{topLabel + 1}, c: midConf()}, {x: oneFeature(0, top+1), labels: []int{1}, c: midConf()}, {x: oneFeature(0, 1, 2), labels: []int{1, 2}}}
	for _, l := range append(someLessons(), wrong...) {
		handed := lesson{vecsInRoom(l.x), inRoom(l.labels), l.c}
		preds := inRoom(reversed(l.labels))
		for range 2 {
			want, wantBase, wantOk := l.learn()
			trees, base, ok := handed.learn()
			if !sameTrees(trees, want) || base != wantBase || ok != wantOk {
				t.Fatalf("TrainOn(%v) with room behind = %v, %d, %v, not %v, %d, %v", l, trees, base, ok, want, wantBase, wantOk)
			}
			wipeTrees(trees)
			wipe(impl.GradsOf(handed.labels, preds))
			impl.BaseOf(handed.labels)
			if !vecsRoomKept(handed.x, l.x) || !roomKept(handed.labels, l.labels) || !roomKept(preds, reversed(l.labels)) {
				t.Fatalf("%v was written into: %v, %v", l, handed, preds)
			}
		}
	}
}

// TestGradsAreNew: though both lists handed in be one.
func TestGradsAreNew(t *testing.T) {
	one := []int{1, 2, 3}
	grads := impl.GradsOf(one, one)
	if !slices.Equal(grads, []int{0, 0, 0}) || !slices.Equal(one, []int{1, 2, 3}) {
		t.Fatal(grads, one)
	}
	wipe(one)
	if !slices.Equal(grads, []int{0, 0, 0}) {
		t.Error("an answer was written through what was handed in", grads)
	}
}

// TestWhatIsLearnedIsNew: wiping what was handed in changes no answer.
func TestWhatIsLearnedIsNew(t *testing.T) {
	for i, given := range someTables() {
		table, c := copyTable(given), goodConfs()[i%len(goodConfs())]
		x, _ := impl.Matrix(table, c)
		tabs, _ := impl.CtrTabs(table, c)
		m, _ := impl.Train(table, c)
		wipeTable(table)
		if !sameVecs(x, matrixAsTold(given, c)) || !sameTabs(tabs, tabsAsTold(given, c)) || !sameModel(m, trainAsTold(given, c)) {
			t.Fatalf("what %v answered was written through it: %v, %v, %v", given, x, tabs, m)
		}
	}
	for _, given := range someLessons() {
		l := given.copied()
		trees, _, _ := l.learn()
		wipeVecs(l.x)
		wipe(l.labels)
		if want, _, _ := given.learn(); !sameTrees(trees, want) {
			t.Fatalf("what %v answered was written through it: %v", given, trees)
		}
	}
}

// TestListsOfAMatrixAreApart: each row is wiped, and the others looked at.
func TestListsOfAMatrixAreApart(t *testing.T) {
	one := []int{1, 2, 3}
	words := []string{"a", "b"}
	table := impl.Table{S: impl.Schema{Nums: 3, Cats: 2}, Rows: slices.Repeat([]impl.Sample{{Nums: one, Cats: words, Label: 9}}, 6)}
	x, _ := impl.Matrix(table, midConf())
	kept := copyVecs(x)
	for row := range x {
		wipe(x[row].V)
		kept[row].V = slices.Clone(x[row].V)
		if !sameVecs(x, kept) || !slices.Equal(one, []int{1, 2, 3}) {
			t.Fatalf("lists share memory: %v, not %v", x, kept)
		}
	}
}

// TestListsOfAModelAreApart: each list is wiped in turn, and all others looked at.
func TestListsOfAModelAreApart(t *testing.T) {
	m, ok := impl.Train(drawnTable(15, impl.Schema{Nums: 3, Cats: 2}, impl.MaxRows), learnConf(mostTrees, deepest, 500))
	other, _ := impl.Train(drawnTable(15, impl.Schema{Nums: 3, Cats: 2}, impl.MaxRows), learnConf(mostTrees, deepest, 500))
	if !ok || len(m.Ctrs) != 3 || len(m.Trees) != mostTrees {
		t.Fatal(m, ok)
	}
	kept, whole := copyModel(m), copyModel(m)
	look := func() {
		t.Helper()
		if !sameModel(m, kept) || !sameModel(other, whole) {
			t.Fatalf("lists share memory: %v, not %v", m, kept)
		}
	}
	for i := range m.Ctrs {
		wipeWords(m.Ctrs[i].Words)
		kept.Ctrs[i].Words = slices.Clone(m.Ctrs[i].Words)
		look()
		wipe(m.Ctrs[i].Vals)
		kept.Ctrs[i].Vals = slices.Clone(m.Ctrs[i].Vals)
		look()
	}
	for i := range m.Trees {
		wipeSplits(m.Trees[i].Splits)
		kept.Trees[i].Splits = slices.Clone(m.Trees[i].Splits)
		look()
		wipe(m.Trees[i].Leaves)
		kept.Trees[i].Leaves = slices.Clone(m.Trees[i].Leaves)
		look()
	}
}

// TestLearnedWordsAreCopied: no word of a model lies within the table's, nor within another list's.
func TestLearnedWordsAreCopied(t *testing.T) {
	word := strings.Clone("red")
	table := impl.Table{S: impl.Schema{Cats: 2}, Rows: []impl.Sample{{Cats: []string{word, word}, Label: 5}, {Cats: []string{word, word}, Label: 6}}}
	tabs, _ := impl.CtrTabs(table, midConf())
	m, _ := impl.Train(table, midConf())
	for _, list := range [][]impl.CtrTab{tabs, m.Ctrs} {
		if len(list) != 3 || !slices.Equal(list[2].Words, []string{"red+red"}) {
			t.Fatal(list)
		}
		for i, tab := range list {
			if within(tab.Words[0], word) {
				t.Errorf("%q lies within what was handed in", tab.Words[0])
			}
			for _, behind := range list[i+1:] {
				if within(tab.Words[0], behind.Words[0]) || within(behind.Words[0], tab.Words[0]) {
					t.Errorf("%q and %q share memory", tab.Words[0], behind.Words[0])
				}
			}
		}
	}
}

// TestLearnReadsNothingBehindTheEnd: the room behind must not make up for what is too little, nor be too much.
func TestLearnReadsNothingBehindTheEnd(t *testing.T) {
	l := plain(10, 3)
	want, wantBase, _ := plain(10, 3).learn()
	l.x = append(l.x, impl.Vec{})[:10]
	l.labels = append(l.labels, topLabel+1)[:10]
	l.x[4].V = append(l.x[4].V, math.MaxInt)[:feats]
	if trees, base, ok := l.learn(); !sameTrees(trees, want) || base != wantBase || !ok || impl.BaseOf(l.labels) != wantBase {
		t.Errorf("TrainOn(%v) = %v, %d, %v, not %v, %d", l, trees, base, ok, want, wantBase)
	}
	short := plain(10, 3)
	short.labels = short.labels[:9]
	short.refused(t)
	short = plain(10, 3)
	short.x[0].V = short.x[0].V[:feats-1]
	short.refused(t)
	if got := impl.GradsOf(l.labels[:3], l.labels[:2]); len(got) != 0 {
		t.Error(got)
	}
}

// TestLearnAgain: the same answer however often it is asked, whatever was asked between, and by several at once.
func TestLearnAgain(t *testing.T) {
	table, c := drawnTable(17, impl.Schema{Nums: 3, Cats: 2}, impl.MaxRows), learnConf(mostTrees, deepest, 600)
	want := trainAsTold(table, c)
	var askers sync.WaitGroup
	for range 8 {
		askers.Go(func() {
			for seed := 1; seed <= 5; seed++ {
				if m, ok := impl.Train(table, c); !sameModel(m, want) || !ok {
					t.Errorf("Train(%v, %v) = %v, %v, not %v", table, c, m, ok, want)
					return
				}
				impl.Train(drawnTable(seed, impl.Schema{Cats: 1}, 9), midConf())
				impl.Train(impl.Table{}, impl.Conf{})
			}
		})
	}
	askers.Wait()
}

// TestLearnLeavesNobodyAtWork: the time is for those that are just about to end.
func TestLearnLeavesNobodyAtWork(t *testing.T) {
	before := runtime.NumGoroutine()
	for seed := 1; seed <= 20; seed++ {
		drawnLesson(seed, 20, learnConf(mostTrees, deepest, 700)).learn()
	}
	for range 1000 {
		if runtime.NumGoroutine() <= before {
			return
		}
		time.Sleep(5 * time.Millisecond)
	}
	t.Fatalf("%d are at work, where %d were", runtime.NumGoroutine(), before)
}

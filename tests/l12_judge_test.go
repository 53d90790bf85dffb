package tests

import (
	"math"
	"math/big"
	"slices"
	"sync"
	"testing"

	"loop.example/g00566/impl"
)

const mostFolds = 10

// offAsTold goes by numbers of any size, so that nothing wraps round.
func offAsTold(labels []int, preds []int) int {
	off := new(big.Int)
	for row, label := range labels {
		apart := new(big.Int).Sub(big.NewInt(int64(bounded(label))), big.NewInt(int64(bounded(preds[row]))))
		off.Add(off, apart.Abs(apart))
	}
	return int(off.Int64())
}

// stageOffsAsTold: for each number of trees, by what is told of each row stage by stage.
func stageOffsAsTold(m impl.Model, table impl.Table) []int {
	var offs []int
	for k := range len(m.Trees) + 1 {
		var preds []int
		for _, x := range table.Rows {
			preds = append(preds, stagedAsTold(m, x)[k])
		}
		offs = append(offs, offAsTold(labelsOf(table), preds))
	}
	return offs
}

// foldOf picks every k-th row from the place fold on; the others are what is left.
func foldOf(table impl.Table, k int, fold int) (impl.Table, impl.Table) {
	others, own := impl.Table{S: table.S}, impl.Table{S: table.S}
	for at := 0; at < len(table.Rows); at += k {
		group := table.Rows[at:min(at+k, len(table.Rows))]
		for place, x := range group {
			if place == fold {
				own.Rows = append(own.Rows, x)
			} else {
				others.Rows = append(others.Rows, x)
			}
		}
	}
	return others, own
}

// crossAsTold: from models worked out apart from the program.
func crossAsTold(table impl.Table, c impl.Conf, k int) int {
	off := 0
	for fold := range k {
		others, own := foldOf(table, k, fold)
		m := trainAsTold(others, c)
		off += stageOffsAsTold(m, own)[len(m.Trees)]
	}
	return off
}

// bareTable has a row for each label, without numbers and words.
func bareTable(labels ...int) impl.Table {
	var table impl.Table
	for _, label := range labels {
		table.Rows = append(table.Rows, impl.Sample{Label: label})
	}
	return table
}

// bareModel tells the same of each row: the first number without a tree, then the next one with a tree more each time.
func bareModel(told ...int) impl.Model {
	m := impl.Model{Base: told[0]}
	for k, number := range told[1:] {
		m.Trees = append(m.Trees, impl.Tree{Leaves: []int{number - told[k]}})
	}
	return m
}

// judgedTables: tables of the model's schema, without rows and with as many as there may be.
func judgedTables(m impl.Model, seed int) []impl.Table {
	list := []impl.Table{{S: m.S}}
	for _, rows := range []int{1, 2, 7, impl.MaxRows} {
		list = append(list, tableOf(m.S, rows), drawnTable(seed+rows, m.S, rows))
	}
	return list
}

func offIs(t *testing.T, labels []int, preds []int, want int, wantOk bool) {
	t.Helper()
	if got, ok := impl.Off(labels, preds); got != want || ok != wantOk {
		t.Errorf("Off(%.200v, %.200v) = %d, %v, not %d, %v", labels, preds, got, ok, want, wantOk)
	}
}

// TestOff: worked out by hand.
func TestOff(t *testing.T) {
	for _, c := range []struct {
		labels, preds []int
		want          int
	}{
		{nil, nil, 0}, {nil, []int{}, 0}, {[]int{}, []int{}, 0},
		{[]int{5}, []int{5}, 0}, {[]int{-5}, []int{-5}, 0}, {[]int{0}, []int{0}, 0}, {[]int{5, -7, top, -top}, []int{5, -7, top, -top}, 0},
		{[]int{5}, []int{3}, 2}, {[]int{-5}, []int{-3}, 2}, {[]int{5}, []int{-3}, 8}, {[]int{0}, []int{1}, 1}, {[]int{-1}, []int{0}, 1},
		// Apart in both directions: nothing makes up for anything.
		{[]int{1, 2}, []int{3, -2}, 6}, {[]int{10, -10}, []int{-10, 10}, 40}, {[]int{1, 2, 3}, []int{2, 1, 3}, 2}, {[]int{0, 0}, []int{top, -top}, 2 * top}, {[]int{top, -top}, []int{-top, top}, 4 * top},
		// At the bounds.
		{[]int{top}, []int{-top}, 2 * top}, {[]int{top}, []int{0}, top}, {[]int{-top}, []int{1}, top + 1}, {[]int{top - 1}, []int{top}, 1},
		// Beyond them, on one side.
		{[]int{top + 1}, []int{top}, 0}, {[]int{top + 1}, []int{top - 1}, 1}, {[]int{-top - 1}, []int{-top}, 0}, {[]int{-top - 1}, []int{-top + 1}, 1}, {[]int{2 * top}, []int{0}, top}, {[]int{-2 * top}, []int{0}, top}, {[]int{math.MaxInt}, []int{0}, top}, {[]int{math.MinInt}, []int{0}, top}, {[]int{math.MinInt}, []int{1}, top + 1}, {[]int{math.MaxInt}, []int{-1}, top + 1},
		// And on both.
		{[]int{top + 1}, []int{top + 7}, 0}, {[]int{-top - 1}, []int{-top - 7}, 0}, {[]int{top + 1}, []int{-top - 1}, 2 * top}, {[]int{math.MaxInt}, []int{math.MaxInt}, 0}, {[]int{math.MinInt}, []int{math.MinInt}, 0}, {[]int{math.MinInt}, []int{math.MaxInt}, 2 * top}, {[]int{math.MinInt, math.MaxInt, 4}, []int{math.MaxInt, math.MinInt, 7}, 4*top + 3},
	} {
		offIs(t, c.labels, c.preds, c.want, true)
		offIs(t, c.preds, c.labels, c.want, true)
	}
}

// TestOffOfManyNumbers: as many as there may be, and one more, as far apart as they may be.
func TestOffOfManyNumbers(t *testing.T) {
	for _, far := range []int{top, top + 1, math.MaxInt} {
		for n := range impl.MaxRows + 1 {
			offIs(t, slices.Repeat([]int{far}, n), slices.Repeat([]int{-far}, n), 2*top*n, true)
			offIs(t, slices.Repeat([]int{-far}, n), slices.Repeat([]int{far}, n), 2*top*n, true)
		}
	}
	offIs(t, slices.Repeat([]int{top}, impl.MaxRows), slices.Repeat([]int{-top}, impl.MaxRows), 80000000000, true)
	offIs(t, counted(impl.MaxRows), make([]int, impl.MaxRows), 780, true)
	for _, n := range []int{impl.MaxRows + 1, impl.MaxRows + 2, 1000} {
		offIs(t, counted(n), make([]int, n), 0, false)
		offIs(t, counted(n), counted(n), 0, false)
	}
}

func TestOffOfOtherLengths(t *testing.T) {
	lengths := []int{0, 1, 2, 3, impl.MaxRows - 1, impl.MaxRows, impl.MaxRows + 1, 100}
	for _, n := range lengths {
		for _, m := range lengths {
			if n != m {
				offIs(t, slices.Repeat([]int{5}, n), slices.Repeat([]int{-5}, m), 0, false)
				offIs(t, make([]int, n), make([]int, m), 0, false)
			}
		}
	}
}

func TestOffAsTold(t *testing.T) {
	for i, label := range edges() {
		for j, pred := range edges() {
			offIs(t, []int{label}, []int{pred}, offAsTold([]int{label}, []int{pred}), true)
			labels, preds := edges()[i%5:][:30], edges()[j%6:][:30]
			offIs(t, labels, preds, offAsTold(labels, preds), true)
		}
	}
	for seed := 1; seed <= 300; seed++ {
		n := seed % (impl.MaxRows + 1)
		labels, preds := drawnLabels(seed, n), drawnNumbers(seed+1, n, 3000*seed)
		want := offAsTold(labels, preds)
		offIs(t, labels, preds, want, true)
		offIs(t, reversed(labels), reversed(preds), want, true)
	}
}

func offOfIs(t *testing.T, m impl.Model, table impl.Table, want int) {
	t.Helper()
	if got, ok := impl.OffOf(m, table); got != want || !ok {
		t.Errorf("OffOf(%s, %.300v) = %d, %v, not %d", shortened(m), table, got, ok, want)
	}
}

// TestOffOf: worked out by hand.
func TestOffOf(t *testing.T) {
	words := impl.Model{
		S: impl.Schema{Cats: 1}, Prior: 50, Base: 5,
		Ctrs:  []impl.CtrTab{{Words: []string{"much", "even"}, Vals: []int{8, 7}}},
		Trees: []impl.Tree{{Splits: []impl.Split{{F: 0, B: 7}}, Leaves: []int{0, 100}}},
	}
	told := impl.Table{S: impl.Schema{Cats: 1}, Rows: []impl.Sample{{Cats: []string{"much"}, Label: 100}, {Cats: []string{"even"}, Label: -1}, {Cats: []string{"never"}, Label: 107}}}
	for _, c := range []struct {
		m     impl.Model
		table impl.Table
		want  int
	}{
		{impl.Model{}, impl.Table{}, 0}, {bareModel(100), bareTable(), 0}, {bareModel(100), bareTable(100), 0}, {bareModel(100), bareTable(100, 90, -5), 115}, {bareModel(0), bareTable(topLabel, -topLabel), 2 * topLabel},
		{bareModel(100, 90, -6), bareTable(100, 90, -5), 106 + 96 + 1},
		{bareModel(top), bareTable(slices.Repeat([]int{-topLabel}, impl.MaxRows)...), 40 * 1001000000}, {bareModel(0, -top), bareTable(slices.Repeat([]int{topLabel}, impl.MaxRows)...), 40 * 1001000000},
		{words, told, 5 + 6 + 2}, {words, impl.Table{S: words.S}, 0},
	} {
		offOfIs(t, c.m, c.table, c.want)
	}
}

// TestOffOfLearnedTables: a model, and the table that it was trained on.
func TestOffOfLearnedTables(t *testing.T) {
	table := impl.Table{S: impl.Schema{Nums: 1}, Rows: []impl.Sample{{Nums: []int{0}, Label: -1000}, {Nums: []int{2000}, Label: 1000}}}
	// Half of what is wrong each time; the fourth tree says -63 and 62.
	for trees, want := range []int{2000, 1000, 500, 250, 62 + 63} {
		m, _ := impl.Train(table, learnConf(trees, 1, 1000))
		offOfIs(t, m, table, want)
	}
	for i, table := range someTables() {
		c := goodConfs()[i%len(goodConfs())]
		m, _ := impl.Train(table, c)
		offOfIs(t, m, table, stageOffsAsTold(m, table)[c.Trees])
	}
}

func TestOffOfAsTold(t *testing.T) {
	for i, m := range someModels() {
		for _, table := range judgedTables(m, 1+i) {
			offOfIs(t, m, table, stageOffsAsTold(m, table)[len(m.Trees)])
			preds, _ := impl.PredictAll(m, table)
			off, _ := impl.Off(impl.Labels(table), preds)
			offOfIs(t, m, table, off)
		}
	}
}

// judgesNothing: OffOf, OffStages and BestCut ask for the same.
func judgesNothing(t *testing.T, m impl.Model, table impl.Table) {
	t.Helper()
	if off, ok := impl.OffOf(m, table); off != 0 || ok {
		t.Fatalf("OffOf(%s, %.200v) = %d, %v", shortened(m), table, off, ok)
	}
	if offs, ok := impl.OffStages(m, table); len(offs) != 0 || ok {
		t.Fatalf("OffStages(%s, %.200v) = %v, %v", shortened(m), table, offs, ok)
	}
	if k, ok := impl.BestCut(m, table); k != 0 || ok {
		t.Fatalf("BestCut(%s, %.200v) = %d, %v", shortened(m), table, k, ok)
	}
}

// TestNoModelsAreJudged: of tables that would be right for the schema, and of the empty one, which is right for nothing as well.
func TestNoModelsAreJudged(t *testing.T) {
	for _, m := range noModels() {
		judgesNothing(t, m, impl.Table{})
		judgesNothing(t, m, impl.Table{S: m.S})
		judgesNothing(t, m, bareTable(5, 6))
		if impl.SchemaOk(m.S) {
			judgesNothing(t, m, tableOf(m.S, 3))
		}
	}
}

// TestOtherTablesAreNotJudged: of another Schema, also without rows; and tables that are not TableOk.
func TestOtherTablesAreNotJudged(t *testing.T) {
	best := bareModel(5, 4, 3)
	for _, s := range allSchemas() {
		best.S, best.Ctrs = s, tabsFor(s, 1)
		for _, m := range []impl.Model{best, modelOf(s, 0, 4), modelOf(s, 3, 4)} {
			for _, other := range allSchemas() {
				for _, rows := range []int{0, 1, 5} {
					if other != s {
						judgesNothing(t, m, tableOf(other, rows))
					}
				}
			}
		}
	}
	for i, table := range noTables() {
		s := table.S
		if !impl.SchemaOk(s) {
			s = allSchemas()[i%12]
		}
		best.S, best.Ctrs = s, tabsFor(s, 1)
		judgesNothing(t, best, table)
		judgesNothing(t, modelOf(s, 2, i), table)
	}
}

// TestTablesWithoutRowsAreJudged: nothing is wrong, however many trees there are.
func TestTablesWithoutRowsAreJudged(t *testing.T) {
	for _, m := range someModels() {
		table := impl.Table{S: m.S}
		offOfIs(t, m, table, 0)
		offs, ok := impl.OffStages(m, table)
		k, is := impl.BestCut(m, table)
		if !slices.Equal(offs, make([]int, len(m.Trees)+1)) || !ok || k != 0 || !is {
			t.Fatalf("OffStages(%v) = %v, %v, BestCut %d, %v of no rows", m, offs, ok, k, is)
		}
	}
}

// TestOffStages: worked out by hand.
func TestOffStages(t *testing.T) {
	asks := impl.Model{S: impl.Schema{Nums: 1}, Base: 10, Trees: []impl.Tree{{Splits: []impl.Split{{F: 0, B: 3}}, Leaves: []int{-10, 10}}, {Leaves: []int{1}}}}
	rows := impl.Table{S: asks.S, Rows: []impl.Sample{{Nums: []int{3}, Label: 0}, {Nums: []int{4}, Label: 15}}}
	for _, c := range []struct {
		m     impl.Model
		table impl.Table
		want  []int
		best  int
	}{
		{impl.Model{}, impl.Table{}, []int{0}, 0}, {bareModel(7), bareTable(), []int{0}, 0}, {bareModel(7), bareTable(4, 9), []int{5}, 0}, {bareModel(7, 8, 9), bareTable(), []int{0, 0, 0}, 0},
		{bareModel(0, 5, -15, top-15), bareTable(10, -10), []int{20, 20, 30, 2*top - 30}, 0},
		{bareModel(0, 5, 10, 15), bareTable(10), []int{10, 5, 0, 5}, 2}, {bareModel(0, 5, 10), bareTable(10), []int{10, 5, 0}, 2}, {bareModel(0, -5, -10), bareTable(10), []int{10, 15, 20}, 0},
		// Those that are as little wrong: the first stands ahead of all, or behind some; the last tree is among them.
		{bareModel(9, 5, 11), bareTable(10), []int{1, 5, 1}, 0}, {bareModel(5, 9, 7, 11), bareTable(10), []int{5, 1, 3, 1}, 1}, {bareModel(5, 9, 9), bareTable(10), []int{5, 1, 1}, 1}, {bareModel(5, 5, 5), bareTable(10), []int{5, 5, 5}, 0}, {bareModel(5, 15, 4), bareTable(10), []int{5, 5, 6}, 0},
		{asks, rows, []int{15, 5, 7}, 1},
	} {
		offs, ok := impl.OffStages(c.m, c.table)
		k, is := impl.BestCut(c.m, c.table)
		if !slices.Equal(offs, c.want) || !ok || k != c.best || !is {
			t.Errorf("OffStages(%v, %v) = %v, %v, BestCut %d, %v, not %v, %d", c.m, c.table, offs, ok, k, is, c.want, c.best)
		}
	}
}

// stagesAndBest: each stage against OffOf of the cut, and against what was worked out apart.
func stagesAndBest(t *testing.T, m impl.Model, table impl.Table) {
	t.Helper()
	offs, ok := impl.OffStages(m, table)
	if want := stageOffsAsTold(m, table); !slices.Equal(offs, want) || !ok || len(offs) != len(m.Trees)+1 {
		t.Fatalf("OffStages(%v, %v) = %v, %v, not %v", m, table, offs, ok, want)
	}
	best, ok := impl.BestCut(m, table)
	if !ok || best < 0 || best > len(m.Trees) {
		t.Fatalf("BestCut(%v, %v) = %d, %v", m, table, best, ok)
	}
	for k, off := range offs {
		offOfIs(t, impl.CutTo(m, k), table, off)
		if off < offs[best] || k < best && off == offs[best] {
			t.Fatalf("BestCut(%v, %v) = %d, where %v", m, table, best, offs)
		}
	}
}

// TestNoCutIsBetter is promise 12's first part: no number of trees is less wrong than the best, and none ahead of it as little.
func TestNoCutIsBetter(t *testing.T) {
	for i, m := range someModels() {
		for _, table := range judgedTables(m, 1+i) {
			stagesAndBest(t, m, table)
		}
	}
	for i, s := range allSchemas() {
		for turn, rows := range []int{2, 9, impl.MaxRows} {
			learned := drawnTable(30+i+rows, s, rows)
			m, _ := impl.Train(learned, learnConf(mostTrees, 1+turn, 300*(1+turn)))
			stagesAndBest(t, m, learned)
			stagesAndBest(t, m, drawnTable(31+i+rows, s, rows))
		}
	}
}

// bestOf asks of a model that is wrong by the numbers handed in, above and below the label by turns.
func bestOf(t *testing.T, offs []int) {
	t.Helper()
	var told []int
	for k, off := range offs {
		told = append(told, 100+[]int{off, -off}[k%2])
	}
	m, want := bareModel(told...), slices.Index(offs, slices.Min(offs))
	got, ok := impl.OffStages(m, bareTable(100))
	if best, is := impl.BestCut(m, bareTable(100)); best != want || !is || !ok || !slices.Equal(got, offs) {
		t.Fatalf("BestCut = %d, %v, OffStages %v, %v, where %v is wrong", best, is, got, ok, offs)
	}
}

// TestBestCutOfAllStages: every way in which up to five stages can be one, two or three wrong.
func TestBestCutOfAllStages(t *testing.T) {
	lists := [][]int{nil}
	for at := 0; at < len(lists) && len(lists[at]) < 5; at++ {
		for off := 1; off <= 3; off++ {
			list := append(slices.Clone(lists[at]), off)
			bestOf(t, list)
			lists = append(lists, list)
		}
	}
}

// TestBestCutAtEachPlace: of as many trees as there may be, one stage alone, and each two of them, are the least wrong.
func TestBestCutAtEachPlace(t *testing.T) {
	for first := range mostTrees + 1 {
		for second := range mostTrees + 1 {
			offs := slices.Repeat([]int{9}, mostTrees+1)
			offs[first], offs[second] = 8, 8
			bestOf(t, offs)
		}
	}
}

func foldsAre(t *testing.T, n int, k int, want []int) {
	t.Helper()
	if got := impl.Folds(n, k); !slices.Equal(got, want) {
		t.Errorf("Folds(%d, %d) = %v, not %v", n, k, got, want)
	}
}

// TestFolds: worked out by hand.
func TestFolds(t *testing.T) {
	foldsAre(t, 0, 1, nil)
	foldsAre(t, 0, 10, nil)
	foldsAre(t, 1, 1, []int{0})
	foldsAre(t, 1, 2, []int{0})
	foldsAre(t, 1, 10, []int{0})
	foldsAre(t, 5, 1, []int{0, 0, 0, 0, 0})
	foldsAre(t, 5, 2, []int{0, 1, 0, 1, 0})
	foldsAre(t, 5, 5, []int{0, 1, 2, 3, 4})
	foldsAre(t, 5, 6, []int{0, 1, 2, 3, 4})
	foldsAre(t, 5, 10, []int{0, 1, 2, 3, 4})
	foldsAre(t, 10, 10, []int{0, 1, 2, 3, 4, 5, 6, 7, 8, 9})
	foldsAre(t, 11, 10, []int{0, 1, 2, 3, 4, 5, 6, 7, 8, 9, 0})
	foldsAre(t, 9, 4, []int{0, 1, 2, 3, 0, 1, 2, 3, 0})
	foldsAre(t, 40, 1, make([]int, 40))
	foldsAre(t, 40, 10, slices.Repeat(counted(10), 4))
	foldsAre(t, 40, 9, append(slices.Repeat(counted(9), 4), 0, 1, 2, 3))
}

// TestFoldsDifferByOneRow is promise 12's last part, of every number of rows and of folds.
func TestFoldsDifferByOneRow(t *testing.T) {
	for n := range impl.MaxRows + 1 {
		for k := 1; k <= mostFolds; k++ {
			folds, sizes := impl.Folds(n, k), make([]int, k)
			foldsAre(t, n, k, slices.Repeat(counted(k), n/k+1)[:n])
			for _, fold := range folds {
				if fold < 0 || fold >= k {
					t.Fatalf("Folds(%d, %d) = %v", n, k, folds)
				}
				sizes[fold]++
			}
			if len(folds) != n || slices.Max(sizes)-slices.Min(sizes) > 1 {
				t.Fatalf("Folds(%d, %d) has the sizes %v", n, k, sizes)
			}
		}
	}
}

func TestNoFolds(t *testing.T) {
	for _, n := range []int{math.MinInt, -40, -2, -1, impl.MaxRows + 1, impl.MaxRows + 2, 1000, math.MaxInt} {
		for _, k := range []int{math.MinInt, -1, 0, 1, 2, 5, mostFolds, mostFolds + 1, math.MaxInt} {
			foldsAre(t, n, k, nil)
		}
	}
	for _, k := range []int{math.MinInt, -10, -2, -1, 0, mostFolds + 1, mostFolds + 2, 40, math.MaxInt} {
		for _, n := range []int{0, 1, 5, 11, impl.MaxRows - 1, impl.MaxRows} {
			foldsAre(t, n, k, nil)
		}
	}
}

func crossIs(t *testing.T, table impl.Table, c impl.Conf, k int, want int) {
	t.Helper()
	if got, ok := impl.CrossOff(table, c, k); got != want || !ok {
		t.Fatalf("CrossOff(%v, %v, %d) = %d, %v, not %d", table, c, k, got, ok, want)
	}
}

// TestCrossOff: worked out by hand.
func TestCrossOff(t *testing.T) {
	bare := learnConf(0, 0, 1000)
	// Without a tree, a row is told what the others have in the mean.
	crossIs(t, bareTable(10, 20, 60), bare, 2, 10+40+15)
	crossIs(t, bareTable(10, 20, 60), bare, 3, 30+15+45)
	crossIs(t, bareTable(10, 20, 60), bare, 10, 30+15+45)
	crossIs(t, bareTable(-1, 0, 0), bare, 2, 1+1)
	crossIs(t, bareTable(-1, 0, 0), bare, 3, 1+1+1)
	crossIs(t, bareTable(topLabel, -topLabel), bare, 2, 4*topLabel)
	// Two rows of each kind, of which one is learned from.
	table := impl.Table{S: impl.Schema{Nums: 1}, Rows: []impl.Sample{{Nums: []int{0}, Label: -1000}, {Nums: []int{0}, Label: -1000}, {Nums: []int{2000}, Label: 1000}, {Nums: []int{2000}, Label: 1000}}}
	crossIs(t, table, learnConf(0, 1, 1000), 2, 4000)
	crossIs(t, table, learnConf(1, 1, 1000), 2, 2000)
	crossIs(t, table, learnConf(2, 1, 1000), 2, 1000)
	// The rows of a word are all in one fold, so that it is not known to the model that tells of them.
	words := impl.Table{S: impl.Schema{Cats: 1}, Rows: []impl.Sample{{Cats: []string{"a"}, Label: 1000}, {Cats: []string{"b"}, Label: 3000}, {Cats: []string{"a"}, Label: 1000}, {Cats: []string{"b"}, Label: 3000}}}
	crossIs(t, words, learnConf(mostTrees, deepest, 1000), 2, 4*2000)
}

// TestCrossOffOfFewRows: none, one, and fewer than folds.
func TestCrossOffOfFewRows(t *testing.T) {
	for i, s := range allSchemas() {
		for k := 2; k <= mostFolds; k++ {
			c := goodConfs()[(7*i+k)%len(goodConfs())]
			crossIs(t, impl.Table{S: s}, c, k, 0)
			for n := range goodLabels() {
				// A row alone is told by what was learned from none.
				x := rowOf(s, n)
				crossIs(t, impl.Table{S: s, Rows: []impl.Sample{x}}, c, k, max(x.Label, -x.Label))
			}
			for rows := 2; rows < k; rows++ {
				table := drawnTable(40+i+rows, s, rows)
				want := crossAsTold(table, c, k)
				crossIs(t, table, c, k, want)
				// Folds without rows add nothing.
				crossIs(t, table, c, rows, want)
			}
		}
	}
}

// TestCrossOffFoldByFold: against Train and OffOf of each fold.
func TestCrossOffFoldByFold(t *testing.T) {
	confs := goodConfs()
	for i, table := range someTables() {
		k, c := 2+i%9, confs[5*i%len(confs)]
		want := 0
		for fold := range k {
			others, own := foldOf(table, k, fold)
			m, _ := impl.Train(others, c)
			off, ok := impl.OffOf(m, own)
			if !ok {
				t.Fatalf("OffOf(%v, %v) is false", m, own)
			}
			want += off
		}
		crossIs(t, table, c, k, want)
	}
}

// TestCrossOffAsTold: against models and stages worked out apart from the program.
func TestCrossOffAsTold(t *testing.T) {
	for i, s := range allSchemas() {
		for turn, rows := range []int{3, 10, 11, impl.MaxRows} {
			table := drawnTable(50+i+rows, s, rows)
			for _, k := range []int{2, 3 + (i+turn)%7, mostFolds} {
				for _, c := range []impl.Conf{learnConf(3, 2, 700), goodConfs()[(3*i+turn)%len(goodConfs())]} {
					crossIs(t, table, c, k, crossAsTold(table, c, k))
				}
			}
		}
	}
}

func crossIsRefused(t *testing.T, table impl.Table, c impl.Conf, k int) {
	t.Helper()
	if got, ok := impl.CrossOff(table, c, k); got != 0 || ok {
		t.Fatalf("CrossOff(%.200v, %v, %d) = %d, %v", table, c, k, got, ok)
	}
}

func TestCrossOffOfOthers(t *testing.T) {
	for i, table := range noTables() {
		crossIsRefused(t, table, goodConfs()[i%len(goodConfs())], 2+i%9)
		crossIsRefused(t, table, learnConf(1, 1, 1000), mostFolds)
	}
	for i, s := range allSchemas() {
		for _, rows := range []int{0, 1, 5, impl.MaxRows} {
			for j, c := range noConfs() {
				crossIsRefused(t, tableOf(s, rows), c, 2+(i+j)%9)
			}
			for _, k := range []int{math.MinInt, -2, -1, 0, 1, mostFolds + 1, mostFolds + 2, impl.MaxRows, math.MaxInt} {
				crossIsRefused(t, tableOf(s, rows), learnConf(1, 1, 1000), k)
			}
		}
	}
}

// TestCrossOffOfOneFaultyRow: whichever fold it is in, and though the fold that is learned from be right.
func TestCrossOffOfOneFaultyRow(t *testing.T) {
	for k := 2; k <= mostFolds; k++ {
		for at := range 12 {
			table := drawnTable(60, impl.Schema{Nums: 1, Cats: 1}, 12)
			table.Rows[at].Label = topLabel + 1
			crossIsRefused(t, table, learnConf(1, 1, 1000), k)
		}
	}
	// Too many rows, of which each fold alone has few enough.
	crossIsRefused(t, tableOf(impl.Schema{Nums: 1}, impl.MaxRows+1), learnConf(1, 1, 1000), 2)
}

func tableAlike(seed int, s impl.Schema, rows int, label int) impl.Table {
	table := drawnTable(seed, s, rows)
	for row := range table.Rows {
		table.Rows[row].Label = label
	}
	return table
}

// toldAlike: of each row of the table the label, by however many of the trees, so that nothing is wrong.
func toldAlike(t *testing.T, m impl.Model, table impl.Table, label int) {
	t.Helper()
	rows := len(table.Rows)
	all, ok := impl.PredictAll(m, table)
	if !ok || !slices.Equal(all, slices.Repeat([]int{label}, rows)) {
		t.Fatalf("PredictAll(%v, %v) = %v, %v, not %d", m, table, all, ok, label)
	}
	for _, x := range table.Rows {
		if staged, ok := impl.Staged(m, x); !ok || !slices.Equal(staged, slices.Repeat([]int{label}, len(m.Trees)+1)) {
			t.Fatalf("Staged(%v, %v) = %v, %v, not %d", m, x, staged, ok, label)
		}
	}
	offs, ok := impl.OffStages(m, table)
	best, is := impl.BestCut(m, table)
	if !ok || !slices.Equal(offs, make([]int, len(m.Trees)+1)) || best != 0 || !is {
		t.Fatalf("OffStages(%v, %v) = %v, %v, BestCut %d, %v", m, table, offs, ok, best, is)
	}
	offOfIs(t, m, table, 0)
}

// TestAlikeIsToldOfEachRow is promise 9's last part, of models: tables with and without words, and rows that were not learned from.
func TestAlikeIsToldOfEachRow(t *testing.T) {
	confs := append([]impl.Conf{midConf(), learnConf(mostTrees, deepest, 1000), learnConf(0, 0, 1)}, goodConfs()...)
	for i, label := range goodLabels() {
		for j, s := range allSchemas() {
			for _, rows := range []int{1, 2, 3, 15, impl.MaxRows} {
				table := tableAlike(11+i+rows, s, rows, label)
				for turn := range 2 {
					c := confs[(5*i+7*j+3*turn+rows)%len(confs)]
					m, ok := impl.Train(table, c)
					if !ok || len(m.Trees) != c.Trees || m.Base != label {
						t.Fatalf("Train(%v, %v) = %v, %v", table, c, m, ok)
					}
					toldAlike(t, m, table, label)
					toldAlike(t, m, tableAlike(90+i, s, 9, label), label)
				}
			}
		}
	}
}

// TestAlikeIsToldOfEachFold: from two rows on, each fold is told by some of the others.
func TestAlikeIsToldOfEachFold(t *testing.T) {
	for i, label := range goodLabels() {
		for j, s := range allSchemas() {
			k, c := 2+(i+j)%9, goodConfs()[(11*i+j)%len(goodConfs())]
			for _, rows := range []int{2, 3, 12, impl.MaxRows} {
				crossIs(t, tableAlike(70+i+rows, s, rows, label), c, k, 0)
			}
		}
	}
}

// judgeAll calls whatever judges, and writes into all that is answered.
func judgeAll(m impl.Model, table impl.Table, c impl.Conf, k int) {
	impl.OffOf(m, table)
	impl.BestCut(m, table)
	impl.CrossOff(table, c, k)
	offs, _ := impl.OffStages(m, table)
	wipe(offs)
	wipe(impl.Folds(len(table.Rows), k))
}

// TestJudgingLeavesAllAsItWas: also the room behind each of the lists, and where what is answered is written into.
func TestJudgingLeavesAllAsItWas(t *testing.T) {
	models := append(someModels(), noModels()...)
	for trees := range mostTrees + 1 {
		models = append(models, modelOf(tableInRoom().S, trees, trees))
	}
	for i, m := range models {
		handed, table, c := modelInRoom(m), tableInRoom(), goodConfs()[i%len(goodConfs())]
		for range 2 {
			judgeAll(handed, table, c, i%12)
			judgeAll(handed, table, impl.Conf{}, 2)
			if !modelRoomKept(handed, m) || !sameRoom(table, tableInRoom()) {
				t.Fatalf("%s or %v was written into: %s", shortened(m), table, shortened(handed))
			}
		}
	}
}

func TestJudgedListsStayAsTheyWere(t *testing.T) {
	for n := range impl.MaxRows + 3 {
		labels, preds := drawnNumbers(1+n, n, 1000), drawnNumbers(2+n, n, 1000)
		handed, told := inRoom(labels), inRoom(preds)
		for range 2 {
			want, wantOk := impl.Off(labels, preds)
			if got, ok := impl.Off(handed, told); got != want || ok != wantOk || ok != (n <= impl.MaxRows) {
				t.Errorf("Off of %d numbers with room behind = %d, %v, not %d, %v", n, got, ok, want, wantOk)
			}
			impl.Off(handed, told[:n/2])
			if !roomKept(handed, labels) || !roomKept(told, preds) {
				t.Fatalf("%v or %v was written into", handed, told)
			}
		}
	}
	// Both lists may be one.
	one := []int{1, 2, top + 1}
	offIs(t, one, one, 0, true)
	if !slices.Equal(one, []int{1, 2, top + 1}) {
		t.Error(one)
	}
}

// TestJudgingReadsNothingBehindTheEnd: the room behind must not make up for what is too little, nor be too much.
func TestJudgingReadsNothingBehindTheEnd(t *testing.T) {
	table := tableInRoom()
	few := copyTable(table)
	for trees := range mostTrees + 1 {
		m := modelOf(table.S, trees, trees)
		handed := modelInRoom(m)
		want := stageOffsAsTold(m, few)
		offs, ok := impl.OffStages(handed, table)
		best, is := impl.BestCut(handed, table)
		if !slices.Equal(offs, want) || !ok || best != slices.Index(want, slices.Min(want)) || !is {
			t.Fatalf("OffStages(%v, %v) with room behind = %v, %v, BestCut %d, %v, not %v", m, few, offs, ok, best, is, want)
		}
		offOfIs(t, handed, table, want[trees])
		c := learnConf(trees, 2, 600)
		crossIs(t, table, c, 2, crossAsTold(few, c, 2))
		crossIs(t, table, c, mostFolds, crossAsTold(few, c, mostFolds))
	}
	list := []int{1, 2, 3}
	offIs(t, list[:2], list, 0, false)
	offIs(t, list, list[:2], 0, false)
}

// TestWhatIsJudgedIsNew: wiping what was handed in, or another answer, changes no answer.
func TestWhatIsJudgedIsNew(t *testing.T) {
	for i, given := range someModels() {
		m, table := copyModel(given), drawnTable(80+i, given.S, 9)
		offs, _ := impl.OffStages(m, table)
		again, _ := impl.OffStages(m, table)
		wipe(again)
		wipeTabs(m.Ctrs)
		wipeTrees(m.Trees)
		wipeTable(table)
		if want := stageOffsAsTold(given, drawnTable(80+i, given.S, 9)); !slices.Equal(offs, want) {
			t.Fatalf("what %v answered was written through it: %v, not %v", given, offs, want)
		}
	}
	for n := range impl.MaxRows + 1 {
		folds := impl.Folds(n, 3)
		wipe(impl.Folds(n, 3))
		if !slices.Equal(folds, slices.Repeat([]int{0, 1, 2}, n/3+1)[:n]) {
			t.Errorf("Folds(%d, 3) was written through another answer: %v", n, folds)
		}
		wipe(folds)
		foldsAre(t, n, 3, slices.Repeat([]int{0, 1, 2}, n/3+1)[:n])
	}
}

// TestJudgeAgain: the same answers however often they are asked, whatever was asked between, and by several at once.
func TestJudgeAgain(t *testing.T) {
	m, c := modelOf(impl.Schema{Nums: 3, Cats: 2}, mostTrees, 6), learnConf(2, 2, 700)
	table := drawnTable(21, m.S, impl.MaxRows)
	want, cross := stageOffsAsTold(m, table), crossAsTold(table, c, 3)
	var askers sync.WaitGroup
	for n := range 8 {
		askers.Go(func() {
			other := modelOf(impl.Schema{Nums: n % 4, Cats: n % 3}, n, n)
			for turn := range 5 {
				judgeAll(other, tableOf(other.S, turn), c, 1+turn)
				offs, ok := impl.OffStages(m, table)
				off, is := impl.CrossOff(table, c, 3)
				if !slices.Equal(offs, want) || !ok || off != cross || !is {
					t.Errorf("OffStages(%v, %v) = %v, %v, CrossOff %d, %v, not %v, %d", m, table, offs, ok, off, is, want, cross)
					return
				}
			}
		})
	}
	askers.Wait()
}

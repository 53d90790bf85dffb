package tests

import (
	"math"
	"regexp"
	"slices"
	"strconv"
	"strings"
	"testing"
	"unsafe"

	"loop.example/g00566/impl"
)

const topLabel = impl.MaxLabel

var wordForm = regexp.MustCompile(`\A[a-z0-9_]{1,12}\z`)

func allSchemas() []impl.Schema {
	var list []impl.Schema
	for nums := 0; nums <= impl.MaxNums; nums++ {
		for cats := 0; cats <= impl.MaxCats; cats++ {
			list = append(list, impl.Schema{Nums: nums, Cats: cats})
		}
	}
	return list
}

func noSchemas() []impl.Schema {
	var list []impl.Schema
	for _, n := range []int{-1, -2, math.MinInt, impl.MaxNums + 1, impl.MaxNums + 2, 100, math.MaxInt} {
		list = append(list, impl.Schema{Nums: n}, impl.Schema{Nums: n, Cats: impl.MaxCats}, impl.Schema{Nums: n, Cats: n})
	}
	for _, n := range []int{-1, -2, math.MinInt, impl.MaxCats + 1, impl.MaxCats + 2, 100, math.MaxInt} {
		list = append(list, impl.Schema{Cats: n}, impl.Schema{Nums: impl.MaxNums, Cats: n})
	}
	// A sum of both that would be right, or that wraps round.
	return append(list, impl.Schema{Nums: -1, Cats: 1}, impl.Schema{Nums: 4, Cats: -1}, impl.Schema{Nums: math.MaxInt, Cats: math.MaxInt})
}

func goodWords() []string {
	return []string{"a", "z", "m", "0", "9", "5", "_", "red", "a_1", "__", "007", "zzzzzzzzzzzz", "a23456789_12", "____________", "000000000000"}
}

func noWords() []string {
	return []string{
		"", "aaaaaaaaaaaaa", strings.Repeat("z", 14), strings.Repeat("a", 6000), "Red", "rEd", "reD", "A", "Z", "a b", " a", "a ", "a-b", "a.b", "+", "a+b",
		"`", "{", "/", ":", "^", "@", "[", "a\x00", "\x00", "a\r", "\t", "a\tb", "\u00e9", "caf\u00e9", "\u0661", "\uff41", "\xff", "a\x80",
	}
}

func goodNumbers() []int {
	return []int{0, 1, -1, 7, -7, 999, -999, 1000, -1000, 1001, -1050, 123456789, topLabel, topLabel + 1, -topLabel - 1, top - 1, -top + 1, top, -top}
}

func noNumbers() []int {
	return []int{top + 1, -top - 1, 2 * top, -2 * top, top * 1000, math.MinInt, math.MinInt + 1, math.MaxInt}
}

func goodLabels() []int {
	return []int{0, 1, -1, 999, -2000, 1000, 999000, -999000, topLabel - 1, -topLabel + 1, topLabel, -topLabel}
}

func noLabels() []int {
	return []int{topLabel + 1, -topLabel - 1, topLabel + 1000, -topLabel - 1000, top, -top, math.MinInt, math.MinInt + 1, math.MaxInt}
}

// rowOf makes a right row: which one, n tells.
func rowOf(s impl.Schema, n int) impl.Sample {
	x := impl.Sample{Label: goodLabels()[n%len(goodLabels())]}
	for i := range s.Nums {
		x.Nums = append(x.Nums, goodNumbers()[(n+5*i)%len(goodNumbers())])
	}
	for i := range s.Cats {
		x.Cats = append(x.Cats, goodWords()[(n+4*i)%len(goodWords())])
	}
	return x
}

func tableOf(s impl.Schema, rows int) impl.Table {
	t := impl.Table{S: s}
	for n := range rows {
		t.Rows = append(t.Rows, rowOf(s, n+rows))
	}
	return t
}

// widest: the row with the longest text of all.
func widest() impl.Sample {
	return impl.Sample{Nums: []int{-top, -top, -top}, Cats: []string{"a23456789_12", "zzzzzzzzzzzz"}, Label: -topLabel}
}

func sameRow(a impl.Sample, b impl.Sample) bool {
	return slices.Equal(a.Nums, b.Nums) && slices.Equal(a.Cats, b.Cats) && a.Label == b.Label
}

func sameTable(a impl.Table, b impl.Table) bool {
	return a.S == b.S && slices.EqualFunc(a.Rows, b.Rows, sameRow)
}

// sampleFaults: rows that are no longer SampleOk by a single change of a right one.
func sampleFaults(s impl.Schema) []impl.Sample {
	var list []impl.Sample
	changed := func(change func(x *impl.Sample)) {
		x := rowOf(s, 3)
		change(&x)
		list = append(list, x)
	}
	changed(func(x *impl.Sample) { x.Nums = append(x.Nums, 0) })
	changed(func(x *impl.Sample) { x.Cats = append(x.Cats, "a") })
	for i := range s.Nums {
		changed(func(x *impl.Sample) { x.Nums = slices.Delete(x.Nums, i, i+1) })
		for _, n := range noNumbers() {
			changed(func(x *impl.Sample) { x.Nums[i] = n })
		}
	}
	for i := range s.Cats {
		changed(func(x *impl.Sample) { x.Cats = slices.Delete(x.Cats, i, i+1) })
		for _, w := range append(noWords(), "a,b", "a\n") {
			changed(func(x *impl.Sample) { x.Cats[i] = w })
		}
	}
	for _, n := range noLabels() {
		changed(func(x *impl.Sample) { x.Label = n })
	}
	return list
}

// noTables: tables that are not TableOk.
func noTables() []impl.Table {
	var list []impl.Table
	for _, s := range noSchemas() {
		list = append(list, impl.Table{S: s}, impl.Table{S: s, Rows: []impl.Sample{{}}}, impl.Table{S: s, Rows: []impl.Sample{rowOf(impl.Schema{Nums: 3, Cats: 2}, 1)}})
	}
	for _, s := range allSchemas() {
		list = append(list, tableOf(s, impl.MaxRows+1), tableOf(s, impl.MaxRows+2), tableOf(s, 1000))
		for _, x := range sampleFaults(s) {
			for _, at := range []int{0, 2, 4} {
				t := tableOf(s, 5)
				t.Rows[at] = x
				list = append(list, t)
			}
		}
		other := tableOf(s, 3)
		other.S = impl.Schema{Nums: impl.MaxNums - s.Nums, Cats: s.Cats}
		list = append(list, other)
	}
	return list
}

func TestTableConstants(t *testing.T) {
	if impl.MaxRows != 40 || impl.MaxNums != 3 || impl.MaxCats != 2 || impl.MaxWord != 12 || impl.MaxLabel != 1000000 || impl.MaxCsv != 6000 {
		t.Error("limits")
	}
	codes := []int{impl.TbOK, impl.TbLong, impl.TbForm, impl.TbCount, impl.TbNum, impl.TbWord, impl.TbLabel, impl.TbMany, impl.TbSchema}
	if !slices.Equal(codes, counted(9)) {
		t.Error(codes)
	}
}

func TestSchemaOk(t *testing.T) {
	for _, s := range allSchemas() {
		if !impl.SchemaOk(s) {
			t.Errorf("SchemaOk(%v) is false", s)
		}
	}
	for _, s := range noSchemas() {
		if impl.SchemaOk(s) {
			t.Errorf("SchemaOk(%v) is true", s)
		}
	}
}

func TestSampleOk(t *testing.T) {
	for _, s := range allSchemas() {
		for n := range 60 {
			if x := rowOf(s, n); !impl.SampleOk(s, x) {
				t.Errorf("SampleOk(%v, %v) is false", s, x)
			}
		}
		for _, x := range sampleFaults(s) {
			if impl.SampleOk(s, x) {
				t.Fatalf("SampleOk(%v, %.40v) is true", s, x)
			}
		}
		for _, other := range allSchemas() {
			if impl.SampleOk(s, rowOf(other, 2)) != (s == other) {
				t.Errorf("SampleOk(%v, ..) of a row of %v", s, other)
			}
		}
	}
	for _, s := range noSchemas() {
		for _, fits := range append(allSchemas(), impl.Schema{Nums: 4}, impl.Schema{Cats: 3}, impl.Schema{Nums: 4, Cats: 2}, impl.Schema{Nums: 3, Cats: 3}) {
			if impl.SampleOk(s, rowOf(fits, 0)) {
				t.Errorf("SampleOk(%v, ..) is true", s)
			}
		}
	}
	if !impl.SampleOk(impl.Schema{}, impl.Sample{}) || !impl.SampleOk(impl.Schema{}, impl.Sample{Nums: []int{}, Cats: []string{}}) || !impl.SampleOk(impl.Schema{Nums: 3, Cats: 2}, widest()) {
		t.Error("the least row, or the widest one, is not SampleOk")
	}
}

// TestWordBytes puts each byte at the beginning, in the middle and at the end of a word, or as all of it.
func TestWordBytes(t *testing.T) {
	s := impl.Schema{Cats: 1}
	for b := range 256 {
		one := string([]byte{byte(b)})
		for _, w := range []string{one, one + "ab", "a" + one + "b", "ab" + one, "abcdefghijk" + one} {
			want := wordForm.MatchString(w)
			if got := impl.SampleOk(s, impl.Sample{Cats: []string{w}}); got != want {
				t.Errorf("SampleOk with the word %q is %v", w, got)
			}
			_, line, code := impl.TableRead(s, w+",0.000\n")
			wantLine, wantCode := 1, impl.TbWord
			if want {
				wantLine, wantCode = 0, impl.TbOK
			} else if b == '\n' || b == ',' {
				wantCode = impl.TbCount
			}
			if line != wantLine || code != wantCode {
				t.Errorf("TableRead with the word %q: %d, %d", w, line, code)
			}
		}
	}
}

func TestTableOk(t *testing.T) {
	for _, s := range allSchemas() {
		for _, rows := range []int{0, 1, 2, impl.MaxRows - 1, impl.MaxRows} {
			if !impl.TableOk(tableOf(s, rows)) {
				t.Errorf("TableOk of %d rows of %v is false", rows, s)
			}
		}
		if impl.TableOk(tableOf(s, impl.MaxRows+1)) {
			t.Errorf("TableOk of too many rows of %v is true", s)
		}
	}
	for _, no := range noTables() {
		if impl.TableOk(no) {
			t.Fatalf("TableOk(%.40v) is true", no)
		}
	}
	if !impl.TableOk(impl.Table{}) || !impl.TableOk(impl.Table{Rows: []impl.Sample{}}) || !impl.TableOk(impl.Table{Rows: []impl.Sample{{}}}) {
		t.Error("TableOk of a table without columns is false")
	}
}

func TestTableText(t *testing.T) {
	for want, table := range map[string]impl.Table{
		"":                                     {S: impl.Schema{Nums: 3, Cats: 2}},
		"0.000\n":                              {Rows: []impl.Sample{{}}},
		"1000.000\n-0.001\n":                   {Rows: []impl.Sample{{Label: topLabel}, {Label: -1}}},
		"1.500,red,-2.000\n":                   {S: impl.Schema{Nums: 1, Cats: 1}, Rows: []impl.Sample{{Nums: []int{1500}, Cats: []string{"red"}, Label: -2000}}},
		"a,b_2,0.007\n":                        {S: impl.Schema{Cats: 2}, Rows: []impl.Sample{{Cats: []string{"a", "b_2"}, Label: 7}}},
		"-1.050,0.000,1000000.000,-1000.000\n": {S: impl.Schema{Nums: 3}, Rows: []impl.Sample{{Nums: []int{-1050, 0, top}, Label: -topLabel}}},
		"-1000000.000,-1000000.000,-1000000.000,a23456789_12,zzzzzzzzzzzz,-1000.000\n": {S: impl.Schema{Nums: 3, Cats: 2}, Rows: []impl.Sample{widest()}},
	} {
		if got := impl.TableText(table); got != want {
			t.Errorf("TableText(%v) = %q, not %q", table, got, want)
		}
	}
	for _, no := range noTables() {
		if got := impl.TableText(no); got != "" {
			t.Fatalf("TableText(%.40v) = %q", no, got)
		}
	}
}

// TestTablesAreReadBack is promise 3.
func TestTablesAreReadBack(t *testing.T) {
	tables := []impl.Table{{S: impl.Schema{Nums: 3, Cats: 2}, Rows: slices.Repeat([]impl.Sample{widest()}, impl.MaxRows)}}
	for _, s := range allSchemas() {
		for rows := 0; rows <= impl.MaxRows; rows++ {
			tables = append(tables, tableOf(s, rows))
		}
	}
	seed := 1
	drawn := func(n int) int {
		var x int
		x, seed = impl.Below(seed, n)
		return x
	}
	for range 300 {
		table := impl.Table{S: allSchemas()[drawn(len(allSchemas()))]}
		for range drawn(impl.MaxRows + 1) {
			x := impl.Sample{Label: drawn(topLabel) - drawn(topLabel)}
			for range table.S.Nums {
				x.Nums = append(x.Nums, drawn(1000000)*drawn(1000)-drawn(1000000)*drawn(1000))
			}
			for range table.S.Cats {
				word := make([]byte, 1+drawn(impl.MaxWord))
				for i := range word {
					word[i] = "abcdefghijklmnopqrstuvwxyz0123456789_"[drawn(37)]
				}
				x.Cats = append(x.Cats, string(word))
			}
			table.Rows = append(table.Rows, x)
		}
		tables = append(tables, table)
	}
	for _, table := range tables {
		text := impl.TableText(table)
		got, line, code := impl.TableRead(table.S, text)
		if !sameTable(got, table) || line != 0 || code != impl.TbOK || len(text) > impl.MaxCsv {
			t.Fatalf("%v is read from %q as %v, %d, %d", table, text, got, line, code)
		}
		if len(table.Rows) > 0 && text == "" || strings.Count(text, "\n") != len(table.Rows) {
			t.Fatalf("TableText(%v) = %q", table, text)
		}
	}
}

func TestTableReadOfEdges(t *testing.T) {
	full := impl.Schema{Nums: impl.MaxNums, Cats: impl.MaxCats}
	for text, want := range map[string]impl.Table{
		"": {S: full},
		"0.000,-1000000.000,1000000.000,a,zzzzzzzzzzzz,1000.000\n": {S: full, Rows: []impl.Sample{{Nums: []int{0, -top, top}, Cats: []string{"a", "zzzzzzzzzzzz"}, Label: topLabel}}},
		"-1000.000\n":                  {Rows: []impl.Sample{{Label: -topLabel}}},
		"1000.000\n999.999\n":          {Rows: []impl.Sample{{Label: topLabel}, {Label: topLabel - 1}}},
		"999999.999,-999.999\n":        {S: impl.Schema{Nums: 1}, Rows: []impl.Sample{{Nums: []int{top - 1}, Label: 1 - topLabel}}},
		"_,0,0.001\n":                  {S: impl.Schema{Cats: 2}, Rows: []impl.Sample{{Cats: []string{"_", "0"}, Label: 1}}},
		"x,-0.001\nx,0.000\nx,0.000\n": {S: impl.Schema{Cats: 1}, Rows: []impl.Sample{{Cats: []string{"x"}, Label: -1}, {Cats: []string{"x"}}, {Cats: []string{"x"}}}},
	} {
		if got, line, code := impl.TableRead(want.S, text); !sameTable(got, want) || line != 0 || code != impl.TbOK {
			t.Errorf("TableRead(%v, %q) = %v, %d, %d", want.S, text, got, line, code)
		}
	}
	for _, s := range allSchemas() {
		if got, line, code := impl.TableRead(s, ""); got.S != s || len(got.Rows) != 0 || line != 0 || code != impl.TbOK {
			t.Errorf("TableRead(%v, empty) = %v, %d, %d", s, got, line, code)
		}
	}
}

// readFault holds a fault against what is asked, and looks that nothing of a table is answered with it.
func readFault(t *testing.T, s impl.Schema, text string, wantLine int, wantCode int) {
	t.Helper()
	got, line, code := impl.TableRead(s, text)
	if line != wantLine || code != wantCode {
		t.Errorf("TableRead(%v, %.120q): line %d, code %d, not %d, %d", s, text, line, code, wantLine, wantCode)
	}
	if got.S != (impl.Schema{}) || len(got.Rows) != 0 {
		t.Errorf("TableRead(%v, %.120q) answers %v with a fault", s, text, got)
	}
}

func TestTableReadOfSchemaAndLength(t *testing.T) {
	right := impl.Schema{}
	for _, s := range noSchemas() {
		for _, text := range []string{"", "0.000\n", "\n", "x", "1.000,a,1.000\n", strings.Repeat("0.000\n", 1000), strings.Repeat("a", impl.MaxCsv+1), strings.Repeat("0.000\n", 1001)} {
			readFault(t, s, text, 0, impl.TbSchema)
		}
	}
	for _, s := range allSchemas() {
		readFault(t, s, strings.Repeat("a", impl.MaxCsv), 1, impl.TbForm)
		for _, n := range []int{impl.MaxCsv + 1, impl.MaxCsv + 2, 100000} {
			readFault(t, s, strings.Repeat("a", n), 0, impl.TbLong)
			readFault(t, s, strings.Repeat("\n", n), 0, impl.TbLong)
			readFault(t, s, strings.Repeat(",", n), 0, impl.TbLong)
		}
	}
	readFault(t, right, strings.Repeat("0.000\n", 1000), 41, impl.TbMany)
	readFault(t, right, strings.Repeat("0.000\n", 1000)+"\n", 0, impl.TbLong)
	readFault(t, right, strings.Repeat("0.000\n", 1000)+"0", 0, impl.TbLong)
	readFault(t, right, strings.Repeat("\n", impl.MaxCsv), 1, impl.TbLabel)
	readFault(t, right, "0.000\n"+strings.Repeat(",", impl.MaxCsv-7)+"\n", 2, impl.TbCount)
	readFault(t, right, strings.Repeat("0.000\n", 40)+strings.Repeat("0", impl.MaxCsv-241)+"\n", 41, impl.TbLabel)
}

func TestTableReadFaults(t *testing.T) {
	one, full, words, nums, bare := impl.Schema{Nums: 1, Cats: 1}, impl.Schema{Nums: 3, Cats: 2}, impl.Schema{Cats: 2}, impl.Schema{Nums: 2}, impl.Schema{}
	for _, c := range []struct {
		s          impl.Schema
		text       string
		line, code int
	}{
		// A line that is not ended, whatever it holds.
		{one, "1.500,red,1.000", 1, impl.TbForm}, {one, "x", 1, impl.TbForm}, {one, ",", 1, impl.TbForm}, {one, "1.5,Red,x", 1, impl.TbForm}, {one, "\r", 1, impl.TbForm},
		{one, "1.500,red,1.000\n1.500,red,1.000", 2, impl.TbForm}, {one, "1.500,red,1.000\n ", 2, impl.TbForm}, {one, "1.500,red,1.000\n,,,", 2, impl.TbForm},
		{bare, "0.000", 1, impl.TbForm}, {bare, "0.000\n0", 2, impl.TbForm}, {bare, "\x00", 1, impl.TbForm},
		// Too few parts and too many, with other faults beside.
		{one, "1.500,red\n", 1, impl.TbCount}, {one, "1.500,red,1.000,\n", 1, impl.TbCount}, {one, ",1.500,red,1.000\n", 1, impl.TbCount}, {one, "1.500,red,1.000,1.000\n", 1, impl.TbCount},
		{one, "1.5,Red\n", 1, impl.TbCount}, {one, "x,X,x,x\n", 1, impl.TbCount}, {one, ",,,\n", 1, impl.TbCount}, {one, "1.500;red;1.000\n", 1, impl.TbCount}, {one, "x\n", 1, impl.TbCount},
		{full, "1.000,1.000,a,b,1.000\n", 1, impl.TbCount}, {full, "1.000,1.000,1.000,a,1.000\n", 1, impl.TbCount}, {full, "1.000,1.000,1.000,a,b\n", 1, impl.TbCount}, {full, "1.000,1.000,1.000,a,b,c,1.000\n", 1, impl.TbCount},
		{bare, ",\n", 1, impl.TbCount}, {bare, "1.000,1.000\n", 1, impl.TbCount}, {bare, "x,1001.000\n", 1, impl.TbCount},
		// An empty line is one empty part.
		{one, "\n", 1, impl.TbCount}, {full, "\n", 1, impl.TbCount}, {words, "\n", 1, impl.TbCount}, {nums, "\n", 1, impl.TbCount}, {bare, "\n", 1, impl.TbLabel},
		{one, "1.500,red,1.000\n\n", 2, impl.TbCount}, {bare, "0.000\n\n", 2, impl.TbLabel}, {bare, "0.000\n\n0.000\n", 2, impl.TbLabel}, {bare, "\n\n", 1, impl.TbLabel},
		// Numbers.
		{one, "1.5,red,1.000\n", 1, impl.TbNum}, {one, ",red,1.000\n", 1, impl.TbNum}, {one, " 1.500,red,1.000\n", 1, impl.TbNum}, {one, "-0.000,red,1.000\n", 1, impl.TbNum}, {one, "1000000.001,red,1.000\n", 1, impl.TbNum},
		{one, "-1000000.001,red,1.000\n", 1, impl.TbNum}, {one, "01.500,red,1.000\n", 1, impl.TbNum}, {one, "red,1.500,1.000\n", 1, impl.TbNum}, {one, "1500,red,1.000\n", 1, impl.TbNum}, {one, "+1.500,red,1.000\n", 1, impl.TbNum},
		{full, "x,1.000,1.000,a,b,1.000\n", 1, impl.TbNum}, {full, "1.000,x,1.000,a,b,1.000\n", 1, impl.TbNum}, {full, "1.000,1.000,x,a,b,1.000\n", 1, impl.TbNum}, {full, "1.000,1.000,a,a,b,1.000\n", 1, impl.TbNum},
		// Words.
		{one, "1.500,Red,1.000\n", 1, impl.TbWord}, {one, "1.500,,1.000\n", 1, impl.TbWord}, {one, "1.500, red,1.000\n", 1, impl.TbWord}, {one, "1.500,1.500,1.000\n", 1, impl.TbWord}, {one, "1.500,abcdefghijklm,1.000\n", 1, impl.TbWord},
		{full, "1.000,1.000,1.000,-,b,1.000\n", 1, impl.TbWord}, {full, "1.000,1.000,1.000,a,-,1.000\n", 1, impl.TbWord}, {words, ",,\n", 1, impl.TbWord}, {words, "a,,1.000\n", 1, impl.TbWord}, {words, ",a,1.000\n", 1, impl.TbWord},
		// Labels.
		{one, "1.500,red,1000.001\n", 1, impl.TbLabel}, {one, "1.500,red,-1000.001\n", 1, impl.TbLabel}, {one, "1.500,red,1001.000\n", 1, impl.TbLabel}, {one, "1.500,red,-1001.000\n", 1, impl.TbLabel}, {one, "1.500,red,\n", 1, impl.TbLabel},
		{one, "1.500,red,1\n", 1, impl.TbLabel}, {one, "1.500,red,red\n", 1, impl.TbLabel}, {one, "1.500,red,1.000\r\n", 1, impl.TbLabel}, {one, "1.500,red,1.000 \n", 1, impl.TbLabel}, {one, "1.500,red,1000000.000\n", 1, impl.TbLabel},
		{one, "1.500,red,-0.000\n", 1, impl.TbLabel}, {one, "1.500,red,1000000.001\n", 1, impl.TbLabel}, {bare, "x\n", 1, impl.TbLabel}, {bare, "1000.001\n", 1, impl.TbLabel}, {bare, "-1000.001\n", 1, impl.TbLabel},
		// The first wrong part from left to right.
		{one, "x,X,x\n", 1, impl.TbNum}, {one, "x,red,x\n", 1, impl.TbNum}, {one, "1.500,X,x\n", 1, impl.TbWord}, {one, "1.500,X,1001.000\n", 1, impl.TbWord}, {one, "x,X,1.000\n", 1, impl.TbNum},
		{full, "1.000,1.000,x,X,Y,x\n", 1, impl.TbNum}, {full, "1.000,1.000,1.000,a,Y,x\n", 1, impl.TbWord}, {full, ",,,,,\n", 1, impl.TbNum}, {nums, ",,\n", 1, impl.TbNum}, {nums, "1.000,x,x\n", 1, impl.TbNum},
		// An earlier line's fault ahead of a later one's.
		{one, "1.500,red,x\n1.500,red\n", 1, impl.TbLabel}, {one, "1.500,red,x\nx,red,1.000\n", 1, impl.TbLabel}, {one, "1.500,red,x\n1.500", 1, impl.TbLabel}, {one, "1.500,red\n1.500", 1, impl.TbCount}, {one, "1.500,X,1.000\nx,red,1.000\n", 1, impl.TbWord},
		{one, "1.500,red,1.000\n1.500,red,x\n1.500\n", 2, impl.TbLabel}, {one, "1.500,red,1.000\n1.500,red,1.000\nx,red,1.000\n", 3, impl.TbNum}, {one, "\n1.500,red,1.000\n", 1, impl.TbCount},
	} {
		readFault(t, c.s, c.text, c.line, c.code)
	}
}

// TestTableReadOfTooManyRows: a fault of the line's own comes ahead of TbMany, TbMany ahead of the faults behind it.
func TestTableReadOfTooManyRows(t *testing.T) {
	s := impl.Schema{Nums: 1, Cats: 1}
	row := "1.500,red,1.000\n"
	most := strings.Repeat(row, impl.MaxRows)
	if got, line, code := impl.TableRead(s, most); len(got.Rows) != impl.MaxRows || line != 0 || code != impl.TbOK {
		t.Error(got, line, code)
	}
	for behind, want := range map[string]int{
		row: impl.TbMany, row + row: impl.TbMany, row + "x": impl.TbMany, row + "\n": impl.TbMany, row + "x,red,1.000\n": impl.TbMany,
		"1.500,red,1.000": impl.TbForm, "x": impl.TbForm, "\n": impl.TbCount, "1.500,red\n": impl.TbCount, "x,red,1.000\n": impl.TbNum,
		"1.500,X,1.000\n": impl.TbWord, "1.500,red,x\n": impl.TbLabel, "1.500,red,1001.000\n" + row: impl.TbLabel,
	} {
		readFault(t, s, most+behind, impl.MaxRows+1, want)
	}
	last := strings.Repeat(row, impl.MaxRows-1)
	readFault(t, s, last+"x\n"+row+row, impl.MaxRows, impl.TbCount)
	readFault(t, s, last+"1.500,red,x\n"+row, impl.MaxRows, impl.TbLabel)
	readFault(t, s, "x\n"+most+row, 1, impl.TbCount)
}

// readAsTold reads by the forms of the parts alone; it answers the line and the code.
func readAsTold(s impl.Schema, text string) (int, int) {
	if len(text) > impl.MaxCsv {
		return 0, impl.TbLong
	}
	lines := strings.SplitAfter(text, "\n")
	for i, line := range lines {
		if line == "" && i == len(lines)-1 {
			break
		}
		if code := faultAsTold(s, line); code != impl.TbOK {
			return i + 1, code
		}
		if i >= impl.MaxRows {
			return i + 1, impl.TbMany
		}
	}
	return 0, impl.TbOK
}

func faultAsTold(s impl.Schema, line string) int {
	inside, ended := strings.CutSuffix(line, "\n")
	if !ended {
		return impl.TbForm
	}
	if strings.Count(inside, ",") != s.Nums+s.Cats {
		return impl.TbCount
	}
	for i, part := range strings.Split(inside, ",") {
		switch {
		case i < s.Nums:
			if !isFixText(part) {
				return impl.TbNum
			}
		case i < s.Nums+s.Cats:
			if !wordForm.MatchString(part) {
				return impl.TbWord
			}
		default:
			label, _ := strconv.ParseFloat(part, 64)
			if !isFixText(part) || math.Abs(label) > topLabel/impl.Scale {
				return impl.TbLabel
			}
		}
	}
	return impl.TbOK
}

func TestTableReadOfTurnedTexts(t *testing.T) {
	check := func(s impl.Schema, text string) {
		got, line, code := impl.TableRead(s, text)
		wantLine, wantCode := readAsTold(s, text)
		if line != wantLine || code != wantCode {
			t.Fatalf("TableRead(%v, %q): %d, %d, not %d, %d", s, text, line, code, wantLine, wantCode)
		}
		if code == impl.TbOK && impl.TableText(got) != text || code != impl.TbOK && !sameTable(got, impl.Table{}) {
			t.Fatalf("TableRead(%v, %q) = %v", s, text, got)
		}
	}
	for _, s := range allSchemas() {
		text := impl.TableText(tableOf(s, 3))
		for i := range len(text) {
			check(s, text[:i])
			check(s, text[i:])
			check(s, text[:i]+text[i+1:])
			for b := range 256 {
				one := string([]byte{byte(b)})
				check(s, text[:i]+one+text[i+1:])
				check(s, text[:i]+one+text[i:])
			}
		}
		for _, other := range allSchemas() {
			check(other, text)
		}
		for rows := impl.MaxRows - 1; rows <= impl.MaxRows+2; rows++ {
			many := strings.Repeat(text, rows/3+1)
			check(s, many)
			check(s, many+"x")
			check(s, many+"\n")
		}
	}
}

func TestLabelsWordsAndColumn(t *testing.T) {
	for _, s := range allSchemas() {
		for _, rows := range []int{0, 1, 2, impl.MaxRows} {
			table := tableOf(s, rows)
			labels := impl.Labels(table)
			if len(labels) != rows {
				t.Fatalf("Labels(%v) = %v", table, labels)
			}
			for i, row := range table.Rows {
				if labels[i] != row.Label {
					t.Fatalf("Labels(%v) = %v", table, labels)
				}
			}
			for cat := range s.Cats {
				words := impl.Words(table, cat)
				for i, row := range table.Rows {
					if len(words) != rows || words[i] != row.Cats[cat] {
						t.Fatalf("Words(%v, %d) = %v", table, cat, words)
					}
				}
			}
			for num := range s.Nums {
				column := impl.Column(table, num)
				for i, row := range table.Rows {
					if len(column) != rows || column[i] != row.Nums[num] {
						t.Fatalf("Column(%v, %d) = %v", table, num, column)
					}
				}
			}
			for _, place := range []int{-1, -2, math.MinInt, math.MaxInt} {
				noPlaces(t, table, place, place)
			}
			noPlaces(t, table, s.Cats, s.Nums)
			noPlaces(t, table, s.Cats+1, s.Nums+1)
		}
	}
}

func noPlaces(t *testing.T, table impl.Table, cat int, num int) {
	t.Helper()
	if got := impl.Words(table, cat); len(got) != 0 {
		t.Fatalf("Words(%.40v, %d) = %v", table, cat, got)
	}
	if got := impl.Column(table, num); len(got) != 0 {
		t.Fatalf("Column(%.40v, %d) = %v", table, num, got)
	}
}

func TestColumnsOfNoTables(t *testing.T) {
	for _, no := range noTables() {
		if got := impl.Labels(no); len(got) != 0 {
			t.Fatalf("Labels(%.40v) = %v", no, got)
		}
		for place := -1; place <= 3; place++ {
			noPlaces(t, no, place, place)
		}
	}
}

// tableInRoom has spare room behind each of its lists, filled with what would be wrong or a row more.
func tableInRoom() impl.Table {
	row := func(n int) impl.Sample {
		nums := []int{n, -n, math.MaxInt, 5}
		cats := []string{"red", "b" + strconv.Itoa(n), "NO WORD", "x"}
		return impl.Sample{Nums: nums[:2], Cats: cats[:2], Label: 10 * n}
	}
	rows := []impl.Sample{row(1), row(2), row(3), {Nums: []int{math.MinInt}}, row(4)}
	return impl.Table{S: impl.Schema{Nums: 2, Cats: 2}, Rows: rows[:3]}
}

func wholeRows(list []impl.Sample) []impl.Sample {
	return list[:cap(list)]
}

// sameRoom holds two tables against each other with all that lies behind their lists.
func sameRoom(a impl.Table, b impl.Table) bool {
	return a.S == b.S && len(a.Rows) == len(b.Rows) && slices.EqualFunc(wholeRows(a.Rows), wholeRows(b.Rows), func(x impl.Sample, y impl.Sample) bool {
		return sameRow(x, y) && slices.Equal(x.Nums[:cap(x.Nums)], y.Nums[:cap(y.Nums)]) && slices.Equal(x.Cats[:cap(x.Cats)], y.Cats[:cap(y.Cats)])
	})
}

func wipeWords(list []string) {
	for i := range list[:cap(list)] {
		list[:cap(list)][i] = "-"
	}
}

func wipeTable(t impl.Table) {
	for i, row := range wholeRows(t.Rows) {
		wipe(row.Nums)
		wipeWords(row.Cats)
		wholeRows(t.Rows)[i] = impl.Sample{Label: -1}
	}
}

func TestTablesStayAsTheyWere(t *testing.T) {
	table := tableInRoom()
	text := "0.001,-0.001,red,b1,0.010\n0.002,-0.002,red,b2,0.020\n0.003,-0.003,red,b3,0.030\n"
	for range 2 {
		if got := impl.TableText(table); got != text || !impl.TableOk(table) || !impl.SampleOk(table.S, table.Rows[0]) {
			t.Errorf("TableText = %q", got)
		}
		labels, words, column := impl.Labels(table), impl.Words(table, 1), impl.Column(table, 1)
		if !slices.Equal(labels, []int{10, 20, 30}) || !slices.Equal(words, []string{"b1", "b2", "b3"}) || !slices.Equal(column, []int{-1, -2, -3}) {
			t.Error(labels, words, column)
		}
		wipe(labels)
		wipeWords(words)
		wipe(column)
		if !sameRoom(table, tableInRoom()) {
			t.Fatal("what was handed in was written into", table)
		}
	}
	labels, words, column := impl.Labels(table), impl.Words(table, 0), impl.Column(table, 0)
	wipeTable(table)
	if !slices.Equal(labels, []int{10, 20, 30}) || !slices.Equal(words, []string{"red", "red", "red"}) || !slices.Equal(column, []int{1, 2, 3}) {
		t.Error("an answer was written through what was handed in", labels, words, column)
	}
}

// TestTableReadListsAreApart wipes each list of an answer, spare room and all, and looks whether another one sees it.
func TestTableReadListsAreApart(t *testing.T) {
	text := "0.001,-0.001,red,b1,0.010\n0.002,-0.002,red,b2,0.020\n0.003,-0.003,red,b3,0.030\n"
	want := tableInRoom()
	for at := range want.Rows {
		got, _, _ := impl.TableRead(want.S, text)
		other, _, _ := impl.TableRead(want.S, text)
		wipe(got.Rows[at].Nums)
		wipeWords(got.Rows[at].Cats)
		for i, row := range got.Rows {
			if i != at && !sameRow(row, want.Rows[i]) {
				t.Errorf("the rows %d and %d share memory: %v", at, i, row)
			}
		}
		if !sameTable(other, want) {
			t.Errorf("two answers share memory: %v", other)
		}
	}
}

func within(part string, whole string) bool {
	start, at := uintptr(unsafe.Pointer(unsafe.StringData(whole))), uintptr(unsafe.Pointer(unsafe.StringData(part)))
	return start <= at && at < start+uintptr(len(whole))
}

func TestWordsAreCopied(t *testing.T) {
	text := strings.Clone("red,b_2,1.000\ngreen,0,-1.000\n")
	table, _, _ := impl.TableRead(impl.Schema{Cats: 2}, text)
	if len(table.Rows) != 2 {
		t.Fatal(table)
	}
	for cat := range 2 {
		for i, word := range impl.Words(table, cat) {
			held := table.Rows[i].Cats[cat]
			if within(held, text) || within(word, held) {
				t.Errorf("the word %q lies within what was handed in", word)
			}
		}
	}
}

package tests

import (
	"fmt"
	"hash/crc32"
	"regexp"
	"slices"
	"strconv"
	"strings"
	"sync"
	"testing"

	"loop.example/g00566/impl"
)

// sumAsTold is the library's, which shares nothing with the program's.
func sumAsTold(s string) int {
	return int(crc32.ChecksumIEEE([]byte(s)))
}

// summed puts the right sum behind whatever it is handed.
func summed(body string) string {
	return body + fmt.Sprintf("sum %d\n", sumAsTold(body))
}

// bodyOf is a text without its last line.
func bodyOf(text string) string {
	return text[:strings.LastIndex(text[:len(text)-1], "\n")+1]
}

// linesOf: each with its byte 10.
func linesOf(text string) []string {
	lines := strings.SplitAfter(text, "\n")
	return lines[:len(lines)-1]
}

func textAsTold(m impl.Model) string {
	body := fmt.Sprintf("model %d %d %d %d\n", m.S.Nums, m.S.Cats, m.Prior, m.Base)
	for _, tab := range m.Ctrs {
		body += fmt.Sprintf("ctr %d\n", len(tab.Words))
		for i, word := range tab.Words {
			body += fmt.Sprintf("%d %s\n", tab.Vals[i], word)
		}
	}
	for _, tree := range m.Trees {
		parts := []string{"tree"}
		for _, split := range tree.Splits {
			parts = append(parts, fmt.Sprintf("%d %d", split.F, split.B))
		}
		parts = append(parts, ":")
		for _, leaf := range tree.Leaves {
			parts = append(parts, strconv.Itoa(leaf))
		}
		body += strings.Join(parts, " ") + "\n"
	}
	return summed(body)
}

var (
	headForm  = regexp.MustCompile(`\Amodel (0|-?[1-9][0-9]*) (0|-?[1-9][0-9]*) (0|-?[1-9][0-9]*) (0|-?[1-9][0-9]*)\z`)
	ctrForm   = regexp.MustCompile(`\Actr (0|[1-9][0-9]*)\z`)
	valForm   = regexp.MustCompile(`\A(0|-?[1-9][0-9]*) ((?s:.*))\z`)
	treeForm  = regexp.MustCompile(`\Atree((?: (?:0|-?[1-9][0-9]*) (?:0|-?[1-9][0-9]*))*) :((?: (?:0|-?[1-9][0-9]*))*)\z`)
	blankForm = regexp.MustCompile(` `)
)

// savedLines are read by the schema, one after the other, where each must have its form.
type savedLines struct {
	rest []string
	ok   bool
}

func (l *savedLines) next(form *regexp.Regexp) []string {
	var parts []string
	if len(l.rest) > 0 {
		parts, l.rest = form.FindStringSubmatch(l.rest[0]), l.rest[1:]
	}
	if parts == nil {
		l.ok = false
		return make([]string, form.NumSubexp())
	}
	return parts[1:]
}

func (l *savedLines) number(part string) int {
	number, err := strconv.ParseInt(part, 10, 64)
	l.ok = l.ok && err == nil
	return int(number)
}

func (l *savedLines) numbers(part string) []int {
	var list []int
	for _, number := range blankForm.Split(part, -1)[1:] {
		list = append(list, l.number(number))
	}
	return list
}

func (l *savedLines) tab() impl.CtrTab {
	var tab impl.CtrTab
	for n := l.number(l.next(ctrForm)[0]); l.ok && n > 0; n-- {
		parts := l.next(valForm)
		tab.Vals, tab.Words = append(tab.Vals, l.number(parts[0])), append(tab.Words, parts[1])
	}
	return tab
}

func (l *savedLines) tree() impl.Tree {
	parts := l.next(treeForm)
	if !l.ok {
		return impl.Tree{}
	}
	tree, asked := impl.Tree{Leaves: l.numbers(parts[1])}, l.numbers(parts[0])
	for i := 0; i < len(asked); i += 2 {
		tree.Splits = append(tree.Splits, impl.Split{F: asked[i], B: asked[i+1]})
	}
	return tree
}

// readAsSaved asks for the form of each line, where the program writes anew what it read.
func readAsSaved(text string) (impl.Model, bool) {
	if len(text) > 30000 || !strings.HasSuffix(text, "\n") || summed(bodyOf(text)) != text {
		return impl.Model{}, false
	}
	var m impl.Model
	l := &savedLines{ok: true}
	for _, line := range linesOf(bodyOf(text)) {
		l.rest = append(l.rest, strings.TrimSuffix(line, "\n"))
	}
	head := l.next(headForm)
	m.S = impl.Schema{Nums: l.number(head[0]), Cats: l.number(head[1])}
	m.Prior, m.Base = l.number(head[2]), l.number(head[3])
	if !l.ok || m.S.Cats < 0 || m.S.Cats > 2 {
		return impl.Model{}, false
	}
	for range []int{0, 1, 3}[m.S.Cats] {
		m.Ctrs = append(m.Ctrs, l.tab())
	}
	for l.ok && len(l.rest) > 0 {
		m.Trees = append(m.Trees, l.tree())
	}
	if !l.ok || !impl.ModelOk(m) {
		return impl.Model{}, false
	}
	return m, true
}

// oddWords: blanks at all places, words that look like lines of another kind, and bytes that no table has; none has a byte 10.
func oddWords() []string {
	return []string{
		" ", "  ", "   ", strings.Repeat(" ", longestWord), " a", "a ", " a ", "a b", "a  b", "  a  b  ", "1 a", "1 ", " 1", "0", "-5", "+",
		"tree", "tree : 0", "ctr 1", "ctr", "sum 0", "sum", "sum ", ":", " : ", "model", "model 0 0 0 0", "\r", "a\r", "\t", "\v\f", "\x00", "\x7f", "\x80", "\xff\xfe", strings.Repeat("\xff", longestWord), "\u00e9", "e\u0301", "\u2028", "\u0085\u00a0",
	}
}

// oddModels: an odd word alone; at the beginning, in the midst and at the end of each of Ctrs; all of them in each.
func oddModels() []impl.Model {
	var list []impl.Model
	for n, word := range oddWords() {
		list = append(list, impl.Model{S: impl.Schema{Cats: 1}, Ctrs: []impl.CtrTab{{Words: []string{word}, Vals: []int{-n}}}})
		m := modelOf(impl.Schema{Nums: n % 4, Cats: 2}, n%3, n)
		for at := range m.Ctrs {
			m.Ctrs[at] = impl.CtrTab{Words: slices.Insert([]string{"a1", "b"}, (n+at)%3, word), Vals: []int{n, -n, at}}
		}
		list = append(list, m)
	}
	all := impl.CtrTab{Words: oddWords(), Vals: counted(len(oddWords()))}
	return append(list, impl.Model{S: impl.Schema{Nums: 1, Cats: 2}, Ctrs: []impl.CtrTab{all, all, all}, Trees: []impl.Tree{treeOf(0, 2)}})
}

// greatestModel has of everything as much, and as long, as there may be.
func greatestModel() impl.Model {
	m := impl.Model{S: impl.Schema{Nums: impl.MaxNums, Cats: impl.MaxCats}, Prior: -topPrior, Base: -top, Ctrs: make([]impl.CtrTab, 3)}
	for at := range m.Ctrs {
		m.Ctrs[at].Vals = slices.Repeat([]int{-top}, impl.MaxRows)
		for i := range impl.MaxRows {
			m.Ctrs[at].Words = append(m.Ctrs[at].Words, fmt.Sprintf("%0*d", longestWord, 7*i+at))
		}
	}
	tree := impl.Tree{Splits: slices.Repeat([]impl.Split{{F: feats - 1, B: -top}}, deepest), Leaves: slices.Repeat([]int{-top}, 1<<deepest)}
	m.Trees = slices.Repeat([]impl.Tree{tree}, mostTrees)
	return m
}

func savedModels() []impl.Model {
	list := append(someModels(), oddModels()...)
	for _, base := range goodNumbers() {
		list = append(list, impl.Model{S: impl.Schema{Cats: 1}, Prior: -topPrior, Base: base, Ctrs: []impl.CtrTab{{Words: []string{"a"}, Vals: []int{base}}}})
	}
	for _, tree := range someTrees() {
		list = append(list, impl.Model{Trees: []impl.Tree{tree}})
	}
	return append(list, greatestModel())
}

// shortModels: few enough bytes that each of them can be changed in many ways.
func shortModels() []impl.Model {
	return []impl.Model{
		{},
		{S: impl.Schema{Nums: 1}, Prior: -10, Base: 7, Trees: []impl.Tree{{Splits: []impl.Split{{F: 0, B: -20}}, Leaves: []int{-500, 500}}}},
		{S: impl.Schema{Nums: 3}, Base: -1, Trees: []impl.Tree{{Leaves: []int{5}}, {Leaves: []int{-10}}, {Splits: []impl.Split{{F: 5, B: 0}}, Leaves: []int{1, 2}}}},
		{S: impl.Schema{Cats: 1}, Ctrs: make([]impl.CtrTab, 1)},
		{S: impl.Schema{Cats: 1}, Prior: 5, Ctrs: []impl.CtrTab{{Words: []string{"a b", " ", "tree", "sum 0"}, Vals: []int{10, -2, 0, 4}}}, Trees: []impl.Tree{{Leaves: []int{1}}}},
		{S: impl.Schema{Nums: 2, Cats: 2}, Ctrs: make([]impl.CtrTab, 3), Trees: []impl.Tree{{Leaves: []int{0}}, {Leaves: []int{0}}}},
		{S: impl.Schema{Nums: 1, Cats: 2}, Prior: 1, Base: 2, Ctrs: []impl.CtrTab{{Words: []string{"a", "ctr 1"}, Vals: []int{1, -1}}, {Words: []string{"b "}, Vals: []int{100}}, {Words: []string{"a+b", ":"}, Vals: []int{3, 30}}}, Trees: []impl.Tree{{Splits: []impl.Split{{F: 1, B: 0}, {F: 3, B: -7}}, Leaves: []int{1, -2, 30, -40}}}},
	}
}

func shortened(m impl.Model) string {
	text := fmt.Sprint(m)
	return text[:min(300, len(text))]
}

func hasNoText(t *testing.T, m impl.Model) {
	t.Helper()
	if text := impl.ModelText(m); text != "" {
		t.Fatalf("ModelText(%s) = %.300q", shortened(m), text)
	}
}

func isRefused(t *testing.T, text string) {
	t.Helper()
	if m, ok := impl.ModelRead(text); ok || !sameModel(m, impl.Model{}) {
		t.Fatalf("ModelRead(%.300q) = %s, %v", text, shortened(m), ok)
	}
}

// isReadAsSaved: whatever the text is; and what is read has just this text.
func isReadAsSaved(t *testing.T, text string) bool {
	t.Helper()
	got, ok := impl.ModelRead(text)
	want, is := readAsSaved(text)
	if ok != is || !sameModel(got, want) {
		t.Fatalf("ModelRead(%.300q) = %s, %v, not %s, %v", text, shortened(got), ok, shortened(want), is)
	}
	if ok && (impl.ModelText(got) != text || !impl.ModelOk(got)) {
		t.Fatalf("%.300q was read as %s, whose text is %.300q", text, shortened(got), impl.ModelText(got))
	}
	return ok
}

// isReadOnlyIfSummed: refused with the sum of another text, and with its own one read as it is told.
func isReadOnlyIfSummed(t *testing.T, body string, text string) {
	t.Helper()
	if changed := body + text[len(bodyOf(text)):]; changed != text {
		isRefused(t, changed)
	}
	isReadAsSaved(t, summed(body))
}

// TestCrc: sums that are known of old.
func TestCrc(t *testing.T) {
	for _, c := range []struct {
		s    string
		want int
	}{
		{"", 0}, {"\x00", 3523407757}, {"\xff", 4278190080}, {"a", 3904355907}, {"123456789", 3421780262},
		{"The quick brown fox jumps over the lazy dog", 1095738169}, {strings.Repeat("\x00", 32), 420107693}, {strings.Repeat("\xff", 32), 4285311755}, {"\xff\xff\xff\xff", 4294967295},
	} {
		if got := impl.Crc(c.s); got != c.want {
			t.Errorf("Crc(%q) = %d, not %d", c.s, got, c.want)
		}
	}
}

// TestCrcAsTold: every text of one byte, many of two, and long ones.
func TestCrcAsTold(t *testing.T) {
	look := func(s string) {
		t.Helper()
		if got, want := impl.Crc(s), sumAsTold(s); got != want || got < 0 || got > 4294967295 {
			t.Fatalf("Crc(%.80q) = %d, not %d", s, got, want)
		}
	}
	for first := range 256 {
		look(string([]byte{byte(first)}))
		for second := range 256 {
			look(string([]byte{byte(first), byte(second)}))
		}
	}
	long := make([]byte, 300000)
	seed := 1
	for i := range long {
		long[i], seed = byte(seed), seedAfter(seed)
	}
	for _, n := range []int{3, 4, 5, 31, 32, 33, 1000, impl.MaxSaved, impl.MaxSaved + 1, len(long)} {
		look(string(long[:n]))
		look(strings.Repeat("\x00", n))
		look(strings.Repeat("\xff", n))
	}
	for _, m := range savedModels() {
		look(textAsTold(m))
	}
}

// TestModelText: worked out by hand, but for the sum.
func TestModelText(t *testing.T) {
	for _, c := range []struct {
		m    impl.Model
		want string
	}{
		{impl.Model{}, "model 0 0 0 0\n"},
		{impl.Model{S: impl.Schema{Nums: 3}, Prior: -1, Base: -1000000000}, "model 3 0 -1 -1000000000\n"},
		{impl.Model{Prior: 1000000, Base: 5, Trees: []impl.Tree{{Leaves: []int{-7}}}}, "model 0 0 1000000 5\ntree : -7\n"},
		{impl.Model{S: impl.Schema{Nums: 1}, Trees: []impl.Tree{{Splits: []impl.Split{{F: 0, B: 0}}, Leaves: []int{-500, 500}}}}, "model 1 0 0 0\ntree 0 0 : -500 500\n"},
		{impl.Model{Trees: []impl.Tree{{Leaves: []int{1}}, {Splits: []impl.Split{{F: 5, B: -20}, {F: 0, B: 1000000000}}, Leaves: []int{0, -1, 2, -1000000000}}, {Leaves: []int{1}}}}, "model 0 0 0 0\ntree : 1\ntree 5 -20 0 1000000000 : 0 -1 2 -1000000000\ntree : 1\n"},
		{impl.Model{S: impl.Schema{Cats: 1}, Ctrs: make([]impl.CtrTab, 1)}, "model 0 1 0 0\nctr 0\n"},
		{impl.Model{S: impl.Schema{Nums: 2, Cats: 1}, Ctrs: []impl.CtrTab{{Words: []string{"red", "a b", " "}, Vals: []int{5, -40, 0}}}}, "model 2 1 0 0\nctr 3\n5 red\n-40 a b\n0  \n"},
		{impl.Model{S: impl.Schema{Cats: 2}, Ctrs: make([]impl.CtrTab, 3)}, "model 0 2 0 0\nctr 0\nctr 0\nctr 0\n"},
		{
			impl.Model{S: impl.Schema{Nums: 1, Cats: 2}, Prior: -3, Base: 4, Ctrs: []impl.CtrTab{{Words: []string{"tree"}, Vals: []int{1}}, {}, {Words: []string{"sum 0", " x ", "\xff:"}, Vals: []int{-2, 3, 1000000000}}}, Trees: []impl.Tree{{Splits: []impl.Split{{F: 3, B: 2}}, Leaves: []int{-1, 1}}}},
			"model 1 2 -3 4\nctr 1\n1 tree\nctr 0\nctr 3\n-2 sum 0\n3  x \n1000000000 \xff:\ntree 3 2 : -1 1\n",
		},
	} {
		if got := impl.ModelText(c.m); got != summed(c.want) {
			t.Errorf("ModelText(%v) = %q, not %q", c.m, got, summed(c.want))
		}
		if got, ok := impl.ModelRead(summed(c.want)); !sameModel(got, c.m) || !ok {
			t.Errorf("ModelRead(%q) = %v, %v", summed(c.want), got, ok)
		}
	}
	if got := impl.ModelText(impl.Model{}); got != "model 0 0 0 0\nsum 4175208810\n" {
		t.Errorf("the text of nothing: %q", got)
	}
}

// TestModelsAreReadFromTheirTexts is promise 11's first part.
func TestModelsAreReadFromTheirTexts(t *testing.T) {
	for _, m := range append(savedModels(), shortModels()...) {
		text := impl.ModelText(m)
		if want := textAsTold(m); text != want {
			t.Fatalf("ModelText(%s) = %.300q, not %.300q", shortened(m), text, want)
		}
		if got, ok := impl.ModelRead(text); !sameModel(got, m) || !ok {
			t.Fatalf("ModelRead(%.300q) = %s, %v, not %s", text, shortened(got), ok, shortened(m))
		}
		if !isReadAsSaved(t, text) {
			t.Fatalf("%.300q is not told of", text)
		}
	}
}

// TestReadModelsTellTheSame: a model that was learned, kept as a text, tells what it told.
func TestReadModelsTellTheSame(t *testing.T) {
	for i, s := range allSchemas() {
		table := drawnTable(5+i, s, 30)
		m, _ := impl.Train(table, learnConf(mostTrees, 3, 600))
		read, ok := impl.ModelRead(impl.ModelText(m))
		want, _ := impl.PredictAll(m, table)
		if all, is := impl.PredictAll(read, table); !slices.Equal(all, want) || !ok || !is {
			t.Errorf("%v tells %v, not %v", read, all, want)
		}
	}
}

// TestOneBitTurnedIsTold is promise 11's last part: every bit of whole texts, of the longest one too.
func TestOneBitTurnedIsTold(t *testing.T) {
	models := append(shortModels(), oddModels()[len(oddModels())-1], greatestModel())
	for i, s := range allSchemas() {
		models = append(models, modelOf(s, i%3, i))
	}
	for bit := range 8 {
		t.Run(strconv.Itoa(bit), func(t *testing.T) {
			t.Parallel()
			for _, m := range models {
				bitIsTold(t, impl.ModelText(m), bit)
			}
		})
	}
}

// bitIsTold turns one bit of each byte of a text, one after the other.
func bitIsTold(t *testing.T, text string, bit int) {
	t.Helper()
	turned := []byte(text)
	for at := range turned {
		turned[at] ^= 1 << bit
		isRefused(t, string(turned))
		turned[at] ^= 1 << bit
	}
	if string(turned) != text || text == "" {
		t.Fatalf("%q is not as it was", turned)
	}
}

// TestBytesLessAndMore: at each place, with the sum of the text as it was and with the right one.
func TestBytesLessAndMore(t *testing.T) {
	for _, m := range shortModels() {
		text := impl.ModelText(m)
		for at := range len(text) {
			isRefused(t, text[:at])
			isRefused(t, text[:at]+text[at+1:])
			for b := range 256 {
				isRefused(t, text[:at]+string([]byte{byte(b)})+text[at:])
			}
		}
		for b := range 256 {
			isRefused(t, text+string([]byte{byte(b)}))
		}
		body := bodyOf(text)
		for at := range len(body) {
			isReadOnlyIfSummed(t, body[:at], text)
			isReadOnlyIfSummed(t, body[:at]+body[at+1:], text)
			for b := range 256 {
				isReadOnlyIfSummed(t, body[:at]+string([]byte{byte(b)})+body[at:], text)
				isReadOnlyIfSummed(t, body[:at]+string([]byte{byte(b)})+body[at+1:], text)
			}
		}
	}
}

// TestLinesLessAndMore: each left out, doubled, in another place.
func TestLinesLessAndMore(t *testing.T) {
	models := append(shortModels(), oddModels()[1:3]...)
	for i, s := range allSchemas() {
		models = append(models, modelOf(s, 3, i))
	}
	for i, m := range models {
		t.Run(strconv.Itoa(i), func(t *testing.T) {
			t.Parallel()
			linesAreTold(t, impl.ModelText(m))
		})
	}
}

func linesAreTold(t *testing.T, text string) {
	t.Helper()
	lines := linesOf(text)
	isRefused(t, bodyOf(text))
	for at, line := range lines {
		isRefused(t, strings.Join(slices.Delete(slices.Clone(lines), at, at+1), ""))
		isRefused(t, strings.Join(slices.Insert(slices.Clone(lines), at, line), ""))
		isRefused(t, strings.Join(append(slices.Clone(lines), line), ""))
	}
	last := len(lines) - 1
	for at, line := range lines[:last] {
		isReadOnlyIfSummed(t, strings.Join(slices.Delete(slices.Clone(lines[:last]), at, at+1), ""), text)
		isReadOnlyIfSummed(t, strings.Join(slices.Insert(slices.Clone(lines[:last]), at, line), ""), text)
		for other := range lines {
			swapped := slices.Clone(lines)
			swapped[at], swapped[other] = swapped[other], line
			if swapped[at] != line {
				isRefused(t, strings.Join(swapped, ""))
			}
			isReadOnlyIfSummed(t, strings.Join(swapped[:last], ""), text)
		}
	}
}

// wrongNumbers: how else one could write a number, and what is none, or one that is far too great.
func wrongNumbers(number string) []string {
	list := []string{
		"", " ", "-", "+", "--1", "+-1", "-+1", "1-", "1.0", "1.", ".1", "1e3", "1_0", "0x1", "0b1", "0o7", "a", "\u0661", "\uff11", "-0", "+0", "00", "-00", "01", "-01", "+1", "'1'", "1,0", "1\x00", "\xff", "1\r", "\r1", "1\t", "\u00a01",
		number + " ", " " + number, number + "\t", "\t" + number, number + "\r", number + "\x00", number + " 0", "0 " + number, "+" + number, "0" + number, "000000000000000000000000" + number,
		"99999999999", "-99999999999", "9223372036854775807", "9223372036854775808", "-9223372036854775808", "-9223372036854775809", "18446744073709551616", "18446744073709551617", strings.Repeat("9", 400), strings.Repeat("1", 5000),
	}
	if digits, minus := strings.CutPrefix(number, "-"); minus {
		list = append(list, "-0"+digits, "-+"+digits, "- "+digits)
	}
	return slices.DeleteFunc(list, func(other string) bool { return other == number })
}

// TestNumbersWrittenOtherwise: each number ahead of a word, and each number of the other lines, also that of the sum.
func TestNumbersWrittenOtherwise(t *testing.T) {
	number := regexp.MustCompile(`-?[0-9]+`)
	for _, m := range shortModels() {
		text := impl.ModelText(m)
		body := bodyOf(text)
		for _, at := range number.FindAllStringIndex(text, -1) {
			for _, other := range wrongNumbers(text[at[0]:at[1]]) {
				changed := text[:at[0]] + other + text[at[1]:]
				isRefused(t, changed)
				if at[1] <= len(body) {
					isReadAsSaved(t, summed(bodyOf(changed)))
				}
			}
		}
	}
	for _, wrong := range []string{"+5", "05", "-0", "+0", "00", "5 ", " 5", "5\t", "\t5", "0x5", "5.0", "5_0", "", "9223372036854775808", "-9223372036854775809", "18446744073709551621"} {
		for _, form := range []string{"model %s 0 0 0\n", "model 0 %s 0 0\n", "model 0 0 %s 0\n", "model 0 0 0 %s\n", "model 0 1 0 0\nctr %s\n", "model 0 1 0 0\nctr %s\n1 a\n2 b\n3 c\n4 d\n5 e\n", "model 0 1 0 0\nctr 1\n%s a\n", "model 0 0 0 0\ntree : %s\n", "model 0 0 0 0\ntree %s 0 : 1 2\n", "model 0 0 0 0\ntree 0 %s : 1 2\n", "model 0 0 0 0\ntree 0 0 : %s 2\n", "model 0 0 0 0\ntree 0 0 : 1 %s\n"} {
			text := summed(fmt.Sprintf(form, wrong))
			// Of a word, the number ends at the first blank: "5 " says that the word begins with one.
			if wrong == "5 " && strings.Contains(form, "%s a") {
				if m, ok := impl.ModelRead(text); !ok || m.Ctrs[0].Words[0] != " a" || m.Ctrs[0].Vals[0] != 5 {
					t.Errorf("ModelRead(%q) = %v, %v", text, m, ok)
				}
				continue
			}
			isRefused(t, text)
		}
	}
}

// TestSumsWrittenOtherwise: right sums that are not the text's last line as it is told.
func TestSumsWrittenOtherwise(t *testing.T) {
	for _, m := range shortModels() {
		text := impl.ModelText(m)
		body := bodyOf(text)
		sum := strconv.Itoa(sumAsTold(body))
		for _, last := range []string{
			"", "\n", "sum\n", "sum \n", "sum " + sum, "sum " + sum + "\r\n", "sum " + sum + " \n", "sum  " + sum + "\n", " sum " + sum + "\n", "sum +" + sum + "\n", "sum 0" + sum + "\n", "sum -" + sum + "\n", "sum " + sum + "0\n", "sum " + sum + ".0\n", "Sum " + sum + "\n", "sum\t" + sum + "\n", "sum" + sum + "\n", sum + "\n", "sum " + sum + " " + sum + "\n", "sum 0\n", "sum 4294967295\n",
			"sum " + strconv.Itoa(sumAsTold(body)+1<<32) + "\n", "sum " + strconv.Itoa(sumAsTold(body)-1<<32) + "\n", "sum " + strconv.Itoa(sumAsTold(body)+1) + "\n", "sum " + strconv.Itoa(sumAsTold(body)-1) + "\n", "sum " + strconv.Itoa(sumAsTold(body+"sum ")) + "\n", "sum " + strconv.Itoa(sumAsTold(body[:len(body)-1])) + "\n", "sum " + strconv.FormatInt(int64(sumAsTold(body)), 16) + "\n",
			// Parts behind the sum.
			text[len(body):] + "\n", text[len(body):] + text[len(body):], text[len(body):] + "tree : 0\n", text[len(body):] + "x", text[len(body):] + " ", text[len(body):] + text, "\n" + text[len(body):],
		} {
			isRefused(t, body+last)
		}
		isRefused(t, summed(text))
		isRefused(t, summed(text+"tree : 0\n"))
		isRefused(t, summed(body+"sum 0\n"))
	}
}

// TestTextsOfNoModel: their sums are right, but no ModelOk model is written so.
func TestTextsOfNoModel(t *testing.T) {
	head, words := "model 1 0 0 0\n", "model 1 1 0 0\nctr 2\n1 a\n2 b\n"
	for _, body := range []string{
		"", "\n", " ", "x", "x\n", "model\n", "model \n", "model 0 0 0\n", "model 0 0 0 0 0\n", "model 0 0 0 0", "model 0 0 0 0 \n", " model 0 0 0 0\n", "model  0 0 0 0\n", "model 0  0 0 0\n", "model 0 0 0 0\r\n", "Model 0 0 0 0\n", "model\t0 0 0 0\n", "model0 0 0 0\n", "model 0 0 0 0\n\n", "\nmodel 0 0 0 0\n", "models 0 0 0 0\n", "ctr 0\n", "tree : 0\n", "sum 0\n",
		// Another count behind ctr than that of the lines, and other counts of Ctrs than the schema wants.
		"model 1 1 0 0\nctr 1\n1 a\n2 b\n", "model 1 1 0 0\nctr 3\n1 a\n2 b\n", "model 1 1 0 0\nctr 0\n1 a\n2 b\n", "model 1 1 0 0\nctr -1\n1 a\n2 b\n", "model 1 1 0 0\nctr -2\n", "model 1 1 0 0\nctr 3\n1 a\n2 b\ntree : 0\n", "model 1 1 0 0\nctr 9223372036854775807\n1 a\n2 b\n", "model 1 1 0 0\nctr\n1 a\n2 b\n", "model 1 1 0 0\nctr 2 2\n1 a\n2 b\n", "model 1 1 0 0\nctr  2\n1 a\n2 b\n",
		"model 1 1 0 0\n", "model 1 1 0 0\n1 a\n", words + "ctr 0\n", words + words[len("model 1 1 0 0\n"):], head + "ctr 0\n", "model 1 2 0 0\nctr 0\n", "model 1 2 0 0\nctr 0\nctr 0\n", "model 1 2 0 0\nctr 0\nctr 0\nctr 0\nctr 0\n",
		// A second head, and lines in another order.
		head + head, words + "model 1 1 0 0\n", head + "tree : 0\n" + head, "model 2 0 0 0\n" + head, "ctr 0\nmodel 1 1 0 0\n", "tree : 0\n" + head, "model 1 1 0 0\ntree : 0\nctr 0\n", "model 1 2 0 0\nctr 0\ntree : 0\nctr 0\nctr 0\n", "model 0 0 0 0\n" + words,
		// Words: none, two alike, too long, without a number, without a blank.
		"model 0 1 0 0\nctr 1\n1 \n", "model 0 1 0 0\nctr 1\n1\n", "model 0 1 0 0\nctr 1\n\n", "model 0 1 0 0\nctr 1\n a\n", "model 0 1 0 0\nctr 1\na\n", "model 0 1 0 0\nctr 1\na 1\n", "model 0 1 0 0\nctr 1\n1\ta\n", "model 0 1 0 0\nctr 2\n1 a\n2 a\n", "model 0 1 0 0\nctr 1\n1 " + strings.Repeat("a", longestWord+1) + "\n", "model 0 1 0 0\nctr 1\n1 " + strings.Repeat(" ", longestWord+1) + "\n", "model 0 1 0 0\nctr 1\n1000000001 a\n", "model 0 1 0 0\nctr 1\n-1000000001 a\n",
		// Settings that are not ModelOk.
		"model 4 0 0 0\n", "model -1 0 0 0\n", "model 0 3 0 0\n", "model 0 -1 0 0\n", "model 0 9223372036854775807 0 0\n", "model 0 0 1000001 0\n", "model 0 0 -1000001 0\n", "model 0 0 0 1000000001\n", "model 0 0 0 -1000000001\n",
		// Trees: Leaves too few or too many, Splits by halves, no or another or a second sign.
		head + "tree :\n", head + "tree : \n", head + "tree : 0 0\n", head + "tree : 0 \n", head + "tree :  0\n", head + "tree  : 0\n", head + "tree: 0\n", head + "tree :0\n", head + "tree 0 0 : 1\n", head + "tree 0 0 : 1 2 3\n", head + "tree 0 0 : 1 2 3 4\n", head + "tree 0 : 1 2\n", head + "tree 0 0 0 : 1 2\n", head + "tree 0 0 1 2\n", head + "tree 0 0\n", head + "tree 0\n", head + "tree\n", head + "tree \n", head + "tree 0 0 ; 1 2\n", head + "tree 0 0 : 1 2 :\n", head + "tree 0 0 : 1 : 2\n", head + "tree : 0 0 : 1 2\n", head + "tree :: 0\n", head + "tree 0 0 :1 2\n", head + "tree 0 0: 1 2\n", head + "tree 0  0 : 1 2\n", head + "tree 0 0  : 1 2\n", head + "tree 0 0 : 1  2\n", head + "tree 0 0 : 1\t2\n",
		head + "tree 6 0 : 1 2\n", head + "tree -1 0 : 1 2\n", head + "tree 0 1000000001 : 1 2\n", head + "tree 0 -1000000001 : 1 2\n", head + "tree : 1000000001\n", head + "tree : -1000000001\n", head + "tree" + strings.Repeat(" 0 0", deepest+1) + " :" + strings.Repeat(" 1", 2<<deepest) + "\n", head + "tree" + strings.Repeat(" 0 0", deepest) + " :" + strings.Repeat(" 1", 1<<deepest-1) + "\n", head + "tree" + strings.Repeat(" 0 0", deepest) + " :" + strings.Repeat(" 1", 1<<deepest+1) + "\n", head + strings.Repeat("tree : 0\n", mostTrees+1),
	} {
		if _, ok := readAsSaved(summed(body)); ok {
			t.Fatalf("%q is one after all", body)
		}
		isRefused(t, body)
		isRefused(t, summed(body))
	}
	many := "model 0 1 0 0\nctr 41\n"
	for _, word := range differentWords(impl.MaxRows + 1) {
		many += "0 " + word + "\n"
	}
	isRefused(t, summed(many))
	isRefused(t, "")
}

// TestTextsOfNoModelOk: what would be the texts of models that are not ModelOk.
func TestTextsOfNoModelOk(t *testing.T) {
	for _, m := range noModels() {
		hasNoText(t, m)
		// Where Words and Vals are not as many, nothing could be written.
		if slices.ContainsFunc(m.Ctrs, func(tab impl.CtrTab) bool { return len(tab.Words) > len(tab.Vals) }) {
			continue
		}
		isReadAsSaved(t, textAsTold(m))
	}
	for i, wrong := range noTrees() {
		for at := range 3 {
			m := modelOf(allSchemas()[i%12], 3, i)
			m.Trees[at] = wrong
			hasNoText(t, m)
			isRefused(t, textAsTold(m))
		}
	}
}

// TestNoTextOfWordsWithLineEnds: wherever the byte 10 is within a word, the word within its list, and the list within Ctrs.
func TestNoTextOfWordsWithLineEnds(t *testing.T) {
	for _, word := range []string{"\n", "\n\n", "a\n", "\na", "a\nb", "a b\n", "\r\n", "a\n5 b", "a\nsum 0\n", "a\ntree : 0", strings.Repeat("a", longestWord-1) + "\n", "\n" + strings.Repeat("\xff", longestWord-1)} {
		for cats := 1; cats <= impl.MaxCats; cats++ {
			m := modelOf(impl.Schema{Nums: 1, Cats: cats}, 2, cats)
			for at := range m.Ctrs {
				for place := range len(m.Ctrs[at].Words) + 1 {
					other := copyModel(m)
					other.Ctrs[at].Words = slices.Insert(other.Ctrs[at].Words, place, word)
					other.Ctrs[at].Vals = slices.Insert(other.Ctrs[at].Vals, place, 5)
					if !impl.ModelOk(other) {
						t.Fatalf("ModelOk(%v) is false", other)
					}
					hasNoText(t, other)
					isReadAsSaved(t, textAsTold(other))
					other.Base = top + 1
					hasNoText(t, other)
				}
			}
		}
	}
	full := greatestModel()
	full.Ctrs[2].Words[impl.MaxRows-1] = "\n"
	hasNoText(t, full)
	// A byte 10 in the room behind a list is none of the model's.
	m := impl.Model{S: impl.Schema{Cats: 1}, Ctrs: []impl.CtrTab{{Words: []string{"a", "\n"}[:1], Vals: []int{1}}}}
	if text := impl.ModelText(m); text != summed("model 0 1 0 0\nctr 1\n1 a\n") {
		t.Errorf("ModelText(%v) = %q", m, text)
	}
}

// TestGreatestModelText: no ModelOk model has a text that comes near MaxSaved bytes, so that each has one but for its words.
func TestGreatestModelText(t *testing.T) {
	m := greatestModel()
	text := impl.ModelText(m)
	if text != textAsTold(m) || len(bodyOf(text)) != 7672 || len(text) > impl.MaxSaved || impl.MaxSaved != 30000 {
		t.Errorf("%d bytes: %.300q", len(text), text)
	}
	if got, ok := impl.ModelRead(text); !sameModel(got, m) || !ok {
		t.Errorf("read as %s, %v", shortened(got), ok)
	}
}

// longText has a right sum, and just n bytes: as many of the part as there is room for, and one byte, so chosen that the sum has ten digits.
func longText(n int, ahead string, part string, behind string) string {
	room := n - len(ahead) - len(behind) - len("sum 4294967295\n")
	for last := range 256 {
		text := summed(ahead + strings.Repeat(part, room-1) + string([]byte{byte(last)}) + behind)
		if len(text) == n {
			return text
		}
	}
	return ""
}

// TestTextsAtTheLimit: no model has them, whether they are of MaxSaved bytes or more.
func TestTextsAtTheLimit(t *testing.T) {
	for _, n := range []int{impl.MaxSaved - 1, impl.MaxSaved, impl.MaxSaved + 1, impl.MaxSaved + 2, 2 * impl.MaxSaved} {
		for _, text := range []string{
			strings.Repeat("\n", n), strings.Repeat(" ", n), strings.Repeat("a", n), strings.Repeat("\x00", n), strings.Repeat("tree : 0\n", n)[:n],
			longText(n, "model 0 1 0 0\nctr 1\n1 ", "a", "\n"), longText(n, "model 0 0 0 0\ntree :", " ", " 0\n"), longText(n, "model 0 0 0 0\ntree : ", "0", "\n"), longText(n, "model 0 0 0 ", "0", "\n"), longText(n, "model 0 0 0 0\n", "\n", ""), longText(n, "", " ", "model 0 0 0 0\n"), longText(n, "model 0 0 0 0\n", "x", "\n"),
		} {
			if len(text) != n {
				t.Fatalf("%d bytes, not %d: %.80q", len(text), n, text)
			}
			isRefused(t, text)
		}
	}
	right := impl.ModelText(modelOf(impl.Schema{Nums: 2, Cats: 2}, 3, 1))
	for _, n := range []int{impl.MaxSaved, impl.MaxSaved + 1} {
		isRefused(t, right+strings.Repeat("\n", n-len(right)))
		isRefused(t, strings.Repeat("\n", n-len(right))+right)
		isRefused(t, strings.Repeat(right, n)[:n])
	}
	isRefused(t, strings.Repeat(right, 5000))
	isRefused(t, strings.Repeat("tree : 0\n", 500000))
}

// TestDrawnTexts: a few bytes or lines changed by chance, and texts of lines by chance, all with right sums.
func TestDrawnTexts(t *testing.T) {
	seed, read := 1, 0
	below := func(n int) int {
		var number int
		number, seed = belowAsTold(seed, n)
		return number
	}
	pieces := []string{"model", "ctr", "tree", "sum", ":", " ", " ", " ", "\n", "\n", "0", "1", "2", "-", "-1", "a", "b", "tree :", "ctr 0\n", "ctr 1\n", "1 a\n", "-2 b c\n", "tree : 5\n", "tree 0 1 : -1 1\n", "sum 0\n"}
	for turn := range 20000 {
		text := "model 0 " + strconv.Itoa(turn%3) + " 0 0\n"
		for range below(9) {
			text += pieces[below(len(pieces))]
		}
		if isReadAsSaved(t, summed(text)) {
			read++
		}
	}
	for turn := range 20000 {
		text := bodyOf(textAsTold(shortModels()[turn%len(shortModels())]))
		for range 1 + below(3) {
			at := below(len(text) + 1)
			text = text[:at] + pieces[below(len(pieces))] + text[min(len(text), at+below(3)):]
		}
		if isReadAsSaved(t, summed(text)) {
			read++
		}
	}
	if read < 1000 {
		t.Errorf("but %d were read", read)
	}
}

// TestSavingLeavesAllAsItWas: also the room behind each of the lists, and where what is read is written into.
func TestSavingLeavesAllAsItWas(t *testing.T) {
	for _, m := range append(savedModels(), noModels()...) {
		handed := modelInRoom(m)
		want := impl.ModelText(m)
		for range 2 {
			text := impl.ModelText(handed)
			given := strings.Clone(text)
			read, _ := impl.ModelRead(given)
			wipeTabs(read.Ctrs)
			wipeTrees(read.Trees)
			if text != want || given != want || !modelRoomKept(handed, m) {
				t.Fatalf("%s was written into, or has another text with room behind: %s, %.300q", shortened(m), shortened(handed), text)
			}
		}
	}
}

// TestSavingReadsNothingBehindTheEnd: the text may be a piece of another one.
func TestSavingReadsNothingBehindTheEnd(t *testing.T) {
	for _, m := range shortModels() {
		text := impl.ModelText(m)
		whole := "tree : 0\n" + text + text
		if got, ok := impl.ModelRead(whole[len("tree : 0\n"):][:len(text)]); !sameModel(got, m) || !ok {
			t.Errorf("ModelRead(%q) = %v, %v as a piece", text, got, ok)
		}
		isRefused(t, whole[len("tree : 0\n"):][:len(text)-1])
	}
}

// TestWhatIsReadIsNew: wiping what was written from changes no text, nor does wiping another answer; no word lies within the text.
func TestWhatIsReadIsNew(t *testing.T) {
	for _, given := range savedModels() {
		m := copyModel(given)
		text := impl.ModelText(m)
		for _, tab := range m.Ctrs {
			for _, word := range tab.Words {
				if within(word, text) || within(text, word) {
					t.Fatalf("the word %q and its text share memory", word)
				}
			}
		}
		wipeTabs(m.Ctrs)
		wipeTrees(m.Trees)
		read, _ := impl.ModelRead(text)
		again, _ := impl.ModelRead(text)
		wipeTabs(again.Ctrs)
		wipeTrees(again.Trees)
		if text != textAsTold(given) || !sameModel(read, given) {
			t.Fatalf("what %s answered was written through it: %.300q, %s", shortened(given), text, shortened(read))
		}
	}
}

// TestWordsReadAreCopied: none lies within the text, nor within another one.
func TestWordsReadAreCopied(t *testing.T) {
	for _, m := range append(oddModels(), modelOf(impl.Schema{Cats: 2}, 1, 1)) {
		text := impl.ModelText(m)
		read, _ := impl.ModelRead(text)
		var words []string
		for _, tab := range read.Ctrs {
			words = append(words, tab.Words...)
		}
		for i, word := range words {
			if within(word, text) {
				t.Fatalf("the word %q lies within the text", word)
			}
			for _, other := range words[i+1:] {
				if within(word, other) || within(other, word) {
					t.Fatalf("%q and %q share memory", word, other)
				}
			}
		}
	}
}

// TestListsOfAReadModelAreApart wipes each list, spare room and all, and looks whether another one sees it.
func TestListsOfAReadModelAreApart(t *testing.T) {
	for _, m := range []impl.Model{greatestModel(), modelOf(impl.Schema{Nums: 3, Cats: 2}, mostTrees, 3), shortModels()[6]} {
		read, _ := impl.ModelRead(impl.ModelText(m))
		kept := copyModel(read)
		look := func() {
			t.Helper()
			if !sameModel(read, kept) {
				t.Fatalf("lists share memory: %s, not %s", shortened(read), shortened(kept))
			}
		}
		for i := range read.Ctrs {
			wipeWords(read.Ctrs[i].Words)
			kept.Ctrs[i].Words = slices.Clone(read.Ctrs[i].Words)
			look()
			wipe(read.Ctrs[i].Vals)
			kept.Ctrs[i].Vals = slices.Clone(read.Ctrs[i].Vals)
			look()
		}
		for i := range read.Trees {
			wipeSplits(read.Trees[i].Splits)
			kept.Trees[i].Splits = slices.Clone(read.Trees[i].Splits)
			look()
			wipe(read.Trees[i].Leaves)
			kept.Trees[i].Leaves = slices.Clone(read.Trees[i].Leaves)
			look()
		}
	}
}

// TestSaveAgain: the same answers however often they are asked, whatever was asked between, and by several at once.
func TestSaveAgain(t *testing.T) {
	m := modelOf(impl.Schema{Nums: 3, Cats: 2}, mostTrees, 6)
	want := textAsTold(m)
	var askers sync.WaitGroup
	for n := range 8 {
		askers.Go(func() {
			other := modelOf(impl.Schema{Nums: n % 4, Cats: n % 3}, n, n)
			for turn := range 50 {
				impl.ModelRead(impl.ModelText(other)[turn%3:])
				text := impl.ModelText(m)
				read, ok := impl.ModelRead(text)
				if text != want || !sameModel(read, m) || !ok || impl.Crc("123456789") != 3421780262 {
					t.Errorf("ModelText(%v) = %q, read as %v, %v", m, text, read, ok)
					return
				}
			}
		})
	}
	askers.Wait()
}

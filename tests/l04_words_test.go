package tests

import (
	"math"
	"math/big"
	"slices"
	"strconv"
	"strings"
	"testing"

	"loop.example/g00566/impl"
)

const topPrior = impl.MaxPrior

// labelled: rows with words and labels, an order of them and a prior.
type labelled struct {
	words  []string
	labels []int
	perm   []int
	prior  int
}

// wordLists: none, one, the same several times, the empty word, words that begin one another, bytes that are no letters.
func wordLists() [][]string {
	return [][]string{
		nil, {}, {""}, {"a"}, {"", ""}, {"a", "a"}, {"a", ""}, {"", "a"}, {"a", "b", "a"}, {"b", "a", "b", "a", "b"},
		{"a", "ab", "abc", "", "a", "abc", "ab"}, {"abc", "ab", "a", "", "ab"}, {"z", "y", "x", "z"}, {"A", "a", "A "}, {"a", "a\x00", "a\x00\x00", "a\x00"},
		{"\xff", "\xfe", "\xff", "\u00e9", "e\u0301", "\ufffd"}, {"+", "a+b", "a", "+b", "+"}, {"10", "9", "1", "10"}, {strings.Repeat("q", 5000), strings.Repeat("q", 5001), strings.Repeat("q", 5000)},
		slices.Repeat([]string{"red"}, impl.MaxRows), slices.Repeat([]string{"red"}, impl.MaxRows+1), slices.Repeat([]string{"x", "", "y"}, 500),
		differentWords(impl.MaxRows), differentWords(impl.MaxRows + 1), differentWords(1000), slices.Repeat(differentWords(60), 3),
	}
}

// differentWords come in an order that is neither that of the bytes nor its reverse.
func differentWords(n int) []string {
	list := make([]string, n)
	for i := range list {
		list[i] = "w" + strconv.Itoa(i*7919%100003)
	}
	return list
}

func dictAsTold(words []string) []string {
	var dict []string
	for i, w := range words {
		if !slices.Contains(words[:i], w) {
			dict = append(dict, w)
		}
	}
	return dict
}

// numberAsTold divides by numbers of any size, so that it shares no rounding with the program.
func numberAsTold(labels []int, prior int) int {
	together := big.NewInt(int64(prior))
	for _, label := range labels {
		together.Add(together, big.NewInt(int64(label)))
	}
	return floorOf(together, big.NewInt(int64(len(labels)+1)))
}

func (l labelled) atAsTold(k int) int {
	var ahead []int
	for i := 0; i < k; i++ {
		if l.words[l.perm[i]] == l.words[l.perm[k]] {
			ahead = append(ahead, l.labels[l.perm[i]])
		}
	}
	return numberAsTold(ahead, l.prior)
}

func (l labelled) ofAsTold(w string) int {
	var all []int
	for i, word := range l.words {
		if word == w {
			all = append(all, l.labels[i])
		}
	}
	return numberAsTold(all, l.prior)
}

func (l labelled) at(k int) (int, bool) {
	return impl.CtrAt(l.words, l.labels, l.perm, k, l.prior)
}

func (l labelled) all() ([]int, bool) {
	return impl.CtrAll(l.words, l.labels, l.perm, l.prior)
}

func (l labelled) of(w string) (int, bool) {
	return impl.CtrOf(l.words, l.labels, w, l.prior)
}

// drawnRows makes right rows of few words, so that many have one word; all hangs on the seed.
func drawnRows(seed int, rows int) labelled {
	drawn := func(n int) int {
		var x int
		x, seed = impl.Below(seed, n)
		return x
	}
	some := []string{"a", "", "ab", "b", "abc", "red"}[:1+drawn(6)]
	l := labelled{prior: drawn(topPrior) - drawn(topPrior), perm: impl.PermOf(seed, rows)}
	for range rows {
		l.words = append(l.words, some[drawn(len(some))])
		label := drawn(21) - 10
		if drawn(2) == 0 {
			label = drawn(topLabel) - drawn(topLabel)
		}
		l.labels = append(l.labels, label)
	}
	if drawn(4) == 0 {
		l.prior = drawn(9) - 4
	}
	return l
}

// someLabelled: the edges of labels, priors and how many rows there are, and rows by chance.
func someLabelled() []labelled {
	down := counted(impl.MaxRows)
	slices.Reverse(down)
	list := []labelled{
		{}, {words: []string{}, labels: []int{}, perm: []int{}, prior: topPrior}, {prior: -topPrior},
		{[]string{"a"}, []int{7}, []int{0}, -3}, {[]string{""}, []int{-topLabel}, []int{0}, topPrior}, {[]string{"a", "a"}, []int{-1, -2}, []int{1, 0}, 0},
		{[]string{"a", "ab", "abc", "", "a", "", "ab"}, []int{1, 20, 300, 4000, -5, -60, -701}, []int{6, 5, 4, 3, 2, 1, 0}, -1},
		{differentWords(impl.MaxRows), slices.Repeat([]int{topLabel, -topLabel}, 20), down, 5},
	}
	for _, label := range []int{-topLabel, -topLabel + 1, -1, 0, 1, topLabel - 1, topLabel} {
		for _, prior := range []int{-topPrior, -topPrior + 1, -1, 0, 1, topPrior - 1, topPrior} {
			for _, perm := range [][]int{counted(impl.MaxRows), down, impl.PermOf(5, impl.MaxRows)} {
				list = append(list, labelled{slices.Repeat([]string{"a"}, impl.MaxRows), slices.Repeat([]int{label}, impl.MaxRows), perm, prior})
			}
		}
	}
	for rows := 0; rows <= impl.MaxRows; rows++ {
		for turn := range 6 {
			list = append(list, drawnRows(1+1000*rows+turn, rows))
		}
	}
	return list
}

func TestMaxPrior(t *testing.T) {
	if impl.MaxPrior != 1000000 {
		t.Fatal(impl.MaxPrior)
	}
}

func TestDictOf(t *testing.T) {
	for _, c := range []struct{ words, want []string }{
		{nil, nil}, {[]string{}, nil}, {[]string{""}, []string{""}}, {[]string{"", "", ""}, []string{""}}, {[]string{"a", "b", "a"}, []string{"a", "b"}},
		{[]string{"b", "a", "b", "c", "a"}, []string{"b", "a", "c"}}, {[]string{"ab", "a", "", "ab", "abc", "a"}, []string{"ab", "a", "", "abc"}},
		{[]string{"z", "", "y", "z", ""}, []string{"z", "", "y"}}, {[]string{"A", "a"}, []string{"A", "a"}},
	} {
		if got := impl.DictOf(c.words); !slices.Equal(got, c.want) {
			t.Errorf("DictOf(%q) = %q, not %q", c.words, got, c.want)
		}
	}
	for _, words := range wordLists() {
		// Often, since the order in which a map is gone through would be another one each time.
		for range 5 {
			if got, want := impl.DictOf(words), dictAsTold(words); !slices.Equal(got, want) {
				t.Fatalf("DictOf(%.200q) = %.200q, not %.200q", words, got, want)
			}
		}
	}
}

func TestIdOf(t *testing.T) {
	for _, c := range []struct {
		dict []string
		w    string
		want int
	}{
		{nil, "", -1}, {nil, "a", -1}, {[]string{}, "", -1}, {[]string{""}, "", 0}, {[]string{"a"}, "", -1}, {[]string{"a", ""}, "", 1},
		{[]string{"a", "b"}, "a", 0}, {[]string{"a", "b"}, "b", 1}, {[]string{"a", "b"}, "c", -1}, {[]string{"a", "b"}, "A", -1}, {[]string{"a", "b"}, "a ", -1},
		{[]string{"abc", "ab", "a"}, "a", 2}, {[]string{"abc", "ab", "a"}, "ab", 1}, {[]string{"abc", "ab"}, "a", -1}, {[]string{"a", "ab"}, "abc", -1},
		{[]string{"x", "a", "b", "a", "a"}, "a", 1}, {[]string{"b", "b", "b"}, "b", 0}, {[]string{"x", "", ""}, "", 1}, {[]string{"a"}, "a\x00", -1},
		{differentWords(1000), differentWords(1000)[999], 999}, {differentWords(1000), "w", -1},
	} {
		if got := impl.IdOf(c.dict, c.w); got != c.want {
			t.Errorf("IdOf(%.200q, %q) = %d, not %d", c.dict, c.w, got, c.want)
		}
	}
	for _, words := range wordLists() {
		dict := impl.DictOf(words)
		for i, w := range words {
			id := impl.IdOf(dict, w)
			if id < 0 || dict[id] != w || slices.Index(dict, w) != id || impl.IdOf(words, w) > i {
				t.Fatalf("IdOf(%.200q, %.40q) = %d", dict, w, id)
			}
		}
		for i, w := range dict {
			if impl.IdOf(dict, w) != i {
				t.Fatalf("%.40q stands twice in %.200q", w, dict)
			}
		}
		if got := impl.IdOf(dict, "no such word"); got != -1 {
			t.Errorf("IdOf(%.200q, ..) = %d", dict, got)
		}
	}
}

func TestIdOfReadsNothingBehindTheEnd(t *testing.T) {
	room := []string{"a", "b", "c"}
	if got := impl.IdOf(room[:2], "c"); got != -1 {
		t.Error(got)
	}
	if got := impl.IdOf(room[:0], "a"); got != -1 {
		t.Error(got)
	}
}

func TestPaired(t *testing.T) {
	for _, c := range []struct{ a, b, want []string }{
		{nil, nil, nil}, {nil, []string{}, nil}, {[]string{}, nil, nil}, {[]string{"a"}, []string{"x"}, []string{"a+x"}}, {[]string{"x"}, []string{"a"}, []string{"x+a"}},
		{[]string{""}, []string{""}, []string{"+"}}, {[]string{"", "a"}, []string{"b", ""}, []string{"+b", "a+"}}, {[]string{"a", "a"}, []string{"b", "b"}, []string{"a+b", "a+b"}},
		{[]string{"a+", "a"}, []string{"b", "+b"}, []string{"a++b", "a++b"}}, {[]string{"\xff"}, []string{"\n"}, []string{"\xff+\n"}},
		// Lists of two lengths.
		{nil, []string{"a"}, nil}, {[]string{"a"}, nil, nil}, {[]string{""}, []string{}, nil}, {[]string{"a", "b"}, []string{"x"}, nil}, {[]string{"a"}, []string{"x", "y"}, nil},
		{differentWords(41), differentWords(40), nil}, {differentWords(40), differentWords(41), nil},
	} {
		if got := impl.Paired(c.a, c.b); !slices.Equal(got, c.want) {
			t.Errorf("Paired(%q, %q) = %q, not %q", c.a, c.b, got, c.want)
		}
	}
	for _, a := range wordLists() {
		b := slices.Clone(a)
		slices.Reverse(b)
		got := impl.Paired(a, b)
		if len(got) != len(a) {
			t.Fatalf("Paired(%.200q, ..) has %d texts", a, len(got))
		}
		for i := range a {
			if got[i] != strings.Join([]string{a[i], b[i]}, "+") {
				t.Fatalf("Paired(%.40q, %.40q) = %.80q", a[i], b[i], got[i])
			}
		}
		if got := impl.Paired(a, append(b, "")); len(got) != 0 {
			t.Fatalf("Paired of %d and %d words = %.200q", len(a), len(b)+1, got)
		}
	}
}

func TestCtrAt(t *testing.T) {
	abab := []string{"a", "b", "a", "a", "b"}
	up, mixed := counted(5), []int{3, 1, 0, 4, 2}
	for _, c := range []struct {
		words  []string
		labels []int
		perm   []int
		k      int
		prior  int
		want   int
	}{
		{[]string{"a"}, []int{999}, []int{0}, 0, 500, 500}, {[]string{"a"}, []int{999}, []int{0}, 0, -500, -500}, {[]string{""}, []int{999}, []int{0}, 0, 0, 0},
		{abab, []int{10, 20, 30, 40, 50}, up, 0, 6, 6}, {abab, []int{10, 20, 30, 40, 50}, up, 1, 6, 6}, {abab, []int{10, 20, 30, 40, 50}, up, 2, 6, 8},
		{abab, []int{10, 20, 30, 40, 50}, up, 3, 6, 15}, {abab, []int{10, 20, 30, 40, 50}, up, 4, 6, 13},
		{abab, []int{10, 20, 30, 40, 50}, mixed, 0, 6, 6}, {abab, []int{10, 20, 30, 40, 50}, mixed, 1, 6, 6}, {abab, []int{10, 20, 30, 40, 50}, mixed, 2, 6, 23},
		{abab, []int{10, 20, 30, 40, 50}, mixed, 3, 6, 13}, {abab, []int{10, 20, 30, 40, 50}, mixed, 4, 6, 18},
		// Below 0: down, not towards 0.
		{[]string{"a", "a"}, []int{-1, 0}, []int{0, 1}, 1, 0, -1}, {[]string{"a", "a"}, []int{0, 0}, []int{0, 1}, 1, -1, -1}, {[]string{"a", "a"}, []int{-3, 0}, []int{0, 1}, 1, 0, -2},
		{[]string{"a", "a"}, []int{-3, 0}, []int{0, 1}, 1, 1, -1}, {[]string{"a", "a"}, []int{1, 0}, []int{0, 1}, 1, -2, -1}, {[]string{"a", "a"}, []int{3, 0}, []int{0, 1}, 1, 0, 1},
		{abab, []int{-1, 0, 0, 0, 0}, up, 3, 0, -1}, {abab, []int{-1, 0, -2, 0, 0}, up, 3, -1, -2}, {abab, []int{-1, 0, -2, 0, 0}, up, 3, 0, -1}, {abab, []int{-2, 0, -2, 0, 0}, up, 3, -1, -2},
		// One word begins another; these are two.
		{[]string{"a", "ab", ""}, []int{100, 200, 300}, []int{0, 1, 2}, 2, 7, 7}, {[]string{"ab", "a", ""}, []int{100, 200, 300}, []int{0, 1, 2}, 1, 7, 7}, {[]string{"", "a", ""}, []int{100, 200, 300}, []int{0, 1, 2}, 2, 7, 53},
	} {
		if got, ok := impl.CtrAt(c.words, c.labels, c.perm, c.k, c.prior); got != c.want || !ok {
			t.Errorf("CtrAt(%q, %v, %v, %d, %d) = %d, %v, not %d", c.words, c.labels, c.perm, c.k, c.prior, got, ok, c.want)
		}
	}
}

// TestCtrAsTold holds all three against the document's words, and CtrAll against CtrAt.
func TestCtrAsTold(t *testing.T) {
	for _, l := range someLabelled() {
		all, ok := l.all()
		if !ok || len(all) != len(l.words) {
			t.Fatalf("CtrAll of %v: %v, %v", l, all, ok)
		}
		for k, place := range l.perm {
			got, ok := l.at(k)
			if want := l.atAsTold(k); got != want || all[place] != want || !ok {
				t.Fatalf("%v at %d: CtrAt %d, %v, CtrAll %d, not %d", l, k, got, ok, all[place], want)
			}
		}
		for _, w := range append(dictAsTold(l.words), "no such word", "", "a", "abcd") {
			if got, ok := l.of(w); got != l.ofAsTold(w) || !ok {
				t.Fatalf("CtrOf %q of %v: %d, %v, not %d", w, l, got, ok, l.ofAsTold(w))
			}
		}
		for _, k := range []int{-1, -2, math.MinInt, len(l.perm), len(l.perm) + 1, impl.MaxRows, impl.MaxPerm, math.MaxInt} {
			if got, ok := l.at(k); k < 0 || k >= len(l.perm) {
				if got != 0 || ok {
					t.Fatalf("CtrAt of %v, %d: %d, %v", l, k, got, ok)
				}
			}
		}
	}
}

// relabelled: the rows with other labels from k on in the order; which ones, turn tells.
func (l labelled) relabelled(k int, turn int) labelled {
	l.labels = slices.Clone(l.labels)
	for i, place := range l.perm[k:] {
		switch was := l.labels[place]; turn {
		case 0:
			l.labels[place] = topLabel
		case 1:
			l.labels[place] = -topLabel
		case 2:
			l.labels[place] = -was
		case 3: // the row's own alone
			if i == 0 {
				l.labels[place] = (was+1234567)%(2*topLabel+1) - topLabel
			}
		case 4: // those behind it alone
			if i > 0 {
				l.labels[place] = goodLabels()[(k+i)%len(goodLabels())]
			}
		default:
			l.labels[place] = 0
		}
	}
	return l
}

// TestNumbersDoNotHangOnLabelsBehind is promise 4.
func TestNumbersDoNotHangOnLabelsBehind(t *testing.T) {
	for _, l := range someLabelled() {
		all, _ := l.all()
		for k := range l.perm {
			for turn := range 6 {
				other := l.relabelled(k, turn)
				others, ok := other.all()
				if !ok || len(others) != len(all) {
					t.Fatalf("CtrAll of %v: %v, %v", other, others, ok)
				}
				for i := 0; i <= k; i++ {
					got, ok := other.at(i)
					if place := l.perm[i]; got != all[place] || others[place] != all[place] || !ok {
						t.Fatalf("%v at %d: %d, with other labels from %d on CtrAt %d, CtrAll %d", l, i, all[place], k, got, others[place])
					}
				}
			}
		}
	}
}

// TestNumbersHangOnLabelsAhead keeps promise 4 from being met by numbers that hang on no label at all.
func TestNumbersHangOnLabelsAhead(t *testing.T) {
	for _, perm := range [][]int{counted(impl.MaxRows), impl.PermOf(9, impl.MaxRows)} {
		l := labelled{slices.Repeat([]string{"a", "b"}, impl.MaxRows/2), make([]int, impl.MaxRows), perm, 0}
		for k, changed := range perm {
			l.labels = make([]int, impl.MaxRows)
			l.labels[changed] = topLabel
			all, _ := l.all()
			for i, place := range perm {
				if hangs := all[place] != 0; hangs != (i > k && l.words[place] == l.words[changed]) {
					t.Fatalf("the label at %d, the number at %d in the order: %d", k, i, all[place])
				}
			}
		}
	}
}

func TestCtrOf(t *testing.T) {
	words, labels := []string{"a", "", "a", "ab", "", "a"}, []int{-5, 7, 2, 1000, -8, -4}
	for _, c := range []struct {
		w           string
		prior, want int
	}{
		{"a", 0, -2}, {"a", -1, -2}, {"a", -2, -3}, {"a", 7, 0}, {"a", 6, -1}, {"a", 11, 1}, {"", 0, -1}, {"", 1, 0}, {"", -3, -2}, {"ab", 0, 500}, {"ab", 1, 500}, {"ab", -1, 499},
		{"b", 5, 5}, {"b", -5, -5}, {"abc", topPrior, topPrior}, {"A", -topPrior, -topPrior}, {"a\x00", 0, 0},
	} {
		if got, ok := impl.CtrOf(words, labels, c.w, c.prior); got != c.want || !ok {
			t.Errorf("CtrOf(%q, %d) = %d, %v, not %d", c.w, c.prior, got, ok, c.want)
		}
	}
	for _, prior := range []int{-topPrior, -1, 0, 1, topPrior} {
		for _, w := range []string{"", "a"} {
			if got, ok := impl.CtrOf(nil, nil, w, prior); got != prior || !ok {
				t.Errorf("CtrOf of no words, %q, %d: %d, %v", w, prior, got, ok)
			}
		}
	}
}

// TestCtrOfNoWords: there is no place in an empty order, but an empty list of numbers.
func TestCtrOfNoWords(t *testing.T) {
	if got, ok := impl.CtrAll(nil, nil, nil, 5); len(got) != 0 || !ok {
		t.Error(got, ok)
	}
	if got, ok := impl.CtrAll([]string{}, []int{}, []int{}, 5); len(got) != 0 || !ok {
		t.Error(got, ok)
	}
	for _, k := range []int{-1, 0, 1} {
		if got, ok := impl.CtrAt(nil, nil, nil, k, 5); got != 0 || ok {
			t.Error(k, got, ok)
		}
	}
}

// refusedAll looks at every k; byOrder says that the perm alone is wrong, which CtrOf does not ask.
func refusedAll(t *testing.T, l labelled, byOrder bool) {
	t.Helper()
	if got, ok := l.all(); len(got) != 0 || ok {
		t.Fatalf("CtrAll of %.200v: %v, %v", l, got, ok)
	}
	for k := -1; k <= len(l.perm); k++ {
		if got, ok := l.at(k); got != 0 || ok {
			t.Fatalf("CtrAt of %.200v, %d: %d, %v", l, k, got, ok)
		}
	}
	for _, w := range append(slices.Clone(l.words), "", "no such word") {
		got, ok := l.of(w)
		if byOrder && (got != l.ofAsTold(w) || !ok) || !byOrder && (got != 0 || ok) {
			t.Fatalf("CtrOf %q of %.200v: %d, %v", w, l, got, ok)
		}
	}
}

// rightRows of few words: their number is at most MaxRows, where nothing else is asked for.
func rightRows(n int) labelled {
	l := labelled{words: make([]string, n), labels: make([]int, n), perm: counted(n), prior: 3}
	for i := range n {
		l.words[i] = []string{"a", "b", ""}[i%3]
		l.labels[i] = 10 * i
	}
	return l
}

func TestCtrOfTooManyRows(t *testing.T) {
	for n := 0; n <= impl.MaxRows; n++ {
		if got, ok := rightRows(n).all(); len(got) != n || !ok {
			t.Fatalf("CtrAll of %d rows: %v, %v", n, got, ok)
		}
	}
	// Up to MaxPerm, so that the order of them is PermOk; and beyond.
	for _, n := range []int{impl.MaxRows + 1, impl.MaxRows + 2, impl.MaxPerm, impl.MaxPerm + 1, 1000} {
		refusedAll(t, rightRows(n), false)
	}
}

func TestCtrOfWrongLengths(t *testing.T) {
	for _, rows := range []int{0, 1, 2, 5, impl.MaxRows - 1, impl.MaxRows} {
		for _, n := range []int{0, 1, rows - 1, rows + 1, rows + 2, 2 * rows, impl.MaxRows, impl.MaxPerm, 100} {
			if n < 0 || n == rows {
				continue
			}
			l := rightRows(rows)
			l.labels = make([]int, n)
			refusedAll(t, l, false)
			l.perm = counted(n)
			refusedAll(t, l, false)
			l = rightRows(rows)
			l.perm = counted(n)
			refusedAll(t, l, true)
		}
	}
}

func TestCtrOfNoPerms(t *testing.T) {
	for _, p := range noPerms() {
		rows := min(len(p), impl.MaxRows)
		l := rightRows(rows)
		l.perm = p
		refusedAll(t, l, true)
		l.perm = p[:rows]
		if !impl.PermOk(l.perm) {
			refusedAll(t, l, true)
		}
	}
	for _, wrong := range []int{-1, 0, impl.MaxRows, impl.MaxRows + 1, math.MinInt, math.MaxInt} {
		l := rightRows(impl.MaxRows)
		l.perm[impl.MaxRows-1] = wrong
		refusedAll(t, l, true)
	}
}

// TestCtrOfWrongLabels puts the wrong one at each place, be it ahead of the row, behind it, or with another word.
func TestCtrOfWrongLabels(t *testing.T) {
	for _, wrong := range noLabels() {
		for _, rows := range []int{1, 4, impl.MaxRows} {
			for at := range rows {
				l := rightRows(rows)
				l.labels[at] = wrong
				refusedAll(t, l, false)
			}
		}
	}
	// Two whose sum would be right.
	l := rightRows(4)
	l.labels = []int{topLabel + 1, 0, 0, -topLabel - 1}
	refusedAll(t, l, false)
}

func TestCtrOfWrongPriors(t *testing.T) {
	for _, prior := range []int{topPrior + 1, -topPrior - 1, 2 * topPrior, -2 * topPrior, top, -top, math.MaxInt, math.MinInt, math.MinInt + 1} {
		for _, rows := range []int{0, 1, 4, impl.MaxRows} {
			l := rightRows(rows)
			l.prior = prior
			refusedAll(t, l, false)
		}
	}
	for _, prior := range []int{topPrior, -topPrior} {
		l := rightRows(3)
		l.prior = prior
		if got, ok := l.all(); !slices.Equal(got, []int{prior, prior, prior}) || !ok {
			t.Error(prior, got, ok)
		}
	}
}

// wordsInRoom hands words out with spare room behind them, filled so that a write or a read there is seen.
func wordsInRoom(words []string) []string {
	room := append(slices.Clone(words), "a", "", "room")
	return room[:len(words)]
}

func wordsRoomKept(handed []string, words []string) bool {
	return slices.Equal(handed, words) && slices.Equal(handed[:len(words)+3][len(words):], []string{"a", "", "room"})
}

func TestWordsStayAsTheyWere(t *testing.T) {
	for _, words := range wordLists() {
		a, b := wordsInRoom(words), wordsInRoom(words)
		dict, paired := impl.DictOf(a), impl.Paired(a, b)
		id := impl.IdOf(a, "room")
		if !slices.Equal(dict, dictAsTold(words)) || len(paired) != len(words) || id != -1 {
			t.Fatalf("%.200q with room behind: %.200q, %.200q, %d", words, dict, paired, id)
		}
		wipeWords(dict)
		wipeWords(paired)
		if !wordsRoomKept(a, words) || !wordsRoomKept(b, words) {
			t.Fatalf("%.200q was written into: %.200q, %.200q", words, a, b)
		}
		dict, paired = impl.DictOf(a), impl.Paired(a, a)
		wantPaired := slices.Clone(paired)
		wipeWords(a)
		if !slices.Equal(dict, dictAsTold(words)) || !slices.Equal(paired, wantPaired) {
			t.Fatalf("an answer was written through %.200q: %.200q, %.200q", words, dict, paired)
		}
	}
}

func TestLabelledStayAsTheyWere(t *testing.T) {
	for _, l := range append(someLabelled(), rightRows(impl.MaxRows+1), labelled{words: []string{"a"}, labels: []int{topLabel + 1}, perm: []int{1}}) {
		handed := labelled{wordsInRoom(l.words), inRoom(l.labels), inRoom(l.perm), l.prior}
		want, wantOk := l.all()
		for range 2 {
			all, ok := handed.all()
			if !slices.Equal(all, want) || ok != wantOk {
				t.Fatalf("CtrAll of %v with room behind: %v, %v", l, all, ok)
			}
			wipe(all)
			for k := -1; k <= len(l.perm); k++ {
				handed.at(k)
			}
			handed.of("a")
			if !wordsRoomKept(handed.words, l.words) || !roomKept(handed.labels, l.labels) || !roomKept(handed.perm, l.perm) {
				t.Fatalf("%v was written into: %v", l, handed)
			}
		}
		all, _ := handed.all()
		wipeWords(handed.words)
		wipe(handed.labels)
		wipe(handed.perm)
		if !slices.Equal(all, want) {
			t.Fatalf("an answer was written through what was handed in: %v", all)
		}
	}
}

func TestDictWordsAreCopied(t *testing.T) {
	whole := strings.Clone("red green blue red")
	words := strings.Fields(whole)
	dict := impl.DictOf(words)
	if len(dict) != 3 {
		t.Fatal(dict)
	}
	for _, word := range dict {
		if within(word, whole) {
			t.Errorf("the word %q lies within what was handed in", word)
		}
	}
	for _, word := range impl.Paired(words[:2], []string{"", ""}) {
		if within(word, whole) {
			t.Errorf("the text %q lies within what was handed in", word)
		}
	}
}

// TestWordsAskedAcross: no call keeps anything for another one.
func TestWordsAskedAcross(t *testing.T) {
	first, second := rightRows(9), drawnRows(77, 30)
	want, _ := first.all()
	other, _ := second.all()
	for range 3 {
		second.of("a")
		impl.DictOf(second.words)
		got, ok := first.all()
		again, is := second.all()
		if !slices.Equal(got, want) || !slices.Equal(again, other) || !ok || !is {
			t.Fatal(got, again)
		}
	}
}

package tests

import (
	"fmt"
	"regexp"
	"slices"
	"strconv"
	"strings"
	"sync"
	"testing"

	"loop.example/g00566/impl"
)

const jobFolds = 3

var jobForm = regexp.MustCompile(strings.ReplaceAll(`\Aschema N N\nconf N N N N N N N\n((?:model|tell|judge|cross)\n(?:[^\n]*\n)*?)--\n((?:[^\n]*\n)*)\z`, "N", `(0|-?[1-9][0-9]{0,10})`))

func modes() []string {
	return []string{"model", "tell", "judge", "cross"}
}

// parts are what JobParts answers.
type parts struct {
	schema      impl.Schema
	conf        impl.Conf
	first, last string
	ok          bool
}

func partsOf(s string) parts {
	var p parts
	p.schema, p.conf, p.first, p.last, p.ok = impl.JobParts(s)
	return p
}

// partsAsTold goes by the form of the whole text alone.
func partsAsTold(s string) parts {
	found := jobForm.FindStringSubmatch(s)
	if found == nil || len(s) > impl.MaxJob {
		return parts{}
	}
	var n []int
	for _, digits := range found[1:10] {
		number, _ := strconv.Atoi(digits)
		n = append(n, number)
	}
	return parts{impl.Schema{Nums: n[0], Cats: n[1]}, impl.Conf{Trees: n[2], Depth: n[3], Most: n[4], Rate: n[5], L2: n[6], Prior: n[7], Seed: n[8]}, found[10], found[11], true}
}

func confLine(c impl.Conf) string {
	return fmt.Sprintf("conf %d %d %d %d %d %d %d\n", c.Trees, c.Depth, c.Most, c.Rate, c.L2, c.Prior, c.Seed)
}

func jobText(s impl.Schema, c impl.Conf, mode string, first string, last string) string {
	return fmt.Sprintf("schema %d %d\n", s.Nums, s.Cats) + confLine(c) + mode + "\n" + first + "--\n" + last
}

// tablesJob has the texts of two tables of one schema.
func tablesJob(c impl.Conf, mode string, first impl.Table, second impl.Table) string {
	return jobText(first.S, c, mode, impl.TableText(first), impl.TableText(second))
}

// faultLine is what a job answers that can't be done, and whether it is one.
func faultLine(p parts) (string, bool) {
	if !p.ok {
		return "no job\n", true
	}
	if !impl.ConfOk(p.conf) {
		return "conf\n", true
	}
	_, first, _ := strings.Cut(p.first, "\n")
	for i, text := range []string{first, p.last} {
		if _, line, code := impl.TableRead(p.schema, text); code != impl.TbOK {
			return fmt.Sprintf("table %d %d %d\n", i+1, line, code), true
		}
	}
	return "", false
}

// tablesOf reads both tables of a job that has no fault, and its mode.
func tablesOf(p parts) (string, impl.Table, impl.Table) {
	mode, text, _ := strings.Cut(p.first, "\n")
	first, _, _ := impl.TableRead(p.schema, text)
	second, _, _ := impl.TableRead(p.schema, p.last)
	return mode, first, second
}

// runByChapters is what the functions of the chapters ahead say.
func runByChapters(s string) string {
	p := partsAsTold(s)
	if line, is := faultLine(p); is {
		return line
	}
	mode, first, second := tablesOf(p)
	m, _ := impl.Train(first, p.conf)
	switch mode {
	case "model":
		if text := impl.ModelText(m); text != "" {
			return text
		}
		return "too long\n"
	case "tell":
		answer := ""
		for _, x := range second.Rows {
			told, _ := impl.Predict(m, x)
			answer += impl.FixText(told) + "\n"
		}
		return answer
	case "judge":
		off, _ := impl.OffOf(m, second)
		best, _ := impl.BestCut(m, second)
		return "off " + impl.NumText(off) + "\nbest " + impl.NumText(best) + "\n"
	}
	off, _ := impl.CrossOff(first, p.conf, jobFolds)
	return "off " + impl.NumText(off) + "\n"
}

// fixAsTold writes thousandths by the digits of their number.
func fixAsTold(x int) string {
	sign := ""
	if x < 0 {
		sign, x = "-", -x
	}
	digits := fmt.Sprintf("%04d", x)
	return sign + digits[:len(digits)-3] + "." + digits[len(digits)-3:]
}

// runAsTold is worked out apart from the program, of a job that has no fault.
func runAsTold(s string) string {
	p := partsAsTold(s)
	mode, first, second := tablesOf(p)
	m := trainAsTold(first, p.conf)
	switch mode {
	case "model":
		return textAsTold(m)
	case "tell":
		answer := ""
		for _, x := range second.Rows {
			answer += fixAsTold(stagedAsTold(m, x)[len(m.Trees)]) + "\n"
		}
		return answer
	case "judge":
		offs := stageOffsAsTold(m, second)
		return fmt.Sprintf("off %d\nbest %d\n", offs[len(m.Trees)], slices.Index(offs, slices.Min(offs)))
	}
	return fmt.Sprintf("off %d\n", crossAsTold(first, p.conf, jobFolds))
}

func runIs(t *testing.T, s string, want string) {
	t.Helper()
	if got := impl.JobRun(s); got != want {
		t.Fatalf("JobRun(%.400q) = %.400q, not %.400q", s, got, want)
	}
}

func isJob(t *testing.T, s string, want parts) {
	t.Helper()
	want.ok = true
	if got := partsOf(s); got != want {
		t.Fatalf("JobParts(%.400q) = %.600v, not %.600v", s, got, want)
	}
	runIs(t, s, runByChapters(s))
	if impl.JobRun(s) == "no job\n" {
		t.Fatalf("JobRun(%.400q) says that it is no job", s)
	}
}

func isNoJob(t *testing.T, s string) {
	t.Helper()
	if got := partsOf(s); got != (parts{}) {
		t.Fatalf("JobParts(%.400q) = %.600v", s, got)
	}
	runIs(t, s, "no job\n")
}

// isJobAsTold: whether it is one, the form of the whole text tells.
func isJobAsTold(t *testing.T, s string) bool {
	t.Helper()
	want := partsAsTold(s)
	if want.ok {
		isJob(t, s, want)
	} else {
		isNoJob(t, s)
	}
	return want.ok
}

func TestMaxJob(t *testing.T) {
	if impl.MaxJob != 9000 {
		t.Fatal(impl.MaxJob)
	}
}

// TestJobParts: a job of each mode, each number at a place of its own.
func TestJobParts(t *testing.T) {
	for _, mode := range modes() {
		got := partsOf("schema 8 9\nconf 1 2 3 4 5 6 7\n" + mode + "\n1.000,a\nx y\n--\n2.000\n,\nz\n")
		want := parts{impl.Schema{Nums: 8, Cats: 9}, impl.Conf{Trees: 1, Depth: 2, Most: 3, Rate: 4, L2: 5, Prior: 6, Seed: 7}, mode + "\n1.000,a\nx y\n", "2.000\n,\nz\n", true}
		if got != want {
			t.Errorf("JobParts of %s: %v, not %v", mode, got, want)
		}
		got = partsOf("schema -8 0\nconf -1 -20 -300 0 -50000 -6 -99999999999\n" + mode + "\n--\n")
		want = parts{impl.Schema{Nums: -8}, impl.Conf{Trees: -1, Depth: -20, Most: -300, L2: -50000, Prior: -6, Seed: -99999999999}, mode + "\n", "", true}
		if got != want {
			t.Errorf("JobParts of %s: %v, not %v", mode, got, want)
		}
	}
}

// TestJobPartsOfLines: which lines are ahead of the first `--` and which behind it, whatever they are.
func TestJobPartsOfLines(t *testing.T) {
	s, c := impl.Schema{Nums: 1}, midConf()
	for _, list := range []struct{ first, last string }{
		{"", ""}, {"x\n", ""}, {"", "y\n"}, {"x\n", "y\n"}, {"a\nb\nc\n", ""}, {"", "a\nb\nc\n"},
		// A further `--`.
		{"", "--\n"}, {"", "--\n--\n"}, {"x\n", "--\n"}, {"x\n", "--\ny\n"}, {"x\n", "y\n--\n"}, {"x\n", "y\n--\nz\n--\n"}, {"", "--\n\n--\n"},
		// Empty lines.
		{"\n", ""}, {"", "\n"}, {"\n", "\n"}, {"\n\n", "\n\n\n"}, {"x\n\n", "\ny\n"}, {"\nx\n", "y\n\n"}, {"a\n\nb\n", "c\n\nd\n"},
		// Lines that are but like `--`, or like the lines of a job.
		{"-\n", "-\n"}, {"---\n", "---\n"}, {"-- \n", "-- \n"}, {" --\n", " --\n"}, {"--\r\n", "--\r\n"}, {"\t--\n--\t\n", ""}, {"x--\n--x\n", "y--\n"}, {"- -\n", ""}, {"--,\n", ""}, {"--\x00\n", ""}, {"----\n", ""}, {"\\--\n", ""}, {"\u2014\n", "\u2014\n"},
		{"tell\n", "tell\n"}, {"model\njudge\n", "cross\n"}, {"schema 1 0\nconf 1 1 3 1000 1 0 1\ntell\n", "schema 1 0\nconf 1 1 3 1000 1 0 1\ntell\n--\n"},
		// Whatever bytes.
		{"\x00\n", "\x00\n"}, {"\xff\xfe\n", "\x80\n"}, {"\r\n\r\n", "\r\n"}, {"\u00e9\u2028\n", "\v\f\u0085\n"}, {" \n", "\t\n"},
	} {
		for _, mode := range modes() {
			isJob(t, jobText(s, c, mode, list.first, list.last), parts{schema: s, conf: c, first: mode + "\n" + list.first, last: list.last})
		}
	}
}

// jobWith puts a word at a place among the nine of a job's numbers.
func jobWith(place int, word string) string {
	words := strings.Fields("1 0 1 1 3 1000 1 0 1")
	words[place] = word
	return "schema " + strings.Join(words[:2], " ") + "\nconf " + strings.Join(words[2:], " ") + "\ntell\n0.000,1.000\n--\n2.000,1.000\n"
}

// TestNumbersOfJobs: at each place, of up to eleven digits.
func TestNumbersOfJobs(t *testing.T) {
	for place := range 9 {
		for _, n := range []int{0, 1, -1, 7, 9, 10, -10, 100, 1000, -1000, 1000001, 2147483647, 4294967296, -4294967296, 9999999999, 10000000000, -10000000000, 12345678901, 99999999999, -99999999999} {
			s := jobWith(place, strconv.Itoa(n))
			p := partsOf(s)
			got := []int{p.schema.Nums, p.schema.Cats, p.conf.Trees, p.conf.Depth, p.conf.Most, p.conf.Rate, p.conf.L2, p.conf.Prior, p.conf.Seed}
			want := []int{1, 0, 1, 1, 3, 1000, 1, 0, 1}
			want[place] = n
			if !p.ok || !slices.Equal(got, want) {
				t.Fatalf("JobParts(%q) has %v, not %v", s, got, want)
			}
			runIs(t, s, runByChapters(s))
		}
		for _, word := range []string{"100000000000", "-100000000000", "999999999999", "-999999999999", "123456789012", "000000000001", "00000000001", "-00000000001", "+99999999999", "+9999999999", "099999999999", "09999999999", "-099999999999", "00000000000", "000000000000", "-000"} {
			isNoJob(t, jobWith(place, word))
		}
	}
}

// TestNumbersOfJobsWrittenOtherwise: among them an empty word, and words that are two.
func TestNumbersOfJobsWrittenOtherwise(t *testing.T) {
	for place := range 9 {
		for _, number := range []string{"0", "1", "-1", "12345678901", "-99999999999"} {
			if !isJobAsTold(t, jobWith(place, number)) {
				t.Fatalf("%q", number)
			}
			for _, other := range wrongNumbers(number) {
				s := jobWith(place, other)
				if isJobAsTold(t, s) && other != "99999999999" && other != "-99999999999" {
					t.Errorf("JobParts(%.200q) is true", s)
				}
			}
		}
	}
}

func capital(word string) string {
	return strings.ToUpper(word[:1]) + word[1:]
}

// TestWordsOfJobs: a word too few, a word too many, and blanks where none are due.
func TestWordsOfJobs(t *testing.T) {
	behind := "tell\n0.000,1.000\n--\n"
	for _, line := range []struct{ name, numbers string }{{"schema", "1 0"}, {"conf", "1 1 3 1000 1 0 1"}} {
		job := func(text string) string {
			if line.name == "schema" {
				return text + "conf 1 1 3 1000 1 0 1\n" + behind
			}
			return "schema 1 0\n" + text + behind
		}
		right := line.name + " " + line.numbers
		if !isJobAsTold(t, job(right+"\n")) {
			t.Fatal(right)
		}
		isNoJob(t, job(line.numbers+"\n"))
		isNoJob(t, job(line.name+"\n"))
		isNoJob(t, job(line.name+" \n"))
		isNoJob(t, job("\n"))
		for at := range len(right) + 1 {
			for _, sign := range []string{" ", "\t", "\r", "\x00", "\xff", "\u00a0", ",", ";", "+", "\n"} {
				isNoJob(t, job(right[:at]+sign+right[at:]+"\n"))
			}
			if at < len(right) && right[at] == ' ' {
				for _, sign := range []string{"", "  ", "\t", "\n", ",", " \n", "\n ", " 1 ", " -1 ", " x ", "\u00a0", "\v"} {
					isNoJob(t, job(right[:at]+sign+right[at+1:]+"\n"))
				}
			}
		}
		for _, end := range []string{" ", "  ", " 1", " 0", " -1", " x", " 1 1", "\t", "\r", " #", ","} {
			isNoJob(t, job(right+end+"\n"))
		}
		for _, name := range []string{"", " ", "x", strings.ToUpper(line.name), capital(line.name), line.name + "s", line.name + ":", line.name[1:], line.name[:len(line.name)-1], line.name + line.name, line.name + " " + line.name, "model", "tell", "--", "schemaconf", "\ufeff" + line.name} {
			isNoJob(t, job(name+" "+line.numbers+"\n"))
		}
		words := strings.Split(right, " ")
		for at := range words {
			isNoJob(t, job(strings.Join(slices.Delete(slices.Clone(words), at, at+1), " ")+"\n"))
			isNoJob(t, job(strings.Join(slices.Insert(slices.Clone(words), at, words[at]), " ")+"\n"))
		}
	}
}

// TestModesOfJobs: none but the four, and nothing beside them in their line.
func TestModesOfJobs(t *testing.T) {
	head, tables := "schema 1 0\nconf 1 1 3 1000 1 0 1\n", "0.000,1.000\n--\n2.000,1.000\n"
	for _, mode := range modes() {
		if !isJobAsTold(t, head+mode+"\n"+tables) {
			t.Fatal(mode)
		}
		for _, other := range []string{mode + " ", " " + mode, mode + "\t", mode + "\r", mode + "\x00", mode + " 1", mode + " x", mode + " " + mode, mode + "," + mode, mode + mode, strings.ToUpper(mode), capital(mode), mode[1:], mode[:len(mode)-1], mode + "s", mode + ":", "\n" + mode, mode + "--", "-" + mode, "--" + mode, "--\n" + mode, "\ufeff" + mode} {
			isNoJob(t, head+other+"\n"+tables)
			isNoJob(t, head+other+"\n--\n")
		}
		isNoJob(t, head+mode+tables)
		isNoJob(t, head+mode+"--\n")
		isNoJob(t, head+mode+" --\n")
	}
	for _, other := range []string{"", " ", "x", "run", "train", "predict", "off", "best", "sum", "tree", "ctr", "table", "schema", "conf", "0", "1", "-", "--", "---", "\x00", "\xff", "mode", "modeltell", "tell\x00model"} {
		isNoJob(t, head+other+"\n"+tables)
		isNoJob(t, head+other+"\n--\n")
		isNoJob(t, head+other+"\n--\n--\n")
	}
	isNoJob(t, head+tables)
	isNoJob(t, head+"--\n")
	isNoJob(t, head+"--\ntell\n--\n")
}

// eachOrder goes through all orders of the lines.
func eachOrder(lines []string, ahead []string, look func(lines []string)) {
	if len(lines) == 0 {
		look(ahead)
	}
	for at := range lines {
		eachOrder(slices.Delete(slices.Clone(lines), at, at+1), append(slices.Clone(ahead), lines[at]), look)
	}
}

// TestLinesOfJobs: in another order, left out, twice, and with one between.
func TestLinesOfJobs(t *testing.T) {
	for _, mode := range modes() {
		lines := []string{"schema 1 0\n", "conf 1 1 3 1000 1 0 1\n", mode + "\n", "0.000,1.000\n", "--\n", "2.000,1.000\n"}
		right := 0
		eachOrder(lines, nil, func(other []string) {
			inOrder := slices.Equal(other[:3], lines[:3])
			if is := isJobAsTold(t, strings.Join(other, "")); is != inOrder {
				t.Errorf("%q: %v", other, is)
			}
			if inOrder {
				right++
			}
		})
		if right != 6 {
			t.Errorf("%d orders are right", right)
		}
		for at, line := range lines {
			without := strings.Join(slices.Delete(slices.Clone(lines), at, at+1), "")
			if is := isJobAsTold(t, without); is != (line == lines[3] || line == lines[5]) {
				t.Errorf("%q: %v", without, is)
			}
			for _, between := range append([]string{"\n", " \n", "x\n", "--\n", "tell\n", "schema 1 0\n", "# x\n"}, lines...) {
				with := strings.Join(slices.Insert(slices.Clone(lines), at, between), "")
				// Ahead of the mode nothing may be put but the mode itself, which is then a line of the table.
				if is := isJobAsTold(t, with); is != (at > 2 || at == 2 && slices.Contains(modes(), strings.TrimSuffix(between, "\n"))) {
					t.Errorf("%q: %v", with, is)
				}
			}
		}
	}
}

// TestJobsWithoutAnEnd: each beginning of a job, each end of it, and each job with a line that is not ended.
func TestJobsWithoutAnEnd(t *testing.T) {
	isNoJob(t, "")
	for _, list := range []struct{ first, last string }{{"", ""}, {"0.000,1.000\n", ""}, {"", "0.000,1.000\n"}, {"0.000,1.000\n2.000,-1.000\n", "5.000,0.000\n--\n"}, {"\n\n", "\n\n"}} {
		for _, mode := range modes() {
			s := jobText(impl.Schema{Nums: 1}, learnConf(1, 1, 1000), mode, list.first, list.last)
			divided := strings.Index(s, "\n--\n") + len("\n--\n")
			for n := range len(s) + 1 {
				if is := isJobAsTold(t, s[:n]); is != (n >= divided && s[n-1] == '\n') {
					t.Errorf("%q: %v", s[:n], is)
				}
				if n > 0 {
					isNoJob(t, s[n:])
				}
			}
			for _, behind := range []string{"x", " ", "\x00", "\r", "--", "-", "0.000,1.000", "x\ny", "--\n--"} {
				isNoJob(t, s+behind)
			}
			isNoJob(t, strings.ReplaceAll(s, "\n", "\r\n"))
			isNoJob(t, strings.ReplaceAll(s, "\n", "\r"))
			isNoJob(t, strings.ReplaceAll(s, "\n", "\n\n"))
			isNoJob(t, strings.ReplaceAll(s, "--", "-"))
			isNoJob(t, strings.ReplaceAll(s, "--\n", "-- \n"))
		}
	}
	for _, s := range []string{"x", "\n", "\n\n\n\n", "--", "--\n", "\n--\n", "--\n--\n--\n--\n", "schema", "schema 1 0", "schema 1 0\n", "no job\n", "tell\n--\n", "\x00", "\xff\n", "schema 1 0\nconf 1 1 3 1000 1 0 1\n", "schema 1 0\nconf 1 1 3 1000 1 0 1\ntell\n", "schema 1 0\nconf 1 1 3 1000 1 0 1\ntell\n--", "schema 1 0 conf 1 1 3 1000 1 0 1 tell -- \n"} {
		isNoJob(t, s)
	}
}

// TestJobsAtTheLimit: of just MaxJob bytes, and of one more; wherever they are.
func TestJobsAtTheLimit(t *testing.T) {
	s, c := impl.Schema{Nums: 1}, midConf()
	for _, mode := range modes() {
		least := len(jobText(s, c, mode, "", ""))
		room := impl.MaxJob - least
		for _, n := range []int{room - 1, room, room + 1, room + 2, 2 * room} {
			half := n / 2
			for _, list := range []struct{ first, last string }{
				{strings.Repeat("\n", n), ""}, {"", strings.Repeat("\n", n)}, {strings.Repeat("\n", half), strings.Repeat("\n", n-half)},
				{strings.Repeat("x", n-1) + "\n", ""}, {"", strings.Repeat("x", n-1) + "\n"}, {strings.Repeat("-", n-1) + "\n", ""}, {"", strings.Repeat(" ", n-1) + "\n"},
				{"x\n", strings.Repeat("--\n", n)[:n-3] + "\n"}, {strings.Repeat("0.000,1.000\n", 40), strings.Repeat("\x00", n-481) + "\n"},
			} {
				text := jobText(s, c, mode, list.first, list.last)
				if len(text) != least+n {
					t.Fatalf("%d bytes", len(text))
				}
				if n > room {
					isNoJob(t, text)
				} else {
					isJob(t, text, parts{schema: s, conf: c, first: mode + "\n" + list.first, last: list.last})
				}
			}
		}
	}
	isNoJob(t, strings.Repeat("\n", impl.MaxJob))
	isNoJob(t, strings.Repeat("schema 1 0\n", 100000))
	isNoJob(t, strings.Repeat("x", 1000000))
	isNoJob(t, "schema "+strings.Repeat("1 ", 4000)+"\n")
	isNoJob(t, "schema "+strings.Repeat("1", 8000)+" 0\nconf 1 1 3 1000 1 0 1\ntell\n--\n")
}

// TestDrawnJobs: a few pieces of right jobs changed by chance.
func TestDrawnJobs(t *testing.T) {
	seed, right := 1, 0
	below := func(n int) int {
		var number int
		number, seed = belowAsTold(seed, n)
		return number
	}
	pieces := []string{"", " ", "\n", "\n", "--\n", "--\n", "-", "0", "1", "-1", "+", "9", "99999999999", "x", ",", "tell\n", "model\n", "schema 1 0\n", "0.000,1.000\n", "1.000,a,1.000\n", "\r", "\x00"}
	for turn := range 20000 {
		table := drawnTable(1+turn%50, impl.Schema{Nums: 1}, turn%3)
		text := tablesJob(learnConf(1, 1, 1000), modes()[turn%4], table, table)
		for range 1 + below(2) {
			at := below(len(text) + 1)
			text = text[:at] + pieces[below(len(pieces))] + text[min(len(text), at+below(3)):]
		}
		if isJobAsTold(t, text) {
			right++
		}
	}
	if right < 3000 || right > 17000 {
		t.Errorf("%d were right", right)
	}
}

// TestJobsOfOtherConfs: ahead of whatever is wrong with the tables and the schema.
func TestJobsOfOtherConfs(t *testing.T) {
	digits := func(n int) int { return len(strings.TrimPrefix(strconv.Itoa(n), "-")) }
	seen := 0
	for i, c := range noConfs() {
		mode := modes()[i%4]
		want := "conf\n"
		for _, n := range []int{c.Trees, c.Depth, c.Most, c.Rate, c.L2, c.Prior, c.Seed} {
			if digits(n) > 11 {
				want = "no job\n"
			}
		}
		if want == "conf\n" {
			seen++
		}
		for _, list := range []struct{ first, last string }{{"", ""}, {"0.000,1.000\n", "2.000,1.000\n"}, {"x\n", ""}, {"", "x\n"}, {strings.Repeat("\n", 6001), ""}, {"", strings.Repeat("\n", 6001)}} {
			runIs(t, jobText(impl.Schema{Nums: 1}, c, mode, list.first, list.last), want)
			runIs(t, jobText(impl.Schema{Nums: 4}, c, mode, list.first, list.last), want)
			runIs(t, jobText(impl.Schema{Cats: -1}, c, mode, list.first, list.last), want)
		}
	}
	if seen < 40 {
		t.Errorf("but %d settings could be asked", seen)
	}
	for _, line := range []string{"13 1 3 1000 1 0 1", "-1 1 3 1000 1 0 1", "1 5 3 1000 1 0 1", "1 -1 3 1000 1 0 1", "1 1 0 1000 1 0 1", "1 1 13 1000 1 0 1", "1 1 3 0 1 0 1", "1 1 3 1001 1 0 1", "1 1 3 1000 0 0 1", "1 1 3 1000 1001 0 1", "1 1 3 1000 1 1000001 1", "1 1 3 1000 1 -1000001 1", "1 1 3 1000 1 0 0", "1 1 3 1000 1 0 -1", "1 1 3 1000 1 0 2147483647", "0 0 0 0 0 0 0", "99999999999 1 3 1000 1 0 1"} {
		for _, mode := range modes() {
			runIs(t, "schema 1 0\nconf "+line+"\n"+mode+"\n0.000,1.000\n--\n0.000,1.000\n", "conf\n")
		}
	}
	for _, c := range goodConfs() {
		runIs(t, jobText(impl.Schema{Nums: 1}, c, "tell", "0.000,1.000\n", "2.000,0.000\n"), "1.000\n")
	}
}

// TestJobsOfFaultyTables: each kind of fault that an ended line can have, with the line in its own table's text.
func TestJobsOfFaultyTables(t *testing.T) {
	s, c := impl.Schema{Nums: 1, Cats: 1}, midConf()
	row := "1.500,red,1.000\n"
	for _, fault := range []struct {
		text       string
		line, code int
	}{
		{"1.500,red\n", 1, impl.TbCount}, {"\n", 1, impl.TbCount}, {"x\n", 1, impl.TbCount}, {row + "1.500,red,1.000,1.000\n", 2, impl.TbCount}, {row + row + "\n" + row, 3, impl.TbCount}, {row + "\n", 2, impl.TbCount}, {"tell\n", 1, impl.TbCount},
		{"1.5,red,1.000\n", 1, impl.TbNum}, {row + "x,red,1.000\n", 2, impl.TbNum}, {strings.Repeat(row, 6) + "-0.000,red,1.000\n" + row, 7, impl.TbNum}, {row + "1000000.001,red,1.000\n", 2, impl.TbNum},
		{"1.500,Red,1.000\n", 1, impl.TbWord}, {row + "1.500,,1.000\n", 2, impl.TbWord}, {row + row + row + "1.500,abcdefghijklm,1.000\n", 4, impl.TbWord},
		{"1.500,red,1\n", 1, impl.TbLabel}, {row + "1.500,red,1000.001\n", 2, impl.TbLabel}, {row + "1.500,red,-1000.001\n", 2, impl.TbLabel}, {row + row + "1.500,red,\n", 3, impl.TbLabel}, {row + "1.500,red,1.000\r\n", 2, impl.TbLabel},
		{strings.Repeat(row, 41), 41, impl.TbMany}, {strings.Repeat(row, 45), 41, impl.TbMany}, {strings.Repeat(row, 41) + "x\n", 41, impl.TbMany}, {strings.Repeat(row, 40) + "x\n", 41, impl.TbCount}, {strings.Repeat(row, 39) + "1.500,RED,1.000\n" + row, 40, impl.TbWord},
		{strings.Repeat("x", 6000) + "\n", 0, impl.TbLong}, {strings.Repeat("\n", 6001), 0, impl.TbLong}, {strings.Repeat("x", 5999) + "\n", 1, impl.TbCount}, {strings.Repeat("\n", 6000), 1, impl.TbCount},
		// The first fault of several.
		{"1.500,red,x\n1.500,red\n", 1, impl.TbLabel}, {"x,X,x\n", 1, impl.TbNum}, {row + "1.500,X,x\n" + "x\n", 2, impl.TbWord},
	} {
		tail := fmt.Sprintf(" %d %d\n", fault.line, fault.code)
		for _, mode := range modes() {
			for _, right := range []string{"", row, row + row, strings.Repeat(row, 40)} {
				runIs(t, jobText(s, c, mode, fault.text, right), "table 1"+tail)
				runIs(t, jobText(s, c, mode, right, fault.text), "table 2"+tail)
			}
			// Both at fault, as far as there is room for both.
			for _, other := range []string{"x\n", row + row + "\n", "\n", "1.500,Red,1.000\n", strings.Repeat(row, 41), "--x\n"} {
				runIs(t, jobText(s, c, mode, fault.text, other), "table 1"+tail)
				_, line, code := impl.TableRead(s, other)
				runIs(t, jobText(s, c, mode, other, fault.text), fmt.Sprintf("table 1 %d %d\n", line, code))
			}
		}
	}
}

// TestJobsOfLongTables: the mode's line is no part of the first table's text, and `--` of neither.
func TestJobsOfLongTables(t *testing.T) {
	c, row := midConf(), "0.000\n"
	most := strings.Repeat(row, 1000) // MaxCsv bytes
	for _, mode := range modes() {
		runIs(t, jobText(impl.Schema{}, c, mode, most, ""), "table 1 41 7\n")
		runIs(t, jobText(impl.Schema{}, c, mode, "", most), "table 2 41 7\n")
		runIs(t, jobText(impl.Schema{}, c, mode, most+"\n", ""), "table 1 0 1\n")
		runIs(t, jobText(impl.Schema{}, c, mode, "", most+"\n"), "table 2 0 1\n")
		runIs(t, jobText(impl.Schema{}, c, mode, most[6:]+"12345\n", row), "table 1 41 7\n")
		runIs(t, jobText(impl.Schema{}, c, mode, most[:5999]+"9\n", row), "table 1 0 1\n")
		runIs(t, jobText(impl.Schema{}, c, mode, row, "--\n"+most[3:]), "table 2 1 6\n")
		runIs(t, jobText(impl.Schema{}, c, mode, row, "--\n"+most[2:]), "table 2 0 1\n")
		runIs(t, jobText(impl.Schema{}, c, mode, row+row, row+"--\n"+row), "table 2 2 6\n")
	}
}

// TestJobsOfOtherSchemas: whatever the tables are, even where they are empty.
func TestJobsOfOtherSchemas(t *testing.T) {
	for i, s := range append(noSchemas(), impl.Schema{Nums: 99999999999, Cats: 99999999999}, impl.Schema{Nums: -99999999999, Cats: 1}) {
		want := "table 1 0 8\n"
		if max(s.Nums, -s.Nums, s.Cats, -s.Cats) > 99999999999 || min(s.Nums, s.Cats) < -99999999999 {
			want = "no job\n"
		}
		for _, list := range []struct{ first, last string }{{"", ""}, {"0.000\n", "0.000\n"}, {"x\n", "x\n"}, {strings.Repeat("\n", 6001), ""}, {"", strings.Repeat("\n", 6001)}} {
			for _, mode := range modes() {
				runIs(t, jobText(s, goodConfs()[i], mode, list.first, list.last), want)
			}
		}
	}
	for _, s := range []string{"-1 0", "0 -1", "4 0", "0 3", "3 3", "4 2", "1 100"} {
		for _, mode := range modes() {
			runIs(t, "schema "+s+"\nconf 1 1 3 1000 1 0 1\n"+mode+"\n--\n", "table 1 0 8\n")
		}
	}
}

// TestJobRun: worked out by hand.
func TestJobRun(t *testing.T) {
	head := func(s string, conf string) string { return "schema " + s + "\nconf " + conf + "\n" }
	// Without a tree all are told the mean of the first table.
	bare := head("0 0", "0 0 1 1000 1 0 1")
	runIs(t, bare+"tell\n0.010\n0.020\n0.060\n--\n0.000\n9.000\n", "0.030\n0.030\n")
	runIs(t, bare+"judge\n0.010\n0.020\n0.060\n--\n0.000\n9.000\n", "off 9000\nbest 0\n")
	runIs(t, bare+"cross\n0.010\n0.020\n0.060\n--\n0.000\n9.000\n", "off 90\n")
	runIs(t, bare+"model\n0.010\n0.020\n0.060\n--\n0.000\n9.000\n", summed("model 0 0 0 30\n"))
	runIs(t, bare+"tell\n-0.001\n0.000\n--\n0.000\n", "-0.001\n")
	// No rows to learn from, and none to tell of.
	for _, s := range []string{"0 0", "1 0", "3 0"} {
		runIs(t, head(s, "2 1 3 1000 1 5 1")+"tell\n--\n", "")
		runIs(t, head(s, "2 1 3 1000 1 5 1")+"judge\n--\n", "off 0\nbest 0\n")
		runIs(t, head(s, "2 1 3 1000 1 5 1")+"cross\n--\n", "off 0\n")
		runIs(t, head(s, "2 1 3 1000 1 5 1")+"model\n--\n", summed("model "+s+" 5 0\ntree : 0\ntree : 0\n"))
	}
	runIs(t, head("1 2", "0 1 3 1000 1 5 1")+"model\n--\n", summed("model 1 2 5 0\nctr 0\nctr 0\nctr 0\n"))
	runIs(t, head("1 2", "0 1 3 1000 1 5 1")+"tell\n--\n1.000,a,b,5.000\n", "0.000\n")
	runIs(t, head("1 2", "0 1 3 1000 1 5 1")+"judge\n--\n1.000,a,b,-5.000\n", "off 5000\nbest 0\n")
	// Each tree takes half of what is still wrong by an L2 that is as many as the rows of a leaf.
	one := head("1 0", "2 1 3 1000 1 0 1")
	rows := "0.000,-1.000\n2.000,1.000\n--\n0.000,-1.000\n0.001,1.000\n-7.000,-0.750\n"
	runIs(t, one+"model\n"+rows, summed("model 1 0 0 0\ntree 0 0 : -500 500\ntree 0 0 : -250 250\n"))
	runIs(t, one+"tell\n"+rows, "-0.750\n0.750\n-0.750\n")
	runIs(t, one+"judge\n"+rows, "off 500\nbest 2\n")
	runIs(t, one+"cross\n"+rows, "off 4000\n")
	// The first of several that are as little wrong.
	runIs(t, one+"judge\n0.000,-1.000\n2.000,1.000\n--\n0.000,-0.500\n", "off 250\nbest 1\n")
	runIs(t, one+"judge\n0.000,-1.000\n2.000,1.000\n--\n0.000,-0.625\n", "off 125\nbest 1\n")
	runIs(t, one+"judge\n0.000,-1.000\n2.000,1.000\n--\n", "off 0\nbest 0\n")
	// A word: the rows are in the order 1, 0, so that they come to 1505 and 10.
	words := head("0 1", "1 1 3 1000 1 10 1")
	runIs(t, words+"model\na,1.000\na,3.000\n--\n", summed("model 0 1 10 2000\nctr 1\n1336 a\ntree 0 10 : 500 -500\n"))
	runIs(t, words+"tell\na,1.000\na,3.000\n--\na,0.000\nb,0.000\n", "1.500\n2.500\n")
	runIs(t, words+"judge\na,1.000\na,3.000\n--\na,0.000\nb,3.000\n", "off 2000\nbest 1\n")
}

// someJobs: right ones, of tables of each schema with few rows and many, and of settings of all kinds.
func someJobs() []string {
	var list []string
	confs := goodConfs()
	for i, s := range allSchemas() {
		for j, rows := range []int{0, 1, 2, 3, 4, 17, impl.MaxRows} {
			for turn, others := range []int{0, 1, 9, impl.MaxRows} {
				c := confs[(31*i+7*j+3*turn)%len(confs)]
				first, second := drawnTable(3+i+2*rows+turn, s, rows), drawnTable(5+i+others+3*j, s, others)
				if turn == 1 {
					first, second = tableOf(s, rows), tableOf(s, others)
				}
				for _, mode := range modes() {
					list = append(list, tablesJob(c, mode, first, second))
				}
			}
		}
	}
	return list
}

// TestRightJobs is promise 13: what a job answers is what the chapters ahead answer, each line ended.
func TestRightJobs(t *testing.T) {
	for _, s := range someJobs() {
		want := runByChapters(s)
		runIs(t, s, want)
		if _, fault := faultLine(partsAsTold(s)); fault || want != "" && !strings.HasSuffix(want, "\n") {
			t.Fatalf("JobRun(%.400q) = %.400q", s, want)
		}
	}
}

// TestRightJobsAsTold: the same, from models, stages and folds worked out apart from the program.
func TestRightJobsAsTold(t *testing.T) {
	for _, s := range someJobs() {
		runIs(t, s, runAsTold(s))
	}
}

// TestLinesOfAnswers: how many there are, and what each is like.
func TestLinesOfAnswers(t *testing.T) {
	told, off := regexp.MustCompile(`\A-?(0|[1-9][0-9]*)\.[0-9]{3}\n\z`), regexp.MustCompile(`\Aoff (0|[1-9][0-9]*)\n\z`)
	judged := regexp.MustCompile(`\Aoff (0|[1-9][0-9]*)\nbest ([0-9]|1[0-2])\n\z`)
	for _, s := range someJobs() {
		mode, first, second := tablesOf(partsAsTold(s))
		answer := impl.JobRun(s)
		right := true
		switch mode {
		case "model":
			m, ok := impl.ModelRead(answer)
			right = ok && m.S == first.S
		case "tell":
			lines := linesOf(answer)
			right = len(lines) == len(second.Rows) && strings.Join(lines, "") == answer
			for _, line := range lines {
				right = right && told.MatchString(line)
			}
		case "judge":
			right = judged.MatchString(answer)
		case "cross":
			right = off.MatchString(answer)
		}
		if !right {
			t.Fatalf("JobRun(%.400q) = %.400q", s, answer)
		}
	}
}

// TestModelJobsAreRead: the answer is a text from which the model comes back that was learned.
func TestModelJobsAreRead(t *testing.T) {
	for i, table := range someTables() {
		c := goodConfs()[i%len(goodConfs())]
		want, _ := impl.Train(table, c)
		if got, ok := impl.ModelRead(impl.JobRun(tablesJob(c, "model", table, impl.Table{S: table.S}))); !sameModel(got, want) || !ok {
			t.Fatalf("the model of %v, %v is read as %v, %v, not %v", table, c, got, ok, want)
		}
	}
}

// TestNoModelIsTooLong: no job can make a model whose text is empty, since the longest of all models has one of less than MaxSaved bytes, and words of tables have no byte 10.
func TestNoModelIsTooLong(t *testing.T) {
	c := impl.Conf{Trees: mostTrees, Depth: deepest, Most: mostBorders, Rate: 1000, L2: 1, Prior: -topPrior, Seed: impl.MaxSeed - 1}
	table := impl.Table{S: impl.Schema{Nums: impl.MaxNums, Cats: impl.MaxCats}}
	for n := range impl.MaxRows {
		x := impl.Sample{Nums: []int{-top + n, -top + 7*n%40, -top + 11*n%40}, Cats: []string{fmt.Sprintf("a%011d", n), fmt.Sprintf("z%011d", n)}, Label: -topLabel * (n%5 - 2) / 2}
		table.Rows = append(table.Rows, x)
	}
	s := tablesJob(c, "model", table, table)
	if answer := impl.JobRun(s); len(s) > impl.MaxJob || !strings.HasPrefix(answer, "model 3 2 -1000000 ") || len(answer) < 4000 || answer != runAsTold(s) {
		t.Errorf("JobRun(%q) = %q", s, answer)
	}
	if text := impl.ModelText(greatestModel()); text == "" || len(text) >= impl.MaxSaved {
		t.Errorf("%d bytes", len(text))
	}
}

// TestWhatModesAsk: the second table is nothing to `model` and `cross`, its labels are nothing to `tell`; but it must be a table.
func TestWhatModesAsk(t *testing.T) {
	for i, s := range allSchemas() {
		c := goodConfs()[5*i]
		first, second := drawnTable(30+i, s, 12), drawnTable(31+i, s, 7)
		other := copyTable(second)
		for row := range other.Rows {
			other.Rows[row].Label = -other.Rows[row].Label/2 + 77
		}
		for _, mode := range modes() {
			want := impl.JobRun(tablesJob(c, mode, first, second))
			if mode != "judge" {
				runIs(t, tablesJob(c, mode, first, other), want)
			}
			if mode == "model" || mode == "cross" {
				runIs(t, tablesJob(c, mode, first, impl.Table{S: s}), want)
			}
			runIs(t, tablesJob(c, mode, first, second)+"--\n", runByChapters(tablesJob(c, mode, first, second)+"--\n"))
			if answer := impl.JobRun(tablesJob(c, mode, first, second) + "x\n"); !strings.HasPrefix(answer, "table 2 8 ") {
				t.Errorf("%s with a wrong second table: %.200q", mode, answer)
			}
		}
	}
}

// TestCrossJobsHaveThreeFolds: tables of which other numbers of folds say something else.
func TestCrossJobsHaveThreeFolds(t *testing.T) {
	runIs(t, "schema 0 0\nconf 0 0 1 1 1 0 1\ncross\n0.010\n0.020\n0.060\n0.000\n--\n", "off 123\n") // 30 + 40, 3, 50; 100 with two folds, 99 with four
	told := 0
	for i, s := range allSchemas() {
		c, table := learnConf(3, 2, 700), drawnTable(6*i, s, 20)
		want, _ := impl.CrossOff(table, c, 3)
		for _, k := range []int{2, 4, 10} {
			if off, _ := impl.CrossOff(table, c, k); off != want {
				told++
			}
		}
		runIs(t, tablesJob(c, "cross", table, impl.Table{S: s}), fmt.Sprintf("off %d\n", want))
	}
	if told < 20 {
		t.Errorf("but %d of the tables tell numbers of folds apart", told)
	}
}

// TestPartsOfJobsAreNew: none lies within the text, nor within another one.
func TestPartsOfJobsAreNew(t *testing.T) {
	for _, s := range append(someJobs(), jobText(impl.Schema{}, impl.Conf{}, "tell", "x\n", "y\n"), jobText(impl.Schema{}, impl.Conf{}, "tell", "", "--\n"), jobText(impl.Schema{}, impl.Conf{}, "tell", "x\n", "tell\nx\n")) {
		given := strings.Clone(s)
		p, again := partsOf(given), partsOf(given)
		texts := []string{given, p.first, p.last, again.first, again.last}
		for i, text := range texts {
			for _, other := range texts[i+1:] {
				if text != "" && other != "" && (within(text, other) || within(other, text)) {
					t.Fatalf("%.200q and %.200q share memory", text, other)
				}
			}
		}
		if answer := impl.JobRun(given); answer != "" && within(answer, given) || given != s {
			t.Fatalf("the answer %.200q lies within the job", answer)
		}
	}
}

// TestJobsReadNothingBehindTheEnd: the text may be a piece of another one.
func TestJobsReadNothingBehindTheEnd(t *testing.T) {
	for i, s := range someJobs() {
		if i%5 != 0 {
			continue
		}
		whole := "--\n" + s + s
		piece := whole[len("--\n"):][:len(s)]
		if p := partsOf(piece); p != partsAsTold(s) || !p.ok {
			t.Fatalf("JobParts(%.400q) = %.400v as a piece", s, p)
		}
		runIs(t, piece, runByChapters(s))
		isNoJob(t, piece[:len(piece)-1])
	}
	s := "schema 1 0\nconf 1 1 3 1000 1 0 1\ntell\n--\n"
	for n := range len(s) {
		isNoJob(t, s[:n])
	}
}

// TestJobsAgain: the same answers however often they are asked, whatever was asked between, and by several at once.
func TestJobsAgain(t *testing.T) {
	jobs := someJobs()
	var askers sync.WaitGroup
	for n := range 8 {
		askers.Go(func() {
			for turn := range 30 {
				s := jobs[(n%2*131+turn*37)%len(jobs)]
				impl.JobRun(jobs[(n*17+turn)%len(jobs)][:20+n])
				impl.JobRun(jobs[(n*19+turn*3)%len(jobs)])
				if got, p := impl.JobRun(s), partsOf(s); got != runByChapters(s) || p != partsAsTold(s) {
					t.Errorf("JobRun(%.400q) = %.400q, of %.400v", s, got, p)
					return
				}
			}
		})
	}
	askers.Wait()
}

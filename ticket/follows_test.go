package ticket

import (
	"math/big"
	"regexp"
	"slices"
	"strconv"
	"strings"
	"testing"
	"unsafe"

	"gatherum/api"
	"gatherum/bounds"
	"gatherum/scheme"
)

// dice gives numbers that look thrown, but are the same in each run.
type dice uint64

// below: a number from 0 to ahead of n.
func (d *dice) below(n int) int {
	*d = *d*6364136223846793005 + 1442695040888963407
	return int(uint64(*d) >> 33 % uint64(n))
}

// text: a text of at most n of the alphabet's octets.
func (d *dice) text(alphabet string, least, most int) string {
	b := make([]byte, least+d.below(most-least+1))
	for i := range b {
		b[i] = alphabet[d.below(len(alphabet))]
	}
	return string(b)
}

// int: a number of any size.
func (d *dice) int() int {
	n := d.below(1<<31)<<33 ^ d.below(1<<31)<<15 ^ d.below(1<<31)
	if n >>= d.below(64); d.below(2) == 0 {
		return -n
	}
	return n
}

// octets: those from 33 to 126 but the left out ones.
func octets(out string) string {
	s := ""
	for c := 33; c <= 126; c++ {
		if !strings.Contains(out, one(c)) {
			s += one(c)
		}
	}
	return s
}

// scheme: one of the catalogue, or another one that has a text.
func (d *dice) scheme() api.Scheme {
	if d.below(2) == 0 {
		l := scheme.Names()
		s, _ := scheme.Find(l[d.below(len(l))])
		return s
	}
	s := api.Scheme{Cols: 1 + d.below(64), Rows: 1 + d.below(64)}
	for range d.below(7) {
		s.Steps = append(s.Steps, api.Step{Side: 1 + d.below(4), N: 1 + d.below(64), Under: d.below(2) == 0})
	}
	return s
}

// job: one that can be told.
func (d *dice) job() api.Job {
	var j api.Job
	for i := range bounds.Count() {
		j = bounds.Set(j, i, d.int())
	}
	j.Title = d.text(octets("")+"  \"\\#", 0, 60)
	j.Binding, j.Style, j.Folds = 1+d.below(4), 1+d.below(4), d.scheme()
	for range d.below(5) {
		j.Last = append(j.Last, d.text(octets(`#"`), 1, 9))
	}
	return j
}

// spoiled: s with some octets, fields or lines changed, moved or left out.
func (d *dice) spoiled(s string) string {
	for range d.below(4) {
		i, k := d.below(len(s)+1), d.below(len(s)+1)
		i, k = min(i, k), max(i, k)
		switch d.below(8) {
		case 0:
			s = s[:i] + d.text("\n\n # \t\"\\x1-+0\x00\r\xc3", 1, 3) + s[i:]
		case 1:
			s = s[:i] + s[min(i+1+d.below(3), len(s)):]
		case 2:
			s = s[:i] + s[k:]
		case 3:
			s = s[i:] + s[:i]
		case 4:
			l := strings.Split(s, "\n")
			a, b := d.below(len(l)), d.below(len(l))
			l[a], l[b] = l[b], l[a]
			s = strings.Join(l, "\n")
		case 5:
			l := strings.Split(s, " ")
			l[d.below(len(l))] = []string{"x", "1", "01", "", "saddle", `"a"`, "turn", "L1", "\t", "# 1"}[d.below(10)]
			s = strings.Join(l, " ")
		case 6:
			l := strings.Split(s, "\n")
			l = slices.Insert(l, d.below(len(l)+1), l[d.below(len(l))])
			s = strings.Join(l, "\n")
		case 7:
			l := strings.Split(s, "\n")
			s = strings.Join(slices.Delete(l, d.below(len(l)), len(l)), "\n")
		}
	}
	return s
}

// P16.3: what can be told comes back from its text.
func TestToldAndParsed(t *testing.T) {
	d := dice(16)
	for range 5000 {
		j := d.job()
		s, ok := Put(j)
		if !ok {
			t.Fatalf("%+v can't be told", j)
		}
		checkParse(t, s, j, strings.Count(s, "\n")+1)
		if again, ok := Put(j); again != s || !ok {
			t.Fatalf("%+v is told as %q, and as %q", j, s, again)
		}
	}
}

// checkFollows: what is parsed, told and parsed again is the same.
func checkFollows(t *testing.T, s string) {
	t.Helper()
	j, _, e := Parse(s)
	if e != api.OK {
		return
	}
	told, ok := Put(j)
	if !ok {
		t.Fatalf("%q is parsed, but %+v can't be told", s, j)
	}
	checkParse(t, told, j, strings.Count(told, "\n")+1)
}

// P16.3: of texts with all that Put leaves out: remarks, blanks, other orders.
func TestParsedToldAndParsed(t *testing.T) {
	for _, e := range titles() {
		checkFollows(t, "  # a\n\n"+instead("title", "\ttitle\t "+e[1]+"#"))
	}
	for _, line := range []string{"last a", "last !~ ' \\ 7", "", "folds 64x64", "folds F8-1"} {
		for _, word := range []string{"last", "folds"} {
			checkFollows(t, instead(word, line))
		}
	}
}

// The forms that the chapters give to lines, to parts and to quoted texts.
var (
	partForm   = regexp.MustCompile(`(?:[!$-~]|"(?:[ !#-\[\]-~]|\\[ -~])*")+`)
	lineForm   = regexp.MustCompile(`^((?:[ \t]|` + partForm.String() + `)*)(?:#(?s:.*))?$`)
	quotedForm = regexp.MustCompile(`^"(?:[ !#-\[\]-~]|\\["\\])*"$`)
	behindForm = regexp.MustCompile(`\\(.)`)
)

// meantInt: the int that part is the digits of.
func meantInt(part string) (int, bool) {
	b, ok := new(big.Int).SetString(part, 10)
	if !ok || !b.IsInt64() || b.String() != part {
		return 0, false
	}
	return int(b.Int64()), true
}

// meantTitle: the title that a part quotes.
func meantTitle(part string) (string, bool) {
	if !quotedForm.MatchString(part) {
		return "", false
	}
	return behindForm.ReplaceAllString(part[1:len(part)-1], "$1"), true
}

// meantWord: the number of a word, from 1 on.
func meantWord(part string, words ...string) (int, bool) {
	i := slices.Index(words, part)
	return i + 1, i >= 0
}

// meantLine: what a line with fields does to j.
func meantLine(j *api.Job, r row, l []string) api.Errno {
	count := map[string][2]int{"title": {1, 1}, "binding": {1, 1}, "style": {1, 1}, "folds": {0, 99}, "last": {1, 4}}
	bound, listed := count[r.word]
	if !listed {
		bound = [2]int{len(r.at), len(r.at)}
	}
	if len(l) < bound[0] || len(l) > bound[1] {
		return api.ErrForm
	}
	ok, wrong := true, api.ErrForm
	switch r.word {
	case "title":
		if j.Title, ok = meantTitle(l[0]); ok && len(j.Title) > 60 {
			return api.ErrRange
		}
	case "folds":
		j.Folds, ok = scheme.Get(l...)
	case "last":
		j.Last = l
		ok = !strings.Contains(strings.Join(l, ""), `"`)
	case "binding":
		j.Binding, ok = meantWord(l[0], "saddle", "perfect", "stack", "comego")
		wrong = api.ErrWord
	case "style":
		j.Style, ok = meantWord(l[0], "sheetwise", "perfecting", "turn", "tumble")
		wrong = api.ErrWord
	}
	if !ok {
		return wrong
	}
	for i, at := range r.at {
		if *at(j), ok = meantInt(l[i]); !ok {
			return api.ErrRange
		}
	}
	return api.OK
}

// meant: what Parse has to answer, told in another way than the package does.
func meant(s string) (api.Job, int, api.Errno) {
	var j api.Job
	left := rows()
	lines := strings.Split(s, "\n")
	for i, text := range lines {
		m := lineForm.FindStringSubmatch(text)
		if m == nil {
			return api.Job{}, i, api.ErrForm
		}
		l := partForm.FindAllString(m[1], -1)
		if len(l) == 0 {
			continue
		}
		at := slices.IndexFunc(left, func(r row) bool { return r.word == l[0] })
		if at < 0 && placeOf(l[0]) >= 0 {
			return api.Job{}, i, api.ErrTwice
		}
		if at < 0 {
			return api.Job{}, i, api.ErrWord
		}
		r := left[at]
		left = slices.Delete(left, at, at+1)
		if e := meantLine(&j, r, l[1:]); e != api.OK {
			return api.Job{}, i, e
		}
	}
	if len(left) > 1 || len(left) == 1 && left[0].word != "last" {
		return api.Job{}, len(lines), api.ErrLack
	}
	return j, len(lines), api.OK
}

// P16.2, P16.3: over many texts, right ones and spoiled ones, Parse answers
// what the chapter's words, told in another way, ask for.
func TestManyTexts(t *testing.T) {
	d := dice(3)
	seen := map[api.Errno]int{}
	for range 20000 {
		s, _ := Put(d.job())
		s = d.spoiled(s)
		j, n, e := meant(s)
		seen[e]++
		if e == api.OK {
			checkParse(t, s, j, n)
		} else {
			checkWrong(t, s, n, e)
		}
		checkFollows(t, s)
	}
	for _, e := range []api.Errno{api.OK, api.ErrForm, api.ErrWord, api.ErrTwice, api.ErrLack, api.ErrRange} {
		if seen[e] < 50 {
			t.Fatalf("of the texts only %d end in %d", seen[e], e)
		}
	}
}

// P1, P16.2: texts of any octets, which are tickets of no job.
func TestAnyOctets(t *testing.T) {
	d := dice(7)
	all := ""
	for c := range 256 {
		all += one(c)
	}
	for _, alphabet := range []string{all, "\n\t #\"\\a", "\n pagestrimbox1", " \nlast\"#", "title \"\\a\n"} {
		for range 2000 {
			s := d.text(alphabet, 0, 40)
			_, n, e := meant(s)
			checkWrong(t, s, n, e)
		}
	}
}

// spoil writes into each place that j's lists have, those behind their ends,
// too.
func spoil(j api.Job) {
	for i := range j.Folds.Steps[:cap(j.Folds.Steps)] {
		j.Folds.Steps[:cap(j.Folds.Steps)][i] = api.Step{Side: 9, N: 99, Under: true}
	}
	for i := range j.Last[:cap(j.Last)] {
		j.Last[:cap(j.Last)][i] = "spoiled"
	}
}

// P2: each job that is parsed is the caller's own.
func TestAnswersAreNew(t *testing.T) {
	s := ended(distinctLines())
	a, _, _ := Parse(s)
	b, _, _ := Parse(s)
	spoil(a)
	if !same(b, distinct()) {
		t.Fatalf("a change of one answer makes %+v of another one", b)
	}
	checkParse(t, s, distinct(), 17)
	for _, name := range scheme.Names() {
		meant, _ := scheme.Find(name)
		j, _, _ := Parse(instead("folds", "folds "+name))
		spoil(j)
		if f, _ := scheme.Find(name); !scheme.Same(f, meant) {
			t.Fatalf("a change of an answer makes %+v of %s", f, name)
		}
	}
}

// within: does s stand in the memory of text?
func within(s, text string) bool {
	from := uintptr(unsafe.Pointer(unsafe.StringData(text)))
	at := uintptr(unsafe.Pointer(unsafe.StringData(s)))
	return len(s) > 0 && at >= from && at < from+uintptr(len(text))
}

// P2: an answer keeps none of the text that was handed in.
func TestTextsAreCopied(t *testing.T) {
	s := strings.Clone(ended(distinctLines()))
	j, _, _ := Parse(s)
	for _, part := range append([]string{j.Title}, j.Last...) {
		if within(part, s) {
			t.Fatalf("%q is a piece of the ticket", part)
		}
	}
	j = distinct()
	j.Title, j.Last = strings.Clone(strings.Repeat("a", 60)), []string{strings.Clone(strings.Repeat("b", 5000))}
	told, _ := Put(j)
	if within(told, j.Title) || within(told, j.Last[0]) || within(j.Last[0], told) {
		t.Fatal("a ticket is a piece of the job")
	}
}

// P2: what is handed in isn't changed, nor what stands behind its lists' ends.
func TestArgumentsStay(t *testing.T) {
	whole := distinct()
	whole.Last = []string{"a", "b", "c", "d", "e", "f"}
	was := plain(whole)
	for n := range 7 {
		for m := range 3 {
			j := whole
			j.Last, j.Folds.Steps = whole.Last[:n], whole.Folds.Steps[:m]
			if _, ok := Put(j); ok != (n <= 4) {
				t.Fatalf("Put of %d names: %v", n, ok)
			}
			if !same(whole, was) {
				t.Fatalf("Put makes %+v of the job", whole)
			}
		}
	}
}

// P5: nil and empty lists are one.
func TestEmptyLists(t *testing.T) {
	a, b := distinct(), distinct()
	a.Last, b.Last = nil, []string{}
	a.Folds.Steps, b.Folds.Steps = nil, []api.Step{}
	s, _ := Put(a)
	u, _ := Put(b)
	if s != u || strings.Contains(s, "last") {
		t.Fatalf("Put is %q of nil lists, and %q of empty ones", s, u)
	}
	checkParse(t, s, b, strings.Count(s, "\n")+1)
}

// P3: what was asked ahead is one to an answer.
func TestAnswersStayTheSame(t *testing.T) {
	for i := range 20 {
		checkBoth(t, bounds.Usual(), usualText)
		checkWrong(t, "\nbleed x", 1, api.ErrRange)
		checkWrong(t, usualText+"pages "+strconv.Itoa(i), 15, api.ErrTwice)
		checkNoPut(t, api.Job{})
		checkBoth(t, distinct(), ended(distinctLines()))
		checkWrong(t, "", 1, api.ErrLack)
	}
}

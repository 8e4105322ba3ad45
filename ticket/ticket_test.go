package ticket

import (
	"math"
	"reflect"
	"slices"
	"strconv"
	"strings"
	"testing"

	"gatherum/api"
	"gatherum/bounds"
	"gatherum/scheme"
)

const (
	lowest  = math.MinInt
	highest = math.MaxInt
)

// usualText: the ticket of the usual job.
const usualText = "title \"book\"\n" +
	"pages 16\n" +
	"box 0 0\n" +
	"trim 148000 210000\n" +
	"bleed 3000\n" +
	"margins 5000 5000 5000 0\n" +
	"binding saddle\n" +
	"folds F8-1\n" +
	"style sheetwise\n" +
	"sheet 640000 900000\n" +
	"area 10000 12000 8000\n" +
	"paper 100 1 1\n" +
	"quarter 0\n" +
	"marks 5000 3000 100\n" +
	"stair 20000 5000 10 0\n"

// row is a key as the chapter lists it: its word, its line in the ticket of
// distinct, and the places of its numbers there that digits tell.
type row struct {
	word, line string
	at         []func(j *api.Job) *int
}

// rows: the keys, in order; new each time.
func rows() []row {
	type at = func(j *api.Job) *int
	return []row{
		{"title", `title "all of it"`, nil},
		{"pages", "pages 1001", []at{
			func(j *api.Job) *int { return &j.Pages },
		}},
		{"box", "box -1002 -1003", []at{
			func(j *api.Job) *int { return &j.Box.X }, func(j *api.Job) *int { return &j.Box.Y },
		}},
		{"trim", "trim 1004 1005", []at{
			func(j *api.Job) *int { return &j.W }, func(j *api.Job) *int { return &j.H },
		}},
		{"bleed", "bleed 1006", []at{
			func(j *api.Job) *int { return &j.Bleed },
		}},
		{"margins", "margins 1007 1008 1009 1010", []at{
			func(j *api.Job) *int { return &j.Head }, func(j *api.Job) *int { return &j.Foot },
			func(j *api.Job) *int { return &j.Face }, func(j *api.Job) *int { return &j.Spine },
		}},
		{"binding", "binding stack", nil},
		{"folds", "folds 8x5 L2 T1u", nil},
		{"last", "last F4-1 F2-1", nil},
		{"style", "style perfecting", nil},
		{"sheet", "sheet 1013 1014", []at{
			func(j *api.Job) *int { return &j.SheetW }, func(j *api.Job) *int { return &j.SheetH },
		}},
		{"area", "area 1015 1016 1017", []at{
			func(j *api.Job) *int { return &j.Side }, func(j *api.Job) *int { return &j.Grip },
			func(j *api.Job) *int { return &j.Tail },
		}},
		{"paper", "paper 1018 1019 1020", []at{
			func(j *api.Job) *int { return &j.Caliper }, func(j *api.Job) *int { return &j.Num },
			func(j *api.Job) *int { return &j.Den },
		}},
		{"quarter", "quarter 1021", []at{
			func(j *api.Job) *int { return &j.Quarter },
		}},
		{"marks", "marks 1022 1023 1024", []at{
			func(j *api.Job) *int { return &j.MarkLen }, func(j *api.Job) *int { return &j.MarkOff },
			func(j *api.Job) *int { return &j.MarkWide },
		}},
		{"stair", "stair 1025 1026 1027 1028", []at{
			func(j *api.Job) *int { return &j.StairAt }, func(j *api.Job) *int { return &j.StairStep },
			func(j *api.Job) *int { return &j.StairWrap }, func(j *api.Job) *int { return &j.StairWide },
		}},
	}
}

// distinct: a job of whose numbers no two are alike, so that none can be
// mistaken for another one; few of them may be.
func distinct() api.Job {
	return api.Job{
		Title: "all of it",
		Pages: 1001,
		Box:   api.Point{X: -1002, Y: -1003},
		W:     1004, H: 1005,
		Bleed: 1006, Head: 1007, Foot: 1008, Face: 1009, Spine: 1010,
		Binding: 3, Style: 2,
		Folds: api.Scheme{Cols: 8, Rows: 5, Steps: []api.Step{
			{Side: api.Left, N: 2}, {Side: api.Top, N: 1, Under: true},
		}},
		Last:   []string{"F4-1", "F2-1"},
		SheetW: 1013, SheetH: 1014,
		Side: 1015, Grip: 1016, Tail: 1017,
		Caliper: 1018, Num: 1019, Den: 1020,
		Quarter: 1021,
		MarkLen: 1022, MarkOff: 1023, MarkWide: 1024,
		StairAt: 1025, StairStep: 1026, StairWrap: 1027, StairWide: 1028,
	}
}

// distinctLines: the lines of distinct's ticket.
func distinctLines() []string {
	var l []string
	for _, r := range rows() {
		l = append(l, r.line)
	}
	return l
}

// ended: the lines, each with a line feed behind.
func ended(l []string) string {
	s := ""
	for _, line := range l {
		s += line + "\n"
	}
	return s
}

// instead: distinct's ticket with another line for that key.
func instead(word, line string) string {
	l := distinctLines()
	l[placeOf(word)] = line
	return ended(l)
}

// placeOf: the number of the key's line in distinct's ticket.
func placeOf(word string) int {
	return slices.IndexFunc(rows(), func(r row) bool { return r.word == word })
}

// plain: a job like j that shares nothing with it, its empty lists nil.
func plain(j api.Job) api.Job {
	j.Folds.Steps = append([]api.Step(nil), j.Folds.Steps...)
	j.Last = append([]string(nil), j.Last...)
	return j
}

// same: are a and b the same job? A nil list is an empty one.
func same(a, b api.Job) bool {
	return reflect.DeepEqual(plain(a), plain(b))
}

// with: distinct, changed.
func with(change func(j *api.Job)) api.Job {
	j := distinct()
	change(&j)
	return j
}

func checkPut(t *testing.T, j api.Job, meant string) {
	t.Helper()
	was := plain(j)
	s, ok := Put(j)
	if s != meant || !ok {
		t.Fatalf("Put(%+v) = %.900q, %v; meant: %.900q, true", j, s, ok, meant)
	}
	if !same(j, was) {
		t.Fatalf("Put makes %+v of the job, which was %+v", j, was)
	}
}

func checkNoPut(t *testing.T, j api.Job) {
	t.Helper()
	if s, ok := Put(j); s != "" || ok {
		t.Fatalf("Put(%.900v) = %.900q, %v; meant: empty, false", j, s, ok)
	}
}

func checkParse(t *testing.T, s string, meant api.Job, lines int) {
	t.Helper()
	j, n, e := Parse(s)
	if e != api.OK || n != lines || !same(j, meant) {
		t.Fatalf("Parse(%.900q) = %+v, %d, %d; meant: %+v, %d, OK", s, j, n, e, meant, lines)
	}
}

func checkWrong(t *testing.T, s string, line int, meant api.Errno) {
	t.Helper()
	j, n, e := Parse(s)
	if e != meant || n != line || !same(j, api.Job{}) {
		t.Fatalf("Parse(%.900q) = %+v, %d, %d; meant: a zero job, %d, %d", s, j, n, e, line, meant)
	}
}

// checkBoth: j's ticket is s, and the job of s is j.
func checkBoth(t *testing.T, j api.Job, s string) {
	t.Helper()
	checkPut(t, j, s)
	checkParse(t, s, j, strings.Count(s, "\n")+1)
	checkParse(t, strings.TrimSuffix(s, "\n"), j, strings.Count(s, "\n"))
}

// one: a text of one octet, which string(rune) would make two of above 127.
func one(c int) string { return string([]byte{byte(c)}) }

// P16.1: the usual job, octet by octet.
func TestPutOfTheUsual(t *testing.T) {
	checkBoth(t, bounds.Usual(), usualText)
}

// P16.1: each number stands at its own place.
func TestPutOfDistinctNumbers(t *testing.T) {
	checkBoth(t, distinct(), "title \"all of it\"\npages 1001\nbox -1002 -1003\ntrim 1004 1005\nbleed 1006\n"+
		"margins 1007 1008 1009 1010\nbinding stack\nfolds 8x5 L2 T1u\nlast F4-1 F2-1\nstyle perfecting\nsheet 1013 1014\n"+
		"area 1015 1016 1017\npaper 1018 1019 1020\nquarter 1021\nmarks 1022 1023 1024\nstair 1025 1026 1027 1028\n")
}

// P16.1: a zero job with words for its kinds, and a scheme.
func TestPutOfNoughts(t *testing.T) {
	j := api.Job{Binding: 1, Style: 1, Folds: api.Scheme{Cols: 1, Rows: 1}}
	checkBoth(t, j, "title \"\"\npages 0\nbox 0 0\ntrim 0 0\nbleed 0\nmargins 0 0 0 0\nbinding saddle\nfolds F2-1\n"+
		"style sheetwise\nsheet 0 0\narea 0 0 0\npaper 0 0 0\nquarter 0\nmarks 0 0 0\nstair 0 0 0 0\n")
	checkNoPut(t, api.Job{})
}

// P16.1, P16.2: each number alone: the greatest and the least ones, and others
// that it may not be.
func TestEachNumber(t *testing.T) {
	for _, r := range rows() {
		for i, at := range r.at {
			for _, n := range []int{0, 1, -1, 9, 10, -10, 5000001, -5000001, 1 << 31, -1 << 31, 1 << 32, highest - 1, highest, lowest + 1, lowest} {
				parts := strings.Split(r.line, " ")
				parts[1+i] = strconv.Itoa(n)
				checkBoth(t, with(func(j *api.Job) { *at(j) = n }), instead(r.word, strings.Join(parts, " ")))
			}
		}
	}
}

// P16.1, P16.2: the words of bindings and styles, from the first to the last
// one, and what has none.
func TestWords(t *testing.T) {
	for i, w := range []string{"saddle", "perfect", "stack", "comego"} {
		checkBoth(t, with(func(j *api.Job) { j.Binding = 1 + i }), instead("binding", "binding "+w))
		checkWrong(t, instead("style", "style "+w), placeOf("style"), api.ErrWord)
	}
	for i, w := range []string{"sheetwise", "perfecting", "turn", "tumble"} {
		checkBoth(t, with(func(j *api.Job) { j.Style = 1 + i }), instead("style", "style "+w))
		checkWrong(t, instead("binding", "binding "+w), placeOf("binding"), api.ErrWord)
	}
	for _, n := range []int{0, 5, -1, 6, 7, 256, 257, 1 << 32, 1<<32 + 1, lowest, lowest + 1, highest} {
		checkNoPut(t, with(func(j *api.Job) { j.Binding = n }))
		checkNoPut(t, with(func(j *api.Job) { j.Style = n }))
	}
	for _, w := range []string{
		"0", "1", "4", "5", "Saddle", "SADDLE", "Turn", "TURN", "saddl", "saddles", "tur", "turned", "page", "L", "x", `"saddle"`, `"turn"`, `""`, "saddle,",
		"sheet", "work", "-", "stack-", "\\",
	} {
		checkWrong(t, instead("binding", "binding "+w), placeOf("binding"), api.ErrWord)
		checkWrong(t, instead("style", "style "+w), placeOf("style"), api.ErrWord)
	}
}

// titles: some that may be, with their quoted texts.
func titles() [][2]string {
	return [][2]string{
		{"", `""`}, {" ", `" "`}, {"a", `"a"`}, {"  two  blanks  ", `"  two  blanks  "`}, {"#", `"#"`}, {"a # b", `"a # b"`},
		{`"`, `"\""`}, {`\`, `"\\"`}, {`say "so"`, `"say \"so\""`}, {`a\b`, `"a\\b"`}, {`\"`, `"\\\""`}, {`" # "`, `"\" # \""`},
		{"pages 7", `"pages 7"`}, {"'", `"'"`}, {" ~", `" ~"`}, {"\\n", `"\\n"`},
		{strings.Repeat("a", 59), `"` + strings.Repeat("a", 59) + `"`},
		{strings.Repeat(" ", 60), `"` + strings.Repeat(" ", 60) + `"`},
		{strings.Repeat(`"`, 60), `"` + strings.Repeat(`\"`, 60) + `"`},
		{strings.Repeat(`\`, 60), `"` + strings.Repeat(`\\`, 60) + `"`},
	}
}

// P16.1, P16.2: titles with blanks, quotes and #, of none and of 60 octets.
func TestTitles(t *testing.T) {
	for _, e := range titles() {
		checkBoth(t, with(func(j *api.Job) { j.Title = e[0] }), instead("title", "title "+e[1]))
	}
}

// P16.1: each octet of a title, at the begin, at the end and between others.
func TestPutOfTitlesWithEachOctet(t *testing.T) {
	for c := range 256 {
		for _, s := range []string{one(c), one(c) + "a", "a" + one(c), "a" + one(c) + "b"} {
			j := with(func(j *api.Job) { j.Title = s })
			if c < 32 || c > 126 {
				checkNoPut(t, j)
				continue
			}
			q := strings.NewReplacer(`"`, `\"`, `\`, `\\`).Replace(s)
			checkBoth(t, j, instead("title", `title "`+q+`"`))
		}
	}
	for _, s := range []string{"\x1f", "\x7f", "\u00e4", "a\u2028", "a\nb", "a\tb", "a\x00"} {
		checkNoPut(t, with(func(j *api.Job) { j.Title = s }))
	}
}

// P16.1: a title of 61 octets or more.
func TestPutOfLongTitles(t *testing.T) {
	for _, n := range []int{61, 62, 100, 256, 257, 1 << 20} {
		for _, c := range []string{"a", " ", `"`, `\`, "\x00"} {
			checkNoPut(t, with(func(j *api.Job) { j.Title = strings.Repeat(c, n) }))
		}
	}
	checkNoPut(t, with(func(j *api.Job) { j.Title = strings.Repeat("a", 59) + "\u00e4" }))
	checkNoPut(t, with(func(j *api.Job) { j.Title = strings.Repeat("\u00e4", 30) }))
}

// P16.1, P16.2: the schemes of the catalogue by their names.
func TestSchemesOfTheCatalogue(t *testing.T) {
	l := scheme.Names()
	if len(l) != 21 {
		t.Fatalf("the catalogue has %d names", len(l))
	}
	for _, name := range l {
		s, _ := scheme.Find(name)
		checkBoth(t, with(func(j *api.Job) { j.Folds = s }), instead("folds", "folds "+name))
	}
}

// P16.1, P16.2: schemes by their parts, those that are not right, too.
func TestSchemesByParts(t *testing.T) {
	step := func(side, n int, under bool) api.Step { return api.Step{Side: side, N: n, Under: under} }
	for _, e := range []struct {
		text string
		s    api.Scheme
	}{
		{"3x2", api.Scheme{Cols: 3, Rows: 2}},
		{"64x64", api.Scheme{Cols: 64, Rows: 64}},
		{"1x64", api.Scheme{Cols: 1, Rows: 64, Steps: []api.Step{}}},
		{"2x1 L1u", api.Scheme{Cols: 2, Rows: 1, Steps: []api.Step{step(1, 1, true)}}},
		{"2x1 R1", api.Scheme{Cols: 2, Rows: 1, Steps: []api.Step{step(2, 1, false)}}},
		{"2x2 L1 B1", api.Scheme{Cols: 2, Rows: 2, Steps: []api.Step{step(1, 1, false), step(3, 1, false)}}},
		{"1x1 T64u", api.Scheme{Cols: 1, Rows: 1, Steps: []api.Step{step(4, 64, true)}}},
		{"64x1 L1 R2u B3 T4u L5 R64u", api.Scheme{Cols: 64, Rows: 1, Steps: []api.Step{
			step(1, 1, false), step(2, 2, true), step(3, 3, false), step(4, 4, true), step(1, 5, false), step(2, 64, true),
		}}},
	} {
		checkBoth(t, with(func(j *api.Job) { j.Folds = e.s }), instead("folds", "folds "+e.text))
	}
}

// P16.1: folds that have no text.
func TestPutOfWrongSchemes(t *testing.T) {
	many := []api.Step{}
	for range 7 {
		many = append(many, api.Step{Side: 1, N: 1})
	}
	for _, s := range []api.Scheme{
		{}, {Cols: 1}, {Rows: 1}, {Cols: 65, Rows: 1}, {Cols: 1, Rows: 65}, {Cols: -1, Rows: -1}, {Cols: lowest, Rows: highest},
		{Cols: 2, Rows: 1, Steps: []api.Step{{}}},
		{Cols: 2, Rows: 1, Steps: []api.Step{{Side: 5, N: 1}}},
		{Cols: 2, Rows: 1, Steps: []api.Step{{Side: 0, N: 1}}},
		{Cols: 2, Rows: 1, Steps: []api.Step{{Side: 1, N: 0}}},
		{Cols: 2, Rows: 1, Steps: []api.Step{{Side: 1, N: 65}}},
		{Cols: 2, Rows: 1, Steps: []api.Step{{Side: 1, N: 1}, {Side: 1, N: -1}}},
		{Cols: 64, Rows: 64, Steps: many},
	} {
		checkNoPut(t, with(func(j *api.Job) { j.Folds = s }))
	}
}

// P16.1, P16.2: none, one and four last names, which need not be any scheme's.
func TestLastNames(t *testing.T) {
	without := slices.Delete(distinctLines(), placeOf("last"), placeOf("last")+1)
	for _, l := range [][]string{nil, {}, make([]string, 0, 4)} {
		checkBoth(t, with(func(j *api.Job) { j.Last = l }), ended(without))
	}
	for _, l := range [][]string{
		{"F2-1"}, {"x"}, {"!"}, {"~"}, {"last"}, {"7"}, {"F4-1", "F4-1"}, {"a", "b", "c"}, {"F8-1", "F6-2", "F4-1", "F2-1"},
		{"a", "a", "a", "a"}, {"'"}, {"''"}, {`\`, `\\`}, {strings.Repeat("a", 61)}, {strings.Repeat("!~", 5000)}, {"2x1", "L1", "T1u"},
	} {
		checkBoth(t, with(func(j *api.Job) { j.Last = l }), instead("last", "last "+strings.Join(l, " ")))
	}
}

// P16.1: five last names, and more.
func TestPutOfManyLastNames(t *testing.T) {
	for _, n := range []int{5, 6, 100, 257, 260} {
		checkNoPut(t, with(func(j *api.Job) { j.Last = slices.Repeat([]string{"F2-1"}, n) }))
	}
}

// P16.1, P16.2: each octet of a last name, at each place of it.
func TestLastNamesWithEachOctet(t *testing.T) {
	for c := range 256 {
		well := c >= 33 && c <= 126 && c != '#' && c != '"'
		for _, name := range []string{one(c), one(c) + "a", "a" + one(c), "a" + one(c) + "b"} {
			for _, l := range [][]string{{name}, {name, "b", "c", "d"}, {"a", name, "c"}, {"a", "b", "c", name}} {
				j := with(func(j *api.Job) { j.Last = l })
				if well {
					checkBoth(t, j, instead("last", "last "+strings.Join(l, " ")))
				} else {
					checkNoPut(t, j)
				}
			}
		}
	}
}

// P16.1: last names that can't be told, written out, at each place.
func TestPutOfWrongLastNames(t *testing.T) {
	for _, name := range []string{"", " ", "a b", " a", "a ", "\t", "a\t", "\n", "a\n", "#", "a#", "#a", `"`, `""`, `"a"`, `a"b"`, `a"`, "\x20", "\x1f", "\x7f", "\x80", "\u00e4", "\x00"} {
		for i := range 4 {
			checkNoPut(t, with(func(j *api.Job) {
				j.Last = []string{"F2-1", "F2-1", "F2-1", "F2-1"}
				j.Last[i] = name
			}))
			checkNoPut(t, with(func(j *api.Job) { j.Last = append(slices.Repeat([]string{"a"}, i), name) }))
		}
	}
}

// P16.1: Put does not ask whether a job can be done, only whether it can be
// told.
func TestPutAsksForNothingElse(t *testing.T) {
	j := distinct()
	if bounds.First(j) < 0 || scheme.Right(j.Folds) {
		t.Fatal("distinct may be, after all")
	}
	j.Pages, j.Den, j.StairWrap, j.Last = -1, 0, 0, []string{"none", "none"}
	if s, ok := Put(j); !ok || !strings.Contains(s, "\npages -1\n") || !strings.Contains(s, "\nlast none none\n") {
		t.Fatalf("Put(%+v) = %q, %v", j, s, ok)
	}
}

// P16.1: two things that can't be told, and all of them.
func TestPutOfManyFaults(t *testing.T) {
	faults := []func(j *api.Job){
		func(j *api.Job) { j.Title = "\x00" },
		func(j *api.Job) { j.Binding = 0 },
		func(j *api.Job) { j.Folds = api.Scheme{} },
		func(j *api.Job) { j.Last = []string{""} },
		func(j *api.Job) { j.Style = 5 },
	}
	all := distinct()
	for i, a := range faults {
		a(&all)
		checkNoPut(t, all)
		for _, b := range faults[i:] {
			j := with(a)
			b(&j)
			checkNoPut(t, j)
		}
	}
}

package scheme

import (
	"math"
	"slices"
	"strconv"
	"strings"
	"testing"

	"gatherum/api"
)

// many is more parts, and more octets of a part, than any text has.
const many = 1 << 20

func of(cols, rows int, l ...api.Step) api.Scheme {
	return api.Scheme{Cols: cols, Rows: rows, Steps: l}
}

func fromLeft(n int) api.Step   { return api.Step{Side: api.Left, N: n} }
func fromRight(n int) api.Step  { return api.Step{Side: api.Right, N: n} }
func fromBottom(n int) api.Step { return api.Step{Side: api.Bottom, N: n} }
func fromTop(n int) api.Step    { return api.Step{Side: api.Top, N: n} }

func below(s api.Step) api.Step {
	s.Under = true
	return s
}

// entry is a row of the catalogue.
type entry struct {
	name string
	s    api.Scheme
}

// known: the catalogue as the chapter writes it, in order; new each time.
func known() []entry {
	return []entry{
		{"F2-1", of(1, 1)},
		{"F4-1", of(2, 1, fromLeft(1))},
		{"F4-2", of(1, 2, fromBottom(1))},
		{"F6-1", of(3, 1, fromRight(1), fromLeft(1))},
		{"F6-2", of(3, 1, below(fromLeft(1)), fromRight(1))},
		{"F8-1", of(2, 2, fromBottom(1), fromLeft(1))},
		{"F8-2", of(4, 1, fromLeft(2), fromLeft(1))},
		{"F8-3", of(4, 1, fromLeft(1), below(fromRight(1)), fromLeft(1))},
		{"F12-1", of(3, 2, fromBottom(1), fromRight(1), fromLeft(1))},
		{"F12-2", of(6, 1, fromLeft(3), fromRight(1), fromLeft(1))},
		{"F16-1", of(4, 2, fromLeft(2), fromBottom(1), fromLeft(1))},
		{"F16-2", of(2, 4, fromBottom(2), fromBottom(1), fromLeft(1))},
		{"F16-3", of(8, 1, fromLeft(4), fromLeft(2), fromLeft(1))},
		{"F16-4", of(4, 2, fromBottom(1), fromLeft(2), fromLeft(1))},
		{"F24-1", of(3, 4, fromBottom(2), fromBottom(1), fromRight(1), fromLeft(1))},
		{"F24-2", of(6, 2, fromLeft(3), fromBottom(1), fromRight(1), fromLeft(1))},
		{"F32-1", of(4, 4, fromBottom(2), fromLeft(2), fromBottom(1), fromLeft(1))},
		{"F32-2", of(8, 2, fromLeft(4), fromLeft(2), fromBottom(1), fromLeft(1))},
		{"F48-1", of(6, 4, fromLeft(3), fromBottom(2), fromBottom(1), fromRight(1), fromLeft(1))},
		{"F64-1", of(8, 4, fromLeft(4), fromBottom(2), fromLeft(2), fromBottom(1), fromLeft(1))},
		{"F128-1", of(8, 8, fromLeft(4), fromBottom(4), fromLeft(2), fromBottom(2), fromBottom(1), fromLeft(1))},
	}
}

// wrongSides: numbers of columns, or rows, that are none; some of them have
// small products with others, if these go round.
var wrongSides = [...]int{0, -1, -2, -8, -64, 65, 66, 128, 256, 257, 1 << 16, 1<<16 + 1, 1 << 31, 1 << 32, 1<<32 + 1,
	1 << 62, 1<<62 + 1, 1<<63 - 64, math.MaxInt - 1, math.MaxInt, -1 << 32, 1 - 1<<32, math.MinInt, math.MinInt + 1}

// wrongSteps: steps of which one field is wrong.
var wrongSteps = [...]api.Step{{}, {Under: true}, {Side: 0, N: 1}, {Side: 5, N: 1}, {Side: -1, N: 1}, {Side: 1 << 32, N: 1},
	{Side: 1<<32 + 1, N: 1}, {Side: 1, N: 0}, {Side: 1, N: -1}, {Side: 1, N: 65}, {Side: 4, N: 65, Under: true},
	{Side: 3, N: 1<<32 + 1}, {Side: 2, N: math.MaxInt}, {Side: 2, N: math.MinInt}, {Side: math.MaxInt, N: 1}, {Side: math.MinInt, N: 1}}

func equal(a, b api.Scheme) bool {
	return a.Cols == b.Cols && a.Rows == b.Rows && slices.Equal(a.Steps, b.Steps)
}

// some: a scheme that a failure may show whole.
func some(s api.Scheme) api.Scheme {
	s.Steps = s.Steps[:min(len(s.Steps), 9)]
	return s
}

func checkRight(t *testing.T, s api.Scheme, meant bool) {
	t.Helper()
	if Right(s) != meant {
		t.Fatalf("Right(%v) = %v", some(s), !meant)
	}
}

func checkPanels(t *testing.T, s api.Scheme, meant int) {
	t.Helper()
	if n := Panels(s); n != meant {
		t.Fatalf("Panels(%v) = %d; meant: %d", some(s), n, meant)
	}
}

func checkSame(t *testing.T, a, b api.Scheme, meant bool) {
	t.Helper()
	if Same(a, b) != meant || Same(b, a) != meant {
		t.Fatalf("Same(%v, %v) = %v, the other way %v; meant: %v", some(a), some(b), Same(a, b), Same(b, a), meant)
	}
}

func checkFind(t *testing.T, name string, meant api.Scheme) {
	t.Helper()
	if s, ok := Find(name); !equal(s, meant) || !ok {
		t.Fatalf("Find(%q) = %v, %v; meant: %v, true", name, s, ok, meant)
	}
}

func checkNoFind(t *testing.T, name string) {
	t.Helper()
	if s, ok := Find(name); !equal(s, api.Scheme{}) || ok {
		t.Fatalf("Find(%.60q) = %v, %v; meant: a zero scheme, false", name, s, ok)
	}
}

func checkName(t *testing.T, s api.Scheme, meant string) {
	t.Helper()
	if n, ok := Name(s); n != meant || !ok {
		t.Fatalf("Name(%v) = %q, %v; meant: %q, true", some(s), n, ok, meant)
	}
}

func checkNoName(t *testing.T, s api.Scheme) {
	t.Helper()
	if n, ok := Name(s); n != "" || ok {
		t.Fatalf("Name(%v) = %q, %v; meant: empty, false", some(s), n, ok)
	}
}

func checkPut(t *testing.T, s api.Scheme, meant string) {
	t.Helper()
	if p, ok := Put(s); p != meant || !ok {
		t.Fatalf("Put(%v) = %q, %v; meant: %q, true", some(s), p, ok, meant)
	}
}

func checkNoPut(t *testing.T, s api.Scheme) {
	t.Helper()
	if p, ok := Put(s); p != "" || ok {
		t.Fatalf("Put(%v) = %q, %v; meant: empty, false", some(s), p, ok)
	}
}

func checkGet(t *testing.T, meant api.Scheme, l ...string) {
	t.Helper()
	if s, ok := Get(l...); !equal(s, meant) || !ok {
		t.Fatalf("Get(%.60q) = %v, %v; meant: %v, true", l, s, ok, meant)
	}
}

func checkNoGet(t *testing.T, l ...string) {
	t.Helper()
	if s, ok := Get(l...); !equal(s, api.Scheme{}) || ok {
		t.Fatalf("Get(%.60q) = %v, %v; meant: a zero scheme, false", l[:min(len(l), 9)], s, ok)
	}
}

// checkText: s is told so, and that is read again.
func checkText(t *testing.T, s api.Scheme, text string) {
	t.Helper()
	checkPut(t, s, text)
	checkGet(t, s, strings.Split(text, " ")...)
}

// checkNoText: s is told otherwise, if at all, than by these parts: they are
// none.
func checkNoText(t *testing.T, text string) {
	t.Helper()
	checkNoGet(t, strings.Split(text, " ")...)
}

// P12.4: all that the catalogue has is right, whatever one asks for it.
func TestEachOfTheCatalogueIsRight(t *testing.T) {
	for _, name := range Names() {
		s, ok := Find(name)
		if !ok {
			t.Fatalf("Find(%q) finds none", name)
		}
		checkRight(t, s, true)
	}
	for _, e := range known() {
		checkRight(t, e.s, true)
	}
}

// P12.1, P12.2, P12.3: each scheme of the catalogue, and all that is asked of
// it; a name tells twice the panels.
func TestTheCatalogue(t *testing.T) {
	for _, e := range known() {
		checkFind(t, e.name, e.s)
		checkName(t, e.s, e.name)
		checkText(t, e.s, e.name)
		checkSame(t, e.s, e.s, true)
		pages, _, _ := strings.Cut(e.name[1:], "-")
		n, err := strconv.Atoi(pages)
		if err != nil || n%2 != 0 {
			t.Fatalf("%q tells no pages", e.name)
		}
		checkPanels(t, e.s, n/2)
	}
}

// P12.2: no scheme of the catalogue stands in it twice: a name is the first
// one of its scheme.
func TestTheCataloguesSchemesDiffer(t *testing.T) {
	for i, a := range known() {
		for k, b := range known() {
			checkSame(t, a.s, b.s, i == k)
		}
	}
}

// P12.1: schemes of one's own that are right.
func TestRight(t *testing.T) {
	for _, s := range []api.Scheme{
		of(2, 1, fromRight(1)), of(2, 1, below(fromLeft(1))), of(1, 2, fromTop(1)), of(1, 3, fromTop(1), below(fromBottom(1))),
		of(5, 1, fromLeft(2), fromRight(1), fromLeft(1)), of(3, 3, fromLeft(1), fromBottom(1), fromTop(1), below(fromRight(1))),
		of(7, 1, fromLeft(1), fromLeft(1), fromLeft(1), fromLeft(1), fromLeft(1), fromLeft(1)),
		of(1, 7, fromTop(1), fromTop(1), fromTop(1), fromTop(1), fromTop(1), fromTop(1)),
	} {
		checkRight(t, s, true)
	}
}

// P12.1: 64 panels, however many are beside one another; 6 steps.
func TestRightAtTheEdges(t *testing.T) {
	six := []int{32, 16, 8, 4, 2, 1}
	for wide := range 7 {
		var l []api.Step
		for _, n := range six[6-wide:] {
			l = append(l, fromLeft(n))
		}
		for _, n := range six[wide:] {
			l = append(l, fromTop(n))
		}
		checkRight(t, of(1<<wide, 64>>wide, l...), true)
		checkRight(t, of(1<<wide, 64>>wide, l[:5]...), false)
		checkRight(t, of(1<<wide+1, 64>>wide, l...), false)
		checkRight(t, of(1<<wide, 64>>wide+1, l...), false)
	}
	checkRight(t, of(1, 1), true)
	checkRight(t, of(0, 1), false)
	checkRight(t, of(1, 0), false)
	checkRight(t, of(0, 0), false)
}

// P12.1: 65 panels and more, which no 6 steps fold to one, and no 7 either.
func TestRightOfTooManyPanels(t *testing.T) {
	halves := func(cols, rows int) []api.Step {
		var l []api.Step
		for ; cols > 1; cols -= cols / 2 {
			l = append(l, fromLeft(cols/2))
		}
		for ; rows > 1; rows -= rows / 2 {
			l = append(l, fromBottom(rows/2))
		}
		return l
	}
	for _, p := range []api.Point{{X: 65, Y: 1}, {X: 1, Y: 65}, {X: 13, Y: 5}, {X: 9, Y: 8}, {X: 64, Y: 2}, {X: 2, Y: 64},
		{X: 33, Y: 2}, {X: 64, Y: 64}, {X: 65, Y: 65}, {X: 16, Y: 8}, {X: 128, Y: 1}} {
		l := halves(p.X, p.Y)
		for n := range len(l) + 1 {
			checkRight(t, of(p.X, p.Y, l[:n]...), false)
		}
	}
}

// P12.1: a seventh step, though all of them leave one panel.
func TestRightOfTooManySteps(t *testing.T) {
	one := slices.Repeat([]api.Step{fromLeft(1)}, 63)
	for n := 1; n <= 64; n++ {
		checkRight(t, of(n, 1, one[:n-1]...), n <= 7)
	}
	checkRight(t, of(4, 4, fromLeft(1), fromLeft(1), fromLeft(1), fromTop(1), fromTop(1), fromTop(1)), true)
	checkRight(t, of(5, 4, fromLeft(1), fromLeft(1), fromLeft(1), fromLeft(1), fromTop(1), fromTop(1), fromTop(1)), false)
	checkRight(t, of(8, 1, slices.Repeat([]api.Step{fromLeft(1)}, many)...), false)
	checkRight(t, of(1, 1, make([]api.Step, many)...), false)
}

// P12.1: steps that leave two panels, or more, and such as go over what is
// left.
func TestRightOfWrongSteps(t *testing.T) {
	for _, s := range []api.Scheme{
		of(2, 1), of(1, 2), of(8, 8), of(64, 1), of(4, 1, fromLeft(2)), of(4, 1, fromLeft(1), fromLeft(1)), of(2, 2, fromLeft(1)),
		of(2, 2, fromTop(1)), of(8, 8, fromLeft(4), fromBottom(4), fromLeft(2), fromBottom(2), fromBottom(1)),
		of(1, 1, fromLeft(1)), of(1, 1, fromTop(1)), of(2, 1, fromLeft(1), fromLeft(1)), of(2, 1, fromTop(1)), of(1, 2, fromLeft(1)),
		of(3, 1, fromLeft(2)), of(4, 1, fromLeft(1), fromLeft(2)), of(4, 1, fromLeft(3)), of(2, 2, fromLeft(1), fromLeft(1)),
		of(2, 2, fromLeft(2)), of(2, 2, fromBottom(1), fromLeft(1), fromLeft(1)),
	} {
		checkRight(t, s, false)
	}
	for _, w := range wrongSteps {
		for i := range 4 {
			checkRight(t, of(4, 2, slices.Insert([]api.Step{fromLeft(2), fromBottom(1), fromLeft(1)}, i, w)...), false)
		}
		checkRight(t, of(1, 1, w), false)
		checkRight(t, of(2, 1, w), false)
	}
}

// P12.1: Cols and Rows beyond 1 to 64: neither right, nor any panels.
func TestWrongSides(t *testing.T) {
	for _, w := range wrongSides {
		for _, n := range append(wrongSides[:], 1, 2, 8, 64) {
			for _, l := range [][]api.Step{nil, {fromLeft(1)}, {fromLeft(1), fromBottom(1)}} {
				checkRight(t, of(w, n, l...), false)
				checkRight(t, of(n, w, l...), false)
				checkPanels(t, of(w, n, l...), 0)
				checkPanels(t, of(n, w, l...), 0)
				checkNoName(t, of(w, n, l...))
				checkNoName(t, of(n, w, l...))
				checkNoPut(t, of(w, n, l...))
				checkNoPut(t, of(n, w, l...))
			}
		}
	}
}

// P12.1: columns times rows, also of a scheme that is not right.
func TestPanels(t *testing.T) {
	for cols := 1; cols <= 64; cols++ {
		for rows := 1; rows <= 64; rows++ {
			n := 0
			for range cols {
				n += rows
			}
			checkPanels(t, of(cols, rows), n)
			checkPanels(t, of(cols, rows, fromLeft(1), api.Step{Side: 9, N: 99}), n)
		}
	}
	checkPanels(t, of(64, 64, make([]api.Step, many)...), 4096)
	checkPanels(t, of(65, 1), 0)
	checkPanels(t, of(1, 65), 0)
	checkPanels(t, of(0, 1), 0)
	checkPanels(t, of(1, 0), 0)
	checkPanels(t, api.Scheme{}, 0)
}

// P12.1: schemes that differ in one thing alone.
func TestSame(t *testing.T) {
	base := func() api.Scheme { return of(4, 2, fromLeft(2), below(fromBottom(1)), fromLeft(1)) }
	checkSame(t, base(), base(), true)
	for _, s := range []api.Scheme{
		of(3, 2, fromLeft(2), below(fromBottom(1)), fromLeft(1)),
		of(4, 1, fromLeft(2), below(fromBottom(1)), fromLeft(1)),
		of(2, 4, fromLeft(2), below(fromBottom(1)), fromLeft(1)),
		of(4, 2, fromLeft(2), below(fromBottom(1))),
		of(4, 2, below(fromBottom(1)), fromLeft(1)),
		of(4, 2, fromLeft(2), below(fromBottom(1)), fromLeft(1), fromLeft(1)),
		of(4, 2, fromLeft(2), below(fromBottom(1)), fromLeft(1), api.Step{}),
		of(4, 2, fromRight(2), below(fromBottom(1)), fromLeft(1)),
		of(4, 2, fromLeft(1), below(fromBottom(1)), fromLeft(1)),
		of(4, 2, fromLeft(2), fromBottom(1), fromLeft(1)),
		of(4, 2, fromLeft(2), below(fromBottom(1)), fromRight(1)),
		of(4, 2, fromLeft(2), below(fromBottom(1)), fromLeft(2)),
		of(4, 2, fromLeft(2), below(fromBottom(1)), below(fromLeft(1))),
		of(4, 2, below(fromBottom(1)), fromLeft(2), fromLeft(1)),
		of(4, 2, fromLeft(1), below(fromBottom(1)), fromLeft(2)),
		of(4, 2),
		{},
	} {
		checkSame(t, base(), s, false)
		checkSame(t, s, s, true)
	}
}

// P12.1: schemes that are not right are the same as others, too; a list that
// is nil is the same as an empty one.
func TestSameOfAnySchemes(t *testing.T) {
	checkSame(t, api.Scheme{}, api.Scheme{Steps: []api.Step{}}, true)
	checkSame(t, of(1, 1), api.Scheme{Cols: 1, Rows: 1, Steps: make([]api.Step, 0, 4)}, true)
	checkSame(t, of(1, 1), of(1, 1, api.Step{}), false)
	for _, w := range wrongSides {
		checkSame(t, of(w, 1), of(w, 1), true)
		checkSame(t, of(w, w), of(w, w), true)
		checkSame(t, of(w, 1), of(1, w), false)
		checkSame(t, of(w, 1), of(w+1, 1), false)
		checkSame(t, of(1, w), of(1, w-1), false)
	}
	for i, a := range wrongSteps {
		for k, b := range wrongSteps {
			checkSame(t, of(2, 1, a), of(2, 1, b), i == k || a == b)
		}
	}
	long := slices.Repeat([]api.Step{fromLeft(1)}, many)
	other := slices.Clone(long)
	checkSame(t, of(8, 8, long...), of(8, 8, other...), true)
	other[many-1].Under = true
	checkSame(t, of(8, 8, long...), of(8, 8, other...), false)
	checkSame(t, of(8, 8, long...), of(8, 8, long[:many-1]...), false)
}

// P12.2: all names, in the catalogue's order.
func TestNames(t *testing.T) {
	want := []string{"F2-1", "F4-1", "F4-2", "F6-1", "F6-2", "F8-1", "F8-2", "F8-3", "F12-1", "F12-2", "F16-1", "F16-2", "F16-3",
		"F16-4", "F24-1", "F24-2", "F32-1", "F32-2", "F48-1", "F64-1", "F128-1"}
	if l := Names(); !slices.Equal(l, want) {
		t.Fatalf("Names() = %q", l)
	}
	for i, e := range known() {
		if e.name != want[i] {
			t.Fatalf("the name %d is %q", i, e.name)
		}
	}
}

// P12.2: what is nearly a name is none.
func TestFindOfOtherTexts(t *testing.T) {
	for _, e := range known() {
		for i := range len(e.name) {
			checkNoFind(t, e.name[:i])
			checkNoFind(t, e.name[i+1:])
			checkNoFind(t, e.name[:i]+" "+e.name[i:])
			// F12-1 with an octet less is F2-1, which is another name.
			shorter := e.name[:i] + e.name[i+1:]
			if !slices.ContainsFunc(known(), func(o entry) bool { return o.name == shorter }) {
				checkNoFind(t, shorter)
			}
		}
		for _, ahead := range []string{" ", "\t", "\n", "\x00", "F", "0", "+", "-", "\"", "\xff"} {
			checkNoFind(t, ahead+e.name)
			checkNoFind(t, e.name+ahead)
		}
		checkNoFind(t, strings.ToLower(e.name))
		checkNoFind(t, e.name+" "+e.name)
		checkNoFind(t, e.name+e.name)
		checkNoFind(t, `"`+e.name+`"`)
		checkNoFind(t, strings.Replace(e.name, "-", " ", 1))
		checkNoFind(t, strings.Replace(e.name, "-", "--", 1))
		checkNoFind(t, strings.Replace(e.name, "-", "-0", 1))
		checkNoFind(t, strings.Replace(e.name, "F", "F0", 1))
	}
	for _, name := range []string{"", " ", "F", "F-", "F-1", "F8", "F8-", "8-1", "F8-0", "F8-4", "F8-11", "F0-1", "F1-1", "F3-1",
		"F6-3", "F10-1", "F128-2", "F256-1", "f8-1", "1x1", "2x1", "2x1 L1", "F4-1 2x1 L1", "F4-1 2 1 L1", "x", "L1", "F8–1"} {
		checkNoFind(t, name)
	}
}

// P12.2: of all short texts, just the names.
func TestFindOfShortTexts(t *testing.T) {
	named := map[string]api.Scheme{}
	for _, e := range known() {
		named[e.name] = e.s
	}
	found := 0
	short("F-x 124863", 5, func(s string) {
		if meant, is := named[s]; is {
			found++
			checkFind(t, s, meant)
		} else if known, ok := Find(s); ok || !equal(known, api.Scheme{}) {
			t.Fatalf("Find(%q) = %v, %v", s, known, ok)
		}
	})
	if found != 20 {
		t.Fatalf("%d names of at most 5 octets", found)
	}
}

// short calls do with each text of at most n of the alphabet's octets.
func short(alphabet string, n int, do func(string)) {
	var longer func(s string)
	longer = func(s string) {
		do(s)
		if len(s) == n {
			return
		}
		for i := range len(alphabet) {
			longer(s + alphabet[i:i+1])
		}
	}
	longer("")
}

// neighbours: schemes that differ from s in one thing.
func neighbours(s api.Scheme) []api.Scheme {
	l := []api.Scheme{of(s.Cols+1, s.Rows, s.Steps...), of(s.Cols-1, s.Rows, s.Steps...), of(s.Cols, s.Rows+1, s.Steps...),
		of(s.Cols, s.Rows-1, s.Steps...)}
	for i := range len(s.Steps) + 1 {
		l = append(l, of(s.Cols, s.Rows, slices.Insert(slices.Clone(s.Steps), i, fromRight(2))...))
	}
	for i, f := range s.Steps {
		l = append(l, of(s.Cols, s.Rows, slices.Delete(slices.Clone(s.Steps), i, i+1)...))
		for _, other := range []api.Step{{Side: f.Side, N: f.N, Under: !f.Under}, {Side: f.Side, N: f.N + 1, Under: f.Under},
			{Side: f.Side, N: f.N - 1, Under: f.Under}, {Side: 5 - f.Side, N: f.N, Under: f.Under}, {Side: f.Side + 4, N: f.N, Under: f.Under}} {
			steps := slices.Clone(s.Steps)
			steps[i] = other
			l = append(l, of(s.Cols, s.Rows, steps...))
		}
	}
	return l
}

// plain tells s by its parts, by this test's own words; empty, if it can't.
func plain(s api.Scheme) string {
	if s.Cols < 1 || s.Cols > 64 || s.Rows < 1 || s.Rows > 64 || len(s.Steps) > 6 {
		return ""
	}
	t := strconv.Itoa(s.Cols) + "x" + strconv.Itoa(s.Rows)
	for _, f := range s.Steps {
		if f.Side < 1 || f.Side > 4 || f.N < 1 || f.N > 64 {
			return ""
		}
		t += " " + string("LRBT"[f.Side-1]) + strconv.Itoa(f.N)
		if f.Under {
			t += "u"
		}
	}
	return t
}

// P12.2, P12.3: what differs from a scheme of the catalogue in one thing has
// no name but another one's, and is told by its parts, if it has a text.
func TestNeighboursOfTheCatalogue(t *testing.T) {
	names := map[string]string{}
	for _, e := range known() {
		names[plain(e.s)] = e.name
	}
	for _, e := range known() {
		for _, s := range neighbours(e.s) {
			text := plain(s)
			if name, is := names[text]; is {
				checkName(t, s, name)
				checkText(t, s, name)
				continue
			}
			checkNoName(t, s)
			if text == "" {
				checkNoPut(t, s)
			} else {
				checkText(t, s, text)
			}
		}
	}
}

// P12.3: schemes of one's own; they need not be right.
func TestPutAndGet(t *testing.T) {
	checkText(t, of(2, 1, fromRight(1)), "2x1 R1")
	checkText(t, of(2, 1, below(fromLeft(1))), "2x1 L1u")
	checkText(t, of(5, 1, fromLeft(2), fromRight(1), fromLeft(1)), "5x1 L2 R1 L1")
	checkText(t, of(3, 3, fromLeft(1), fromBottom(1), fromTop(1), below(fromRight(1))), "3x3 L1 B1 T1 R1u")
	checkText(t, of(12, 34, below(fromTop(56)), fromBottom(64)), "12x34 T56u B64")
	checkText(t, of(1, 1, fromLeft(64)), "1x1 L64")
	checkText(t, of(2, 1), "2x1")
	checkText(t, of(2, 2, fromLeft(1), fromBottom(1)), "2x2 L1 B1")
	checkText(t, of(64, 64, fromLeft(1)), "64x64 L1")
	checkText(t, of(8, 1, fromLeft(3), fromLeft(2), fromLeft(1), fromLeft(1)), "8x1 L3 L2 L1 L1")
}

// P12.3: without steps, of all sides; 1 by 1 has a name.
func TestPutAndGetOfAllSides(t *testing.T) {
	for cols := -1; cols <= 66; cols++ {
		for rows := -1; rows <= 66; rows++ {
			text := strconv.Itoa(cols) + "x" + strconv.Itoa(rows)
			switch {
			case cols == 1 && rows == 1:
				checkPut(t, of(1, 1), "F2-1")
				checkNoGet(t, text)
			case cols < 1 || rows < 1 || cols > 64 || rows > 64:
				checkNoPut(t, of(cols, rows))
				checkNoGet(t, text)
			default:
				checkText(t, of(cols, rows), text)
			}
		}
	}
}

// P12.3: each right step, alone, and behind and ahead of others.
func TestPutAndGetOfAllSteps(t *testing.T) {
	for i, letter := range []string{"L", "R", "B", "T"} {
		for n := 1; n <= 64; n++ {
			f := api.Step{Side: i + 1, N: n}
			part := letter + strconv.Itoa(n)
			checkText(t, of(7, 9, f), "7x9 "+part)
			checkText(t, of(7, 9, below(f)), "7x9 "+part+"u")
			checkText(t, of(1, 64, fromTop(2), f, below(f), below(fromRight(3))), "1x64 T2 "+part+" "+part+"u R3u")
		}
	}
}

// P12.3: up to 6 steps.
func TestPutAndGetOfManySteps(t *testing.T) {
	l := []api.Step{fromLeft(1), below(fromRight(2)), fromBottom(3), below(fromTop(4)), fromLeft(64), fromRight(6), fromTop(7)}
	parts := []string{"9x8", "L1", "R2u", "B3", "T4u", "L64", "R6", "T7"}
	for n := range 7 {
		checkText(t, of(9, 8, l[:n]...), strings.Join(parts[:n+1], " "))
	}
	checkNoPut(t, of(9, 8, l...))
	checkNoGet(t, parts...)
	checkNoPut(t, of(8, 1, slices.Repeat([]api.Step{fromLeft(1)}, 7)...))
	checkNoText(t, "8x1 L1 L1 L1 L1 L1 L1 L1")
	checkText(t, of(7, 1, slices.Repeat([]api.Step{fromLeft(1)}, 6)...), "7x1 L1 L1 L1 L1 L1 L1")
	checkNoPut(t, of(8, 8, slices.Repeat([]api.Step{fromLeft(1)}, many)...))
	checkNoPut(t, of(8, 8, make([]api.Step, many)...))
	for _, e := range known() {
		for len(e.s.Steps) < 7 {
			e.s.Steps = append(e.s.Steps, fromLeft(1))
		}
		checkNoPut(t, e.s)
		checkNoName(t, e.s)
	}
}

// P12.3: a wrong step at any place.
func TestPutOfWrongSteps(t *testing.T) {
	for _, w := range wrongSteps {
		checkNoPut(t, of(1, 1, w))
		checkNoName(t, of(1, 1, w))
		for _, e := range known() {
			for i := range len(e.s.Steps) + 1 {
				s := of(e.s.Cols, e.s.Rows, slices.Insert(slices.Clone(e.s.Steps), i, w)...)
				checkNoPut(t, s)
				checkNoName(t, s)
			}
		}
	}
}

// P12.3: a scheme of the catalogue, told by its parts, is none; nor is its
// name with something behind it, or ahead.
func TestGetOfTheCatalogueToldOtherwise(t *testing.T) {
	checkNoGet(t, "2x1", "L1") // the chapter's example
	for _, e := range known() {
		parts := strings.Split(plain(e.s), " ")
		checkNoGet(t, parts...)
		checkNoGet(t, plain(e.s)+" ")
		checkNoGet(t, append([]string{e.name}, parts...)...)
		if len(parts) > 1 {
			checkNoGet(t, append([]string{e.name}, parts[1:]...)...)
		}
		checkNoGet(t, append(parts, e.name)...)
		checkNoGet(t, e.name, e.name)
		checkNoGet(t, e.name, "F2-1")
		checkNoGet(t, e.name, "")
		checkNoGet(t, "", e.name)
		checkNoGet(t, e.name, "L1")
		checkNoGet(t, e.name, "R64u")
		checkNoGet(t, "2x1", e.name)
		checkNoGet(t, e.name+" ")
		checkNoGet(t, " "+e.name)
		checkNoGet(t, strings.ToLower(e.name))
		checkNoGet(t, e.name[:len(e.name)-1])
		checkNoGet(t, strings.Fields(strings.ReplaceAll(plain(e.s), "x", " "))...)
	}
}

// P12.3: no part at all, and empty ones.
func TestGetOfNothing(t *testing.T) {
	checkNoGet(t)
	checkNoGet(t, []string{}...)
	for n := 1; n <= 9; n++ {
		checkNoGet(t, make([]string, n)...)
	}
	checkNoGet(t, "", "2x3")
	checkNoGet(t, "2x3", "")
	checkNoGet(t, "2x3", "", "L1")
	checkNoGet(t, "2x3", "L1", "")
	checkNoGet(t, "", "2x3", "L1")
}

// P12.3: a part is what stands between blanks.
func TestGetOfPartsWithBlanks(t *testing.T) {
	for _, l := range [][]string{{"2x3 L1"}, {"2x3 L1 B1"}, {"2x3", "L1 B1"}, {"2x3 L1", "B1"}, {" 2x3"}, {"2x3 "}, {"2 x3"}, {"2x 3"},
		{"2 x 3"}, {"2", "x", "3"}, {"2x", "3"}, {"2", "x3"}, {" "}, {"2x3", " "}, {"2x3", " L1"}, {"2x3", "L1 "}, {"2x3", "L 1"},
		{"2x3", "L1 u"}, {"2x3\t"}, {"\t2x3"}, {"2x3\n"}, {"2x3", "L1\n"}, {"2x3", "\tL1"}, {"2x3\tL1"}, {"2x3,L1"}, {"F8-1 "}, {" F8-1"}} {
		checkNoGet(t, l...)
	}
}

// P12.3: of the first part, each number as it is written, from 1 to 64, and
// one small x between.
func TestGetOfWrongSides(t *testing.T) {
	for _, n := range []string{"", "0", "00", "01", "02", "064", "+1", "+2", "-1", "-2", "-0", "65", "66", "99", "100", "128", "641", "257",
		"4294967297", "9223372036854775807", "9223372036854775808", "-9223372036854775808", "18446744073709551617",
		"1.0", "2.", "1e0", "0x2", "0b1", "1_0", "2u", "L2", "a", "F2-1", "１", "٢", "2\x00", "\x002", "\xff"} {
		for _, other := range []string{"1", "2", "64"} {
			for _, behind := range [][]string{{}, {"L1"}, {"L1", "B1"}} {
				checkNoGet(t, append([]string{n + "x" + other}, behind...)...)
				checkNoGet(t, append([]string{other + "x" + n}, behind...)...)
			}
		}
		checkNoGet(t, n+"x"+n)
	}
	for _, first := range []string{"2", "23", "64", "x", "xx", "X", "2X3", "2xx3", "2x3x", "x2x3", "2x3x4", "2x3X", "X2x3", "2×3", "2*3",
		"2-3", "2,3", "2/3", "2:3", "2by3", "2x", "x3", "2x3u", "2x3L1", "L1", "L1x1", "3x2;", "\"2x3\"", "2x3#", "#"} {
		for _, behind := range [][]string{{}, {"L1"}, {"L1", "B1"}} {
			checkNoGet(t, append([]string{first}, behind...)...)
		}
	}
}

// P12.3: a part that is no step, at each place.
func TestGetOfWrongSteps(t *testing.T) {
	well := []string{"9x8", "L1", "R2u", "B3", "T4u"}
	checkGet(t, of(9, 8, fromLeft(1), below(fromRight(2)), fromBottom(3), below(fromTop(4))), well...)
	for _, w := range []string{"", "L", "1", "u", "L0", "L01", "L+1", "L-1", "L65", "L100", "L4294967297", "l1", "L1U", "L1uu", "Lu1", "1L",
		"X1", "F1", "LL1", "L1L1", "L1 R1", "L1,", "L1\n", "2x3", "1x1", "F2-1", "F8-1", "x", "Ł1", "L１", "\x00", "\xff", "left1", "L1over"} {
		for i := 1; i <= len(well); i++ {
			checkNoGet(t, slices.Insert(slices.Clone(well), i, w)...)
			if i < len(well) {
				l := slices.Clone(well)
				l[i] = w
				checkNoGet(t, l...)
			}
		}
		checkNoGet(t, "1x1", w)
		checkNoGet(t, "2x1", w)
	}
	checkNoGet(t, "L1")
	checkNoGet(t, "L1", "2x3")
	checkNoGet(t, "2x3", "2x3")
}

// P12.3: very many parts, and very long ones, are none, and are no trouble.
func TestGetOfVeryMuch(t *testing.T) {
	for _, part := range []string{"", "L1", "2x3", "F2-1", " ", "x", "1"} {
		l := slices.Repeat([]string{part}, many)
		checkNoGet(t, l...)
		l[0] = "2x3"
		checkNoGet(t, l...)
		l[0] = "F2-1"
		checkNoGet(t, l...)
	}
	for _, part := range []string{"1", "0", "x", "X", "L", "L1", "L1 ", "u", "F8-1", " ", "-", "2x3", "\x00", "\xff"} {
		long := strings.Repeat(part, many)
		checkNoGet(t, long)
		checkNoGet(t, "2x"+long)
		checkNoGet(t, long+"x3")
		checkNoGet(t, "2x3"+long)
		checkNoGet(t, "F8-1"+long)
		checkNoGet(t, "2x3", long)
		checkNoGet(t, "2x3", "L"+long)
		checkNoGet(t, "2x3", "L1u"+long)
		checkNoGet(t, "2x3", "L1", long)
		checkNoFind(t, long)
		checkNoFind(t, "F8-1"+long)
	}
}

// P12.3: of all short rows of up to two parts, just those that some scheme is
// told by.
func TestGetOfShortTexts(t *testing.T) {
	told := map[string]api.Scheme{}
	for _, e := range known() {
		told[e.name] = e.s
	}
	var all []api.Scheme
	for cols := 1; cols <= 64; cols++ {
		for rows := 1; rows <= 64; rows++ {
			all = append(all, of(cols, rows), of(cols, rows, fromLeft(1)), of(cols, rows, below(fromRight(2))))
		}
	}
	for _, s := range all {
		if !slices.ContainsFunc(known(), func(e entry) bool { return equal(e.s, s) }) {
			told[plain(s)] = s
		}
	}
	for _, steps := range []string{"", " L1", " R2u"} {
		short("1260x8F-+", 5, func(first string) {
			text := first + steps
			if meant, is := told[text]; is {
				checkGet(t, meant, strings.Split(text, " ")...)
			} else {
				checkNoText(t, text)
			}
		})
	}
}

// counted folds s by taking panels away one by one, each of which lies on one
// that stays: is it right?
func counted(s api.Scheme) bool {
	if s.Cols < 1 || s.Rows < 1 || s.Cols*s.Rows > 64 || len(s.Steps) > 6 {
		return false
	}
	sides := [2]int{s.Cols, s.Rows}
	for _, f := range s.Steps {
		if f.Side < 1 || f.Side > 4 || f.N < 1 {
			return false
		}
		side := &sides[(f.Side-1)/2]
		for range f.N {
			*side--
		}
		if *side < f.N {
			return false
		}
	}
	return sides == [2]int{1, 1}
}

// P12.1, P12.3: all schemes of a few panels and up to three steps: those that
// are right, as counted, and all told and read again.
func TestAllSmallSchemes(t *testing.T) {
	names := map[string]string{}
	for _, e := range known() {
		names[plain(e.s)] = e.name
	}
	var steps []api.Step
	for side := 1; side <= 4; side++ {
		for n := 1; n <= 2; n++ {
			steps = append(steps, api.Step{Side: side, N: n}, api.Step{Side: side, N: n, Under: true})
		}
	}
	right := 0
	var longer func(s api.Scheme)
	longer = func(s api.Scheme) {
		checkRight(t, s, counted(s))
		if Right(s) {
			right++
		}
		text := plain(s)
		if name, is := names[text]; is {
			text = name
		}
		checkText(t, s, text)
		if len(s.Steps) == 3 {
			return
		}
		for _, f := range steps {
			longer(of(s.Cols, s.Rows, append(slices.Clone(s.Steps), f)...))
		}
	}
	for cols := 1; cols <= 4; cols++ {
		for rows := 1; rows <= 2; rows++ {
			longer(of(cols, rows))
		}
	}
	if right == 0 {
		t.Fatal("none of them is right")
	}
}

// P2: a list that was answered, changed, changes no later answer, and no other
// one.
func TestAnswersAreNew(t *testing.T) {
	l := Names()
	other := Names()
	for i := range l {
		l[i] = "F8-1"
	}
	_ = append(l[:0], "none")
	if Names()[0] != "F2-1" || other[0] != "F2-1" || Names()[20] != "F128-1" {
		t.Fatalf("Names() = %q", Names())
	}
	for _, e := range known() {
		for range 2 {
			found, _ := Find(e.name)
			read, _ := Get(e.name)
			for _, s := range []api.Scheme{found, read} {
				s.Steps = append(s.Steps, fromTop(9))
				for i := range s.Steps[:cap(s.Steps)] {
					s.Steps[:cap(s.Steps)][i] = api.Step{Side: 9, N: 99, Under: true}
				}
				checkFind(t, e.name, e.s)
				checkGet(t, e.s, e.name)
				checkName(t, e.s, e.name)
				checkPut(t, e.s, e.name)
			}
		}
	}
	own, _ := Get("9x8", "L1", "T2u")
	own.Steps[0] = fromTop(9)
	checkGet(t, of(9, 8, fromLeft(1), below(fromTop(2))), "9x8", "L1", "T2u")
}

// P2: what is handed in stays as it was, also behind its end.
func TestArgumentsStay(t *testing.T) {
	steps := []api.Step{fromLeft(2), fromLeft(1), {Side: 7, N: 99, Under: true}, fromTop(1)}
	kept := slices.Clone(steps)
	for n := range len(steps) + 1 {
		s := of(4, 1, steps[:n]...)
		Right(s)
		Panels(s)
		Same(s, s)
		Name(s)
		Put(s)
		if !slices.Equal(steps, kept) {
			t.Fatalf("the steps are %v now; they were %v", steps, kept)
		}
	}
	parts := []string{"9x8", "L1", "T2u", "none", "F8-1"}
	was := slices.Clone(parts)
	for n := range len(parts) + 1 {
		s, _ := Get(parts[:n]...)
		_ = append(s.Steps, fromLeft(1))
		if !slices.Equal(parts, was) {
			t.Fatalf("the parts are %q now; they were %q", parts, was)
		}
	}
	if s, ok := Get(parts[:3]...); !ok {
		t.Fatal("no scheme")
	} else {
		parts[1] = "R5"
		if !equal(s, of(9, 8, fromLeft(1), below(fromTop(2)))) {
			t.Fatalf("the scheme is %v now", s)
		}
	}
}

// P3: what was asked ahead is one to an answer.
func TestAnswersStayTheSame(t *testing.T) {
	for range 3 {
		checkNoFind(t, "F8-9")
		checkFind(t, "F8-1", of(2, 2, fromBottom(1), fromLeft(1)))
		checkNoGet(t, "2x2", "B1", "L1")
		checkGet(t, of(2, 2, fromLeft(1), fromBottom(1)), "2x2", "L1", "B1")
		checkNoPut(t, of(65, 1))
		checkPut(t, of(64, 1), "64x1")
		checkRight(t, of(2, 2), false)
		checkRight(t, of(1, 1), true)
		if len(Names()) != 21 {
			t.Fatalf("%d names", len(Names()))
		}
	}
}

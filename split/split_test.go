package split

import (
	"math"
	"slices"
	"strings"
	"testing"

	"gatherum/api"
	"gatherum/bounds"
	"gatherum/scheme"
)

const (
	lowest  = math.MinInt
	highest = math.MaxInt
	// many is more last names, or steps, than any job has.
	many = 1 << 20
)

// wrongs: numbers that are neither pages nor sides; some of them have small
// products with others, if these go round.
var wrongs = [...]int{0, -1, -2, -20, -64, 100_001, 100_002, 1 << 31, 1 << 32, 1<<32 + 1, 1<<32 + 20, 1 << 62, 1<<62 + 1,
	-1 << 32, 1 - 1<<32, highest - 1, highest, lowest + 1, lowest}

// named: the scheme that a text tells.
func named(t *testing.T, text string) api.Scheme {
	t.Helper()
	s, ok := scheme.Get(strings.Split(text, " ")...)
	if !ok {
		t.Fatalf("no scheme %q", text)
	}
	return s
}

// all: the schemes that the texts tell.
func all(t *testing.T, texts ...string) []api.Scheme {
	t.Helper()
	var l []api.Scheme
	for _, text := range texts {
		l = append(l, named(t, text))
	}
	return l
}

// job: bound so, of so many pages, folded as a text tells, with last ones.
func job(t *testing.T, binding, pages int, folds string, last ...string) api.Job {
	t.Helper()
	j := bounds.Usual()
	j.Binding, j.Pages, j.Folds, j.Last = binding, pages, named(t, folds), last
	return j
}

// stack: bound by Stack, of so many pages, with so many columns and rows.
func stack(pages, cols, rows int) api.Job {
	j := bounds.Usual()
	j.Binding, j.Pages, j.Folds = api.Stack, pages, api.Scheme{Cols: cols, Rows: rows}
	return j
}

// brief: a job that a failure may show whole.
func brief(j api.Job) api.Job {
	j.Folds.Steps = j.Folds.Steps[:min(len(j.Folds.Steps), 9)]
	j.Last = slices.Clone(j.Last[:min(len(j.Last), 9)])
	for i, name := range j.Last {
		j.Last[i] = name[:min(len(name), 20)]
	}
	j.Title = j.Title[:min(len(j.Title), 20)]
	return j
}

func checkFolds(t *testing.T, j api.Job, meant bool) {
	t.Helper()
	if Folds(j) != meant {
		t.Fatalf("Folds(%+v) = %v", brief(j), !meant)
	}
}

func checkLast(t *testing.T, j api.Job, meant bool) {
	t.Helper()
	if Last(j) != meant {
		t.Fatalf("Last(%+v) = %v", brief(j), !meant)
	}
}

// checkAt: the i-th signature of j is folded so.
func checkAt(t *testing.T, j api.Job, i int, meant api.Scheme) {
	t.Helper()
	if s, ok := At(j, i); !scheme.Same(s, meant) || !ok {
		t.Fatalf("At(%+v, %d) = %v, %v; meant: %v, true", brief(j), i, s, ok, meant)
	}
}

// checkNoAt: j has no i-th signature.
func checkNoAt(t *testing.T, j api.Job, i int) {
	t.Helper()
	if s, ok := At(j, i); !scheme.Same(s, api.Scheme{}) || ok {
		t.Fatalf("At(%+v, %d) = %v, %v; meant: a zero scheme, false", brief(j), i, s, ok)
	}
}

// checkCounts: how many signatures, leaves and blank pages j has.
func checkCounts(t *testing.T, j api.Job, count, leaves, blanks int) {
	t.Helper()
	if c, l, b := Count(j), Leaves(j), Blanks(j); c != count || l != leaves || b != blanks {
		t.Fatalf("Count, Leaves, Blanks of %+v = %d, %d, %d; meant: %d, %d, %d", brief(j), c, l, b, count, leaves, blanks)
	}
}

// checkNone: nothing that an answer tells of j.
func checkNone(t *testing.T, j api.Job) {
	t.Helper()
	if l := Of(j); len(l) != 0 {
		t.Fatalf("Of(%+v) has %d", brief(j), len(l))
	}
	checkCounts(t, j, 0, 0, 0)
	for _, i := range []int{0, -1, 1, 2, lowest, highest} {
		checkNoAt(t, j, i)
	}
}

// checkRight: the folds and the last ones of j are right.
func checkRight(t *testing.T, j api.Job) {
	t.Helper()
	checkFolds(t, j, true)
	checkLast(t, j, true)
}

// checkWrongFolds: the folds of j are not right: nothing else is told.
func checkWrongFolds(t *testing.T, j api.Job) {
	t.Helper()
	checkFolds(t, j, false)
	checkLast(t, j, false)
	checkNone(t, j)
}

// checkWrongLast: the folds of j are right, its last ones are not.
func checkWrongLast(t *testing.T, j api.Job) {
	t.Helper()
	checkFolds(t, j, true)
	checkLast(t, j, false)
	checkNone(t, j)
}

// checkSignatures: the signatures of j are these, by all that is told of them.
func checkSignatures(t *testing.T, j api.Job, meant ...api.Scheme) {
	t.Helper()
	checkRight(t, j)
	if l := Of(j); !slices.EqualFunc(l, meant, scheme.Same) {
		t.Fatalf("Of(%+v) has %d; meant: %d\n%v\n%v", brief(j), len(l), len(meant), l[:min(len(l), 9)], meant[:min(len(meant), 9)])
	}
	leaves := 0
	for i, s := range meant {
		leaves += s.Cols * s.Rows
		if i < 3 || i > len(meant)-3 {
			checkAt(t, j, i, s)
		}
	}
	checkCounts(t, j, len(meant), leaves, 2*leaves-j.Pages)
	for _, i := range []int{-1, -2, -len(meant), len(meant), len(meant) + 1, lowest, lowest + 1, highest - 1, highest} {
		checkNoAt(t, j, i)
	}
}

// checkTexts: the signatures of j are those that the texts tell.
func checkTexts(t *testing.T, j api.Job, meant ...string) {
	t.Helper()
	checkSignatures(t, j, all(t, meant...)...)
}

// P17.2: the chapter's example, and the usual job.
func TestExamples(t *testing.T) {
	checkTexts(t, job(t, api.Saddle, 20, "F8-1", "F4-1"), "F8-1", "F8-1", "F4-1")
	checkCounts(t, job(t, api.Saddle, 20, "F8-1", "F4-1"), 3, 10, 0)
	checkTexts(t, bounds.Usual(), "F8-1", "F8-1")
	checkCounts(t, bounds.Usual(), 2, 8, 0)
}

// P17.2: pages that are just taken, one more and one fewer, however a job is
// bound.
func TestPagesAroundASignaturesEnd(t *testing.T) {
	for _, binding := range []int{api.Saddle, api.Perfect, api.ComeGo, 0, 5} {
		checkTexts(t, job(t, binding, 1, "F8-1"), "F8-1")
		checkTexts(t, job(t, binding, 7, "F8-1"), "F8-1")
		checkTexts(t, job(t, binding, 8, "F8-1"), "F8-1")
		checkTexts(t, job(t, binding, 9, "F8-1"), "F8-1", "F8-1")
		checkTexts(t, job(t, binding, 15, "F8-1"), "F8-1", "F8-1")
		checkTexts(t, job(t, binding, 16, "F8-1"), "F8-1", "F8-1")
		checkTexts(t, job(t, binding, 17, "F8-1"), "F8-1", "F8-1", "F8-1")
		checkCounts(t, job(t, binding, 9, "F8-1"), 2, 8, 7)
		checkCounts(t, job(t, binding, 15, "F8-1"), 2, 8, 1)
		checkTexts(t, job(t, binding, 7, "F6-1"), "F6-1", "F6-1")
		checkTexts(t, job(t, binding, 6, "F6-1"), "F6-1")
		checkTexts(t, job(t, binding, 3, "F2-1"), "F2-1", "F2-1")
		checkTexts(t, job(t, binding, 2, "F2-1"), "F2-1")
		checkTexts(t, job(t, binding, 128, "F128-1"), "F128-1")
		checkTexts(t, job(t, binding, 129, "F128-1"), "F128-1", "F128-1")
		checkTexts(t, job(t, binding, 15, "7x1 L1 L1 L1 L1 L1 L1"), "7x1 L1 L1 L1 L1 L1 L1", "7x1 L1 L1 L1 L1 L1 L1")
		checkTexts(t, job(t, binding, 9, "2x2 T1u R1"), "2x2 T1u R1", "2x2 T1u R1")
	}
}

// P17.2: each scheme of the catalogue, by itself; whether it nests or not is
// nothing to Folds.
func TestEachOfTheCatalogue(t *testing.T) {
	for _, name := range scheme.Names() {
		s := named(t, name)
		takes := 2 * s.Cols * s.Rows
		for _, binding := range []int{api.Saddle, api.Perfect, api.ComeGo} {
			checkSignatures(t, job(t, binding, takes, name), s)
			checkSignatures(t, job(t, binding, takes+1, name), s, s)
			checkSignatures(t, job(t, binding, 2*takes, name), s, s)
			checkSignatures(t, job(t, binding, 3*takes-1, name), s, s, s)
		}
	}
}

// P17.2: 1 page, and 100,000; fewer and more are none.
func TestTheFewestAndTheMostPages(t *testing.T) {
	one := named(t, "F2-1")
	checkSignatures(t, job(t, api.Perfect, 1, "F2-1"), one)
	checkCounts(t, job(t, api.Perfect, 1, "F2-1"), 1, 1, 1)
	checkCounts(t, job(t, api.Perfect, 1, "F128-1"), 1, 64, 127)
	checkSignatures(t, job(t, api.Perfect, 100_000, "F2-1"), slices.Repeat([]api.Scheme{one}, 50_000)...)
	checkSignatures(t, job(t, api.Perfect, 99_999, "F2-1"), slices.Repeat([]api.Scheme{one}, 50_000)...)
	checkCounts(t, job(t, api.Perfect, 100_000, "F2-1"), 50_000, 50_000, 0)
	checkCounts(t, job(t, api.Saddle, 100_000, "F128-1"), 782, 50_048, 96)
	// 781 of 128 pages leave 32.
	checkCounts(t, job(t, api.Saddle, 100_000, "F128-1", "F32-1", "F16-1"), 782, 50_000, 0)
	checkAt(t, job(t, api.Saddle, 100_000, "F128-1", "F32-1", "F16-1"), 781, named(t, "F32-1"))
	checkCounts(t, stack(100_000, 1, 1), 50_000, 50_000, 0)
	checkCounts(t, stack(100_000, 64, 1), 782, 50_048, 96)
	for _, pages := range []int{0, 100_001} {
		for _, j := range []api.Job{job(t, api.Saddle, pages, "F8-1"), job(t, api.Perfect, pages, "F8-1", "F4-1"),
			job(t, api.ComeGo, pages, "F2-1"), stack(pages, 2, 1), job(t, 0, pages, "F8-1")} {
			checkRight(t, j)
			checkNone(t, j)
		}
	}
}

// P17.1: pages are nothing to Folds and Last, and all to the others.
func TestWrongPages(t *testing.T) {
	for _, pages := range wrongs {
		for _, j := range []api.Job{job(t, api.Saddle, pages, "F8-1", "F4-1"), job(t, api.Perfect, pages, "F128-1", "F64-1", "F2-1"),
			stack(pages, 8, 8), job(t, api.ComeGo, pages, "F2-1")} {
			checkRight(t, j)
			checkNone(t, j)
		}
		checkWrongLast(t, job(t, api.ComeGo, pages, "F8-1", "F4-1"))
		checkWrongFolds(t, stack(pages, 65, 1))
	}
}

// P17.1, P17.2: by Stack columns and rows, and nothing folded.
func TestStack(t *testing.T) {
	for _, p := range [][2]int{{1, 1}, {8, 8}, {64, 1}, {1, 64}, {2, 1}, {1, 2}, {5, 12}, {63, 1}, {9, 7}, {2, 32}, {21, 3}} {
		s := api.Scheme{Cols: p[0], Rows: p[1]}
		takes := 2 * p[0] * p[1]
		checkSignatures(t, stack(1, p[0], p[1]), s)
		checkSignatures(t, stack(takes, p[0], p[1]), s)
		checkSignatures(t, stack(takes+1, p[0], p[1]), s, s)
		checkSignatures(t, stack(3*takes-1, p[0], p[1]), s, s, s)
	}
	// The last example but one of the whole: 7 pages, 2 by 1: page 8 is blank.
	checkCounts(t, stack(7, 2, 1), 2, 4, 1)
}

// P17.1: by Stack too many panels, too few, or a step, though it be right.
func TestWrongStack(t *testing.T) {
	for _, p := range [][2]int{{65, 1}, {1, 65}, {0, 1}, {1, 0}, {0, 0}, {8, 9}, {9, 8}, {64, 2}, {2, 64}, {33, 2}, {13, 5}, {64, 64},
		{65, 0}, {-1, -1}, {-8, -8}, {-1, 1}, {1, -1}} {
		checkWrongFolds(t, stack(16, p[0], p[1]))
	}
	for _, w := range wrongs {
		for _, n := range append(wrongs[:], 1, 2, 8, 64) {
			checkWrongFolds(t, stack(16, w, n))
			checkWrongFolds(t, stack(16, n, w))
		}
	}
	for _, name := range scheme.Names() {
		j := job(t, api.Stack, 16, name)
		if len(j.Folds.Steps) == 0 {
			checkRight(t, j)
			continue
		}
		checkWrongFolds(t, j)
	}
	for _, l := range [][]api.Step{{{}}, {{Side: api.Left, N: 1}}, {{Side: 9, N: -1}}, make([]api.Step, 7), make([]api.Step, many)} {
		j := stack(16, 2, 1)
		j.Folds.Steps = l
		checkWrongFolds(t, j)
		j.Folds.Cols = 1
		checkWrongFolds(t, j)
	}
}

// P17.1: not by Stack a scheme that is not right.
func TestWrongFolds(t *testing.T) {
	left, top := api.Step{Side: api.Left, N: 1}, api.Step{Side: api.Top, N: 1}
	for _, s := range []api.Scheme{{}, {Cols: 2, Rows: 1}, {Cols: 8, Rows: 8}, {Cols: 1, Rows: 1, Steps: []api.Step{left}},
		{Cols: 1, Rows: 1, Steps: []api.Step{{}}}, {Cols: 2, Rows: 1, Steps: []api.Step{top}}, {Cols: 2, Rows: 2, Steps: []api.Step{left}},
		{Cols: 0, Rows: 1}, {Cols: 65, Rows: 1}, {Cols: 8, Rows: 1, Steps: slices.Repeat([]api.Step{left}, 7)},
		{Cols: 2, Rows: 1, Steps: []api.Step{{Side: 5, N: 1}}}, {Cols: 2, Rows: 1, Steps: make([]api.Step, many)},
		{Cols: highest, Rows: lowest, Steps: []api.Step{left}}, {Cols: 1 << 32, Rows: 1 << 32}} {
		for _, binding := range []int{api.Saddle, api.Perfect, api.ComeGo, 0, 5, -1, lowest, highest, 1<<32 + api.Stack} {
			j := bounds.Usual()
			j.Binding, j.Folds = binding, s
			checkWrongFolds(t, j)
			j.Last = []string{"F2-1"}
			checkWrongFolds(t, j)
		}
	}
}

// P17.1: a binding that is none is neither Stack nor another one of the four:
// its folds are a right scheme, and any last ones may be fewer panels.
func TestWrongBindings(t *testing.T) {
	for _, binding := range []int{0, 5, -1, -3, 6, 7, lowest, lowest + 3, highest, 1<<32 + api.Stack, 1<<32 + api.Saddle, 1<<32 + api.ComeGo} {
		checkTexts(t, job(t, binding, 10, "F8-1", "F4-2", "F2-1"), "F8-1", "F2-1")
		checkWrongLast(t, job(t, binding, 10, "F8-1", "F8-2"))
		j := stack(10, 2, 1)
		j.Binding = binding
		checkWrongFolds(t, j)
	}
}

// P17.1: 4 last ones may be, 5 may not, though they be one and the same.
func TestFourLastOnes(t *testing.T) {
	names := []string{"F16-1", "F16-2", "F8-1", "F4-1", "F8-2"}
	for _, binding := range []int{api.Saddle, api.Perfect, 0} {
		for n := range 5 {
			checkRight(t, job(t, binding, 16, "F32-1", names[:n]...))
			checkRight(t, job(t, binding, 16, "F32-1", slices.Repeat([]string{"F4-1"}, n)...))
		}
		checkWrongLast(t, job(t, binding, 16, "F32-1", names...))
		checkWrongLast(t, job(t, binding, 16, "F32-1", slices.Repeat([]string{"F4-1"}, 5)...))
		checkWrongLast(t, job(t, binding, 16, "F32-1", slices.Repeat([]string{"F4-1"}, many)...))
		checkWrongLast(t, job(t, binding, 16, "F32-1", make([]string, many)...))
	}
}

// P17.1: by Stack and ComeGo none.
func TestNoLastOnes(t *testing.T) {
	for _, last := range [][]string{{"F4-1"}, {"F2-1"}, {""}, {"none"}, {"F4-1", "F2-1"}, {"F4-1", "F4-1", "F4-1", "F4-1"}} {
		j := stack(16, 8, 8)
		j.Last = last
		checkWrongLast(t, j)
		checkWrongLast(t, job(t, api.ComeGo, 16, "F128-1", last...))
	}
	for _, last := range [][]string{nil, {}} {
		j := stack(16, 8, 8)
		j.Last = last
		checkRight(t, j)
		checkRight(t, job(t, api.ComeGo, 16, "F128-1", last...))
	}
}

// P17.1: a last one has fewer panels than Folds, be it by one alone.
func TestPanelsOfLastOnes(t *testing.T) {
	names := scheme.Names()
	folds := append(slices.Clone(names), "5x1 L2 R1 L1", "7x1 L3 L2 L1", "9x1 L4 L2 R1 L1")
	for _, f := range folds {
		for _, name := range names {
			a, b := named(t, f), named(t, name)
			j := job(t, api.Perfect, 16, f, name)
			if b.Cols*b.Rows < a.Cols*a.Rows {
				checkRight(t, j)
			} else {
				checkWrongLast(t, j)
			}
		}
	}
	checkRight(t, job(t, api.Perfect, 16, "5x1 L2 R1 L1", "F8-1"))
	checkWrongLast(t, job(t, api.Perfect, 16, "F8-1", "F8-1"))
	checkWrongLast(t, job(t, api.Perfect, 16, "F8-1", "F8-2"))
	checkWrongLast(t, job(t, api.Perfect, 16, "F8-1", "F12-1"))
	checkWrongLast(t, job(t, api.Perfect, 16, "F2-1", "F2-1"))
}

// P17.1: one wrong name among right ones, wherever it stands; a scheme's text
// is no name.
func TestNamesOfLastOnes(t *testing.T) {
	for _, name := range []string{"", " ", "F4", "F4-", "F4-3", "f4-1", "F4-1 ", " F4-1", "F4-1\n", "F4-1\x00", "F04-1", "F4-01", "\xff\xfe",
		"\x00", `"F4-1"`, "2x1 L1", "2x1", "1x1", "F8-1", "F128-1", "F4–1", strings.Repeat("F4-1", many/4)} {
		for _, binding := range []int{api.Saddle, api.Perfect, 0} {
			checkWrongLast(t, job(t, binding, 10, "F8-1", name))
			checkWrongLast(t, job(t, binding, 10, "F8-1", name, "F4-1"))
			checkWrongLast(t, job(t, binding, 10, "F8-1", "F4-1", "F4-1", "F4-1", name))
		}
	}
}

// P17.1: by Saddle each of the last ones nests; by Perfect it need not. Folds
// itself need not for either: that is asked elsewhere.
func TestNestingLastOnes(t *testing.T) {
	for _, name := range []string{"F4-1", "F8-1", "F8-2"} {
		checkRight(t, job(t, api.Saddle, 16, "F16-1", name))
		checkRight(t, job(t, api.Perfect, 16, "F16-1", name))
	}
	for _, name := range []string{"F2-1", "F4-2", "F6-1", "F6-2", "F8-3"} {
		checkWrongLast(t, job(t, api.Saddle, 16, "F16-1", name))
		checkWrongLast(t, job(t, api.Saddle, 16, "F16-1", "F4-1", name))
		checkWrongLast(t, job(t, api.Saddle, 16, "F16-1", name, "F4-1"))
		checkRight(t, job(t, api.Perfect, 16, "F16-1", name))
	}
	checkTexts(t, job(t, api.Saddle, 8, "F6-1", "F4-1"), "F6-1", "F4-1")
	checkTexts(t, job(t, api.Saddle, 9, "F8-3", "F4-1"), "F8-3", "F4-1")
}

// P17.2: which of several last ones the last signature is: that of the fewest
// panels that takes what is left, the first of as few.
func TestTheLastSignature(t *testing.T) {
	lists := [][]string{{}, {"F4-1"}, {"F2-1"}, {"F4-1", "F2-1"}, {"F2-1", "F4-1"}, {"F4-1", "F4-2"}, {"F4-2", "F4-1"},
		{"F6-1", "F4-1", "F2-1"}, {"F4-2", "F6-2", "F4-1", "F6-1"}, {"F2-1", "F6-2", "F6-1", "F4-1"}, {"F6-1", "F6-2"}, {"F4-1", "F4-1"}}
	// By how many pages are left: from 1 to 8, as Folds takes.
	meant := [][8]string{
		{"F8-1", "F8-1", "F8-1", "F8-1", "F8-1", "F8-1", "F8-1", "F8-1"},
		{"F4-1", "F4-1", "F4-1", "F4-1", "F8-1", "F8-1", "F8-1", "F8-1"},
		{"F2-1", "F2-1", "F8-1", "F8-1", "F8-1", "F8-1", "F8-1", "F8-1"},
		{"F2-1", "F2-1", "F4-1", "F4-1", "F8-1", "F8-1", "F8-1", "F8-1"},
		{"F2-1", "F2-1", "F4-1", "F4-1", "F8-1", "F8-1", "F8-1", "F8-1"},
		{"F4-1", "F4-1", "F4-1", "F4-1", "F8-1", "F8-1", "F8-1", "F8-1"},
		{"F4-2", "F4-2", "F4-2", "F4-2", "F8-1", "F8-1", "F8-1", "F8-1"},
		{"F2-1", "F2-1", "F4-1", "F4-1", "F6-1", "F6-1", "F8-1", "F8-1"},
		{"F4-2", "F4-2", "F4-2", "F4-2", "F6-2", "F6-2", "F8-1", "F8-1"},
		{"F2-1", "F2-1", "F4-1", "F4-1", "F6-2", "F6-2", "F8-1", "F8-1"},
		{"F6-1", "F6-1", "F6-1", "F6-1", "F6-1", "F6-1", "F8-1", "F8-1"},
		{"F4-1", "F4-1", "F4-1", "F4-1", "F8-1", "F8-1", "F8-1", "F8-1"},
	}
	for i, last := range lists {
		for k, name := range meant[i] {
			checkTexts(t, job(t, api.Perfect, 1+k, "F8-1", last...), name)
			checkTexts(t, job(t, api.Perfect, 9+k, "F8-1", last...), "F8-1", name)
			checkTexts(t, job(t, 0, 25+k, "F8-1", last...), "F8-1", "F8-1", "F8-1", name)
		}
	}
}

// P17.2: last ones that all are too small for what is left; one that takes it
// just so.
func TestLastOnesThatAreTooSmall(t *testing.T) {
	last := []string{"F16-1", "F8-1", "F4-1", "F8-2"}
	checkTexts(t, job(t, api.Saddle, 17, "F32-1", last...), "F32-1")
	checkTexts(t, job(t, api.Saddle, 16, "F32-1", last...), "F16-1")
	checkTexts(t, job(t, api.Saddle, 32+17, "F32-1", last...), "F32-1", "F32-1")
	checkTexts(t, job(t, api.Saddle, 32+16, "F32-1", last...), "F32-1", "F16-1")
	checkTexts(t, job(t, api.Saddle, 32+9, "F32-1", last...), "F32-1", "F16-1")
	checkTexts(t, job(t, api.Saddle, 32+8, "F32-1", last...), "F32-1", "F8-1")
	checkTexts(t, job(t, api.Saddle, 32+5, "F32-1", last...), "F32-1", "F8-1")
	checkTexts(t, job(t, api.Saddle, 32+4, "F32-1", last...), "F32-1", "F4-1")
	checkTexts(t, job(t, api.Saddle, 32+1, "F32-1", last...), "F32-1", "F4-1")
	checkTexts(t, job(t, api.Saddle, 32+32, "F32-1", last...), "F32-1", "F32-1")
}

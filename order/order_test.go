package order

import (
	"math"
	"slices"
	"strconv"
	"strings"
	"testing"

	"gatherum/api"
	"gatherum/bounds"
	"gatherum/scheme"
	"gatherum/split"
)

const (
	lowest  = math.MinInt
	highest = math.MaxInt
)

// wrongs: numbers that nothing is counted to; some of them have small
// products with others, if these go round.
var wrongs = [...]int{-1, -2, -3, -64, 100_001, 1 << 31, 1 << 32, 1<<32 + 1, -1 << 32, 1 - 1<<32, 1 << 61, 1 << 62, 1<<62 + 1, -1 << 62,
	highest/2 + 1, highest - 1, highest, lowest/2 - 1, lowest + 1, lowest}

// from is where a leaf of the book comes from: a signature, and a leaf of it.
type from struct{ sig, at int }

// named: the scheme that a text tells.
func named(t *testing.T, text string) api.Scheme {
	t.Helper()
	s, ok := scheme.Get(strings.Split(text, " ")...)
	if !ok {
		t.Fatalf("no scheme %q", text)
	}
	return s
}

// job: bound so, of so many pages, folded as a text tells, with last ones.
func job(t *testing.T, binding, pages int, folds string, last ...string) api.Job {
	t.Helper()
	j := bounds.Usual()
	j.Binding, j.Pages, j.Folds, j.Last = binding, pages, named(t, folds), last
	return j
}

// stack: bound by Stack, of so many pages, with so many columns and rows.
func stack(pages, cols, rows int) api.Job {
	j := bounds.Usual()
	j.Binding, j.Pages, j.Folds = api.Stack, pages, api.Scheme{Cols: cols, Rows: rows}
	return j
}

// brief: a job that a failure may show whole.
func brief(j api.Job) api.Job {
	j.Folds.Steps = j.Folds.Steps[:min(len(j.Folds.Steps), 9)]
	j.Last = slices.Clone(j.Last[:min(len(j.Last), 9)])
	for i, name := range j.Last {
		j.Last[i] = name[:min(len(name), 20)]
	}
	j.Title = j.Title[:min(len(j.Title), 20)]
	return j
}

// read: leaves as a text such as "0.2 1.0" tells them: a signature's number,
// and its leaf's.
func read(t *testing.T, text string) []from {
	t.Helper()
	var l []from
	for _, word := range strings.Fields(text) {
		left, right, _ := strings.Cut(word, ".")
		sig, err1 := strconv.Atoi(left)
		at, err2 := strconv.Atoi(right)
		if err1 != nil || err2 != nil {
			t.Fatalf("%s tells nothing", word)
		}
		l = append(l, from{sig, at})
	}
	return l
}

func checkCopies(t *testing.T, j api.Job, meant int) {
	t.Helper()
	if n := Copies(j); n != meant {
		t.Fatalf("Copies(%+v) = %d; meant: %d", brief(j), n, meant)
	}
}

func checkLeaf(t *testing.T, j api.Job, f from, copy, meant int) {
	t.Helper()
	if n, ok := Leaf(j, f.sig, copy, f.at); n != meant || !ok {
		t.Fatalf("Leaf(%+v, %d, %d, %d) = %d, %v; meant: %d, true", brief(j), f.sig, copy, f.at, n, ok, meant)
	}
}

func checkNoLeaf(t *testing.T, j api.Job, sig, copy, at int) {
	t.Helper()
	if n, ok := Leaf(j, sig, copy, at); n != 0 || ok {
		t.Fatalf("Leaf(%+v, %d, %d, %d) = %d, %v; meant: 0, false", brief(j), sig, copy, at, n, ok)
	}
}

func checkWhere(t *testing.T, j api.Job, copy, leaf int, meant from) {
	t.Helper()
	if sig, at, ok := Where(j, copy, leaf); sig != meant.sig || at != meant.at || !ok {
		t.Fatalf("Where(%+v, %d, %d) = %d, %d, %v; meant: %v, true", brief(j), copy, leaf, sig, at, ok, meant)
	}
}

func checkNoWhere(t *testing.T, j api.Job, copy, leaf int) {
	t.Helper()
	if sig, at, ok := Where(j, copy, leaf); sig != 0 || at != 0 || ok {
		t.Fatalf("Where(%+v, %d, %d) = %d, %d, %v; meant: 0, 0, false", brief(j), copy, leaf, sig, at, ok)
	}
}

func checkPages(t *testing.T, j api.Job, leaf, recto, verso int) {
	t.Helper()
	if r, v := Pages(j, leaf); r != recto || v != verso {
		t.Fatalf("Pages(%+v, %d) = %d, %d; meant: %d, %d", brief(j), leaf, r, v, recto, verso)
	}
}

// checkNone: of a job that is none to this layer.
func checkNone(t *testing.T, j api.Job) {
	t.Helper()
	checkCopies(t, j, 0)
	for _, n := range []int{0, 1, 2, -1, highest, lowest} {
		for _, copy := range []int{0, 1, -1} {
			checkNoLeaf(t, j, n, copy, 0)
			checkNoLeaf(t, j, 0, copy, n)
			checkNoWhere(t, j, copy, n)
		}
		checkPages(t, j, n, 0, 0)
	}
}

// checkEdges: what is answered of a copy just at, and just beyond, what there
// is of each number.
func checkEdges(t *testing.T, j api.Job, copy int, meant []from) {
	t.Helper()
	last := map[int]int{}
	for _, f := range meant {
		last[f.sig] = max(last[f.sig], f.at)
	}
	end := len(last) - 1
	for _, sig := range []int{0, end / 2, end} {
		for _, at := range []int{0, last[sig] / 2, last[sig]} {
			checkLeaf(t, j, from{sig, at}, copy, slices.Index(meant, from{sig, at}))
		}
		for _, w := range append(wrongs[:], last[sig]+1, last[sig]+2) {
			checkNoLeaf(t, j, sig, copy, w)
		}
	}
	for _, w := range append(wrongs[:], end+1, end+2) {
		checkNoLeaf(t, j, w, copy, 0)
		checkNoLeaf(t, j, w, copy, last[0])
	}
	for _, w := range append(wrongs[:], len(meant), len(meant)+1) {
		checkNoWhere(t, j, copy, w)
		checkPages(t, j, w, 0, 0)
	}
}

// checkBook: the leaves of a copy's book come from these, in order.
func checkBook(t *testing.T, j api.Job, copy int, meant []from) {
	t.Helper()
	if n := split.Leaves(j); n != len(meant) {
		t.Fatalf("%+v has %d leaves; meant: %d", brief(j), n, len(meant))
	}
	for leaf, f := range meant {
		checkWhere(t, j, copy, leaf, f)
		checkLeaf(t, j, f, copy, leaf)
	}
	checkEdges(t, j, copy, meant)
}

// checkText: the same, of the leaves that a text tells.
func checkText(t *testing.T, j api.Job, copy int, meant string) {
	t.Helper()
	checkBook(t, j, copy, read(t, meant))
}

// checkNoCopy: of a copy that there is not.
func checkNoCopy(t *testing.T, j api.Job, copy int) {
	t.Helper()
	for n := range 4 {
		checkNoLeaf(t, j, 0, copy, n)
		checkNoLeaf(t, j, n, copy, 0)
		checkNoWhere(t, j, copy, n)
	}
}

// checkOne: the one book of j is as the text tells.
func checkOne(t *testing.T, j api.Job, meant string) {
	t.Helper()
	checkCopies(t, j, 1)
	checkText(t, j, 0, meant)
	for _, copy := range append(wrongs[:], 1, 2) {
		checkNoCopy(t, j, copy)
	}
}

// checkTwo: both books of j are as the texts tell.
func checkTwo(t *testing.T, j api.Job, zero, one string) {
	t.Helper()
	checkCopies(t, j, 2)
	checkText(t, j, 0, zero)
	checkText(t, j, 1, one)
	for _, copy := range append(wrongs[:], 2, 3) {
		checkNoCopy(t, j, copy)
	}
}

// P18.1: the chapter's example, and the usual job.
func TestExamples(t *testing.T) {
	checkOne(t, job(t, api.Saddle, 8, "F4-1"), "0.0 1.0 1.1 0.1")
	checkLeaf(t, job(t, api.Saddle, 8, "F4-1"), from{0, 0}, 0, 0)
	checkLeaf(t, job(t, api.Saddle, 8, "F4-1"), from{0, 1}, 0, 3)
	checkOne(t, bounds.Usual(), "0.0 0.1 1.0 1.1 1.2 1.3 0.2 0.3")
	checkLeaf(t, bounds.Usual(), from{1, 0}, 0, 2)
	checkWhere(t, bounds.Usual(), 0, 6, from{0, 2})
}

// P18.1: each signature within the one ahead of it.
func TestSaddle(t *testing.T) {
	checkOne(t, job(t, api.Saddle, 1, "F4-1"), "0.0 0.1")
	checkOne(t, job(t, api.Saddle, 4, "F4-1"), "0.0 0.1")
	checkOne(t, job(t, api.Saddle, 5, "F4-1"), "0.0 1.0 1.1 0.1")
	checkOne(t, job(t, api.Saddle, 12, "F4-1"), "0.0 1.0 2.0 2.1 1.1 0.1")
	checkOne(t, job(t, api.Saddle, 8, "F8-2"), "0.0 0.1 0.2 0.3")
	checkOne(t, job(t, api.Saddle, 24, "F8-1"), "0.0 0.1 1.0 1.1 2.0 2.1 2.2 2.3 1.2 1.3 0.2 0.3")
	checkOne(t, job(t, api.Saddle, 3, "2x1 L1u"), "0.0 0.1")
	checkOne(t, job(t, api.Saddle, 9, "4x1 L1 L1 L1"), "0.0 0.1 1.0 1.1 1.2 1.3 0.2 0.3")
	checkOne(t, job(t, api.Saddle, 15, "2x3 B1 T1 L1"), "0.0 0.1 0.2 1.0 1.1 1.2 1.3 1.4 1.5 0.3 0.4 0.5")
}

// P18.1: the last signature has fewer leaves than the others: those ahead of
// it, and all, are others than those of as many equal ones.
func TestSaddleWithALastOne(t *testing.T) {
	checkOne(t, job(t, api.Saddle, 20, "F8-1", "F4-1"), "0.0 0.1 1.0 1.1 2.0 2.1 1.2 1.3 0.2 0.3")
	checkOne(t, job(t, api.Saddle, 9, "F8-1", "F4-1"), "0.0 0.1 1.0 1.1 0.2 0.3")
	checkOne(t, job(t, api.Saddle, 3, "F8-1", "F4-1"), "0.0 0.1")
	checkOne(t, job(t, api.Saddle, 13, "F8-1", "F4-1"), "0.0 0.1 1.0 1.1 1.2 1.3 0.2 0.3")
	checkOne(t, job(t, api.Saddle, 16, "2x3 B1 T1 L1", "F4-1", "F8-1"), "0.0 0.1 0.2 1.0 1.1 0.3 0.4 0.5")
	checkOne(t, job(t, api.Saddle, 17, "2x3 B1 T1 L1", "F4-1", "F8-1"), "0.0 0.1 0.2 1.0 1.1 1.2 1.3 0.3 0.4 0.5")
}

// P18.1: by Saddle the leaves just below half of a signature, and just at it,
// are apart by all the leaves within.
func TestLeavesAtHalfOfASignature(t *testing.T) {
	j := job(t, api.Saddle, 160, "F32-1")
	for sig, l := range [][4]int{{0, 7, 72, 79}, {8, 15, 64, 71}, {16, 23, 56, 63}, {24, 31, 48, 55}, {32, 39, 40, 47}} {
		for i, at := range []int{0, 7, 8, 15} {
			checkLeaf(t, j, from{sig, at}, 0, l[i])
			checkWhere(t, j, 0, l[i], from{sig, at})
		}
	}
	j.Pages, j.Last = 132, []string{"F4-1"}
	for sig, l := range [][4]int{{0, 7, 58, 65}, {8, 15, 50, 57}, {16, 23, 42, 49}, {24, 31, 34, 41}} {
		for i, at := range []int{0, 7, 8, 15} {
			checkLeaf(t, j, from{sig, at}, 0, l[i])
			checkWhere(t, j, 0, l[i], from{sig, at})
		}
	}
	checkLeaf(t, j, from{4, 0}, 0, 32)
	checkLeaf(t, j, from{4, 1}, 0, 33)
	checkNoLeaf(t, j, 4, 0, 2)
}

// P18.1: one signature behind the other, whether their schemes nest or not.
func TestPerfect(t *testing.T) {
	checkOne(t, job(t, api.Perfect, 1, "F2-1"), "0.0")
	checkOne(t, job(t, api.Perfect, 5, "F2-1"), "0.0 1.0 2.0")
	checkOne(t, job(t, api.Perfect, 16, "F8-1"), "0.0 0.1 0.2 0.3 1.0 1.1 1.2 1.3")
	checkOne(t, job(t, api.Perfect, 20, "F8-1", "F4-1"), "0.0 0.1 0.2 0.3 1.0 1.1 1.2 1.3 2.0 2.1")
	checkOne(t, job(t, api.Perfect, 2, "F8-1", "F4-1", "F2-1"), "0.0")
	checkOne(t, job(t, api.Perfect, 14, "F6-2", "F2-1"), "0.0 0.1 0.2 1.0 1.1 1.2 2.0")
	checkOne(t, job(t, api.Perfect, 9, "F8-3"), "0.0 0.1 0.2 0.3 1.0 1.1 1.2 1.3")
	checkOne(t, job(t, api.Perfect, 15, "7x1 L1 L1 L1 L1 L1 L1"), "0.0 0.1 0.2 0.3 0.4 0.5 0.6 1.0 1.1 1.2 1.3 1.4 1.5 1.6")
}

// P18.1: copy 1 has the signatures in the other order, but each one's leaves
// in the same.
func TestComeGo(t *testing.T) {
	checkTwo(t, job(t, api.ComeGo, 1, "F2-1"), "0.0", "0.0")
	checkTwo(t, job(t, api.ComeGo, 8, "F8-1"), "0.0 0.1 0.2 0.3", "0.0 0.1 0.2 0.3")
	checkTwo(t, job(t, api.ComeGo, 8, "F4-1"), "0.0 0.1 1.0 1.1", "1.0 1.1 0.0 0.1")
	checkTwo(t, job(t, api.ComeGo, 12, "F4-2"), "0.0 0.1 1.0 1.1 2.0 2.1", "2.0 2.1 1.0 1.1 0.0 0.1")
	checkTwo(t, job(t, api.ComeGo, 7, "F2-1"), "0.0 1.0 2.0 3.0", "3.0 2.0 1.0 0.0")
	checkTwo(t, job(t, api.ComeGo, 13, "F6-1"), "0.0 0.1 0.2 1.0 1.1 1.2 2.0 2.1 2.2", "2.0 2.1 2.2 1.0 1.1 1.2 0.0 0.1 0.2")
}

// P18.1: first the panel 0 of all, then the panel 1 of all.
func TestStack(t *testing.T) {
	checkOne(t, stack(1, 1, 1), "0.0")
	checkOne(t, stack(6, 1, 1), "0.0 1.0 2.0")
	checkOne(t, stack(7, 2, 1), "0.0 1.0 0.1 1.1")
	checkOne(t, stack(3, 3, 2), "0.0 0.1 0.2 0.3 0.4 0.5")
	checkOne(t, stack(30, 1, 5), "0.0 1.0 2.0 0.1 1.1 2.1 0.2 1.2 2.2 0.3 1.3 2.3 0.4 1.4 2.4")
	checkOne(t, stack(17, 2, 2), "0.0 1.0 2.0 0.1 1.1 2.1 0.2 1.2 2.2 0.3 1.3 2.3")
}

// P18.1: schemes of 64 panels, and the one with the most of the catalogue.
func TestTheMostPanels(t *testing.T) {
	for _, folds := range []string{"F128-1", "64x1 L32 L16 L8 L4 L2 L1", "2x32 B16 B8 B4 B2 B1 L1"} {
		j := job(t, api.Saddle, 260, folds, "F4-1")
		for _, l := range [][3]int{{0, 0, 0}, {0, 31, 31}, {0, 32, 98}, {0, 63, 129}, {1, 0, 32}, {1, 31, 63}, {1, 32, 66}, {1, 63, 97}, {2, 0, 64}, {2, 1, 65}} {
			checkLeaf(t, j, from{l[0], l[1]}, 0, l[2])
			checkWhere(t, j, 0, l[2], from{l[0], l[1]})
		}
		checkNoLeaf(t, j, 0, 0, 64)
		checkNoLeaf(t, j, 1, 0, 64)
		checkNoLeaf(t, j, 2, 0, 2)
		checkNoLeaf(t, j, 3, 0, 0)
		checkNoWhere(t, j, 0, 130)
		j = job(t, api.ComeGo, 129, folds)
		checkLeaf(t, j, from{0, 63}, 0, 63)
		checkLeaf(t, j, from{0, 63}, 1, 127)
		checkWhere(t, j, 1, 64, from{0, 0})
		checkWhere(t, j, 1, 63, from{1, 63})
	}
	for _, p := range [][2]int{{64, 1}, {1, 64}, {8, 8}, {32, 2}} {
		checkLeaf(t, stack(384, p[0], p[1]), from{1, 63}, 0, 190)
		checkWhere(t, stack(384, p[0], p[1]), 0, 5, from{2, 1})
		checkNoWhere(t, stack(384, p[0], p[1]), 0, 192)
		checkNone(t, stack(384, p[0], p[1]+1))
	}
}

// P18.2: the pages of the leaves, up to those that are blank.
func TestPages(t *testing.T) {
	j := bounds.Usual()
	for leaf := range 8 {
		checkPages(t, j, leaf, 2*leaf+1, 2*leaf+2)
	}
	checkPages(t, j, 8, 0, 0)
	j.Pages = 11
	for leaf, l := range [][2]int{{1, 2}, {3, 4}, {5, 6}, {7, 8}, {9, 10}, {11, 0}, {0, 0}, {0, 0}, {0, 0}, {0, 0}} {
		checkPages(t, j, leaf, l[0], l[1])
	}
	j.Pages = 10
	for leaf, l := range [][2]int{{1, 2}, {3, 4}, {5, 6}, {7, 8}, {9, 10}, {0, 0}, {0, 0}, {0, 0}, {0, 0}} {
		checkPages(t, j, leaf, l[0], l[1])
	}
	for _, w := range wrongs {
		checkPages(t, j, w, 0, 0)
	}
	for _, j := range []api.Job{job(t, api.Saddle, 1, "F4-1"), job(t, api.Perfect, 1, "F2-1"), job(t, api.ComeGo, 1, "F128-1"), stack(1, 64, 1)} {
		checkPages(t, j, 0, 1, 0)
		checkPages(t, j, 1, 0, 0)
		checkPages(t, j, 63, 0, 0)
		checkPages(t, j, -1, 0, 0)
	}
	// 7 pages, 2 by 1: page 8 is blank.
	checkPages(t, stack(7, 2, 1), 3, 7, 0)
	// A leaf's pages are the same, however the book is bound.
	checkPages(t, job(t, api.ComeGo, 12, "F4-1"), 4, 9, 10)
	checkPages(t, job(t, api.Perfect, 12, "F8-1", "F4-1"), 5, 11, 12)
	checkPages(t, job(t, api.Perfect, 12, "F8-1", "F4-1"), 6, 0, 0)
}

// P18.1, P18.2: 100,000 pages, and one more; 1 page, and none.
func TestTheFewestAndTheMostPages(t *testing.T) {
	most := []api.Job{job(t, api.Saddle, 100_000, "F4-1"), job(t, api.Perfect, 100_000, "F2-1"), stack(100_000, 1, 1), job(t, api.ComeGo, 100_000, "F2-1")}
	for i, j := range most {
		last := from{49_999, 0}
		if i == 0 {
			last = from{0, 1}
		}
		checkLeaf(t, j, last, 0, 49_999)
		checkWhere(t, j, 0, 49_999, last)
		checkNoWhere(t, j, 0, 50_000)
		checkPages(t, j, 49_999, 99_999, 100_000)
		checkPages(t, j, 50_000, 0, 0)
		j.Pages = 100_001
		checkNone(t, j)
		j.Pages = 99_999
		checkPages(t, j, 49_999, 99_999, 0)
		checkWhere(t, j, 0, 49_999, last)
		j.Pages = 1
		checkWhere(t, j, 0, 0, from{0, 0})
		checkPages(t, j, 0, 1, 0)
		for _, pages := range append(wrongs[:], 0) {
			j.Pages = pages
			checkNone(t, j)
		}
	}
	checkWhere(t, most[3], 1, 0, from{49_999, 0})
	checkLeaf(t, most[3], from{0, 0}, 1, 49_999)
	j := job(t, api.Saddle, 100_000, "F128-1")
	checkWhere(t, j, 0, 50_047, from{0, 63})
	checkPages(t, j, 49_999, 99_999, 100_000)
	checkPages(t, j, 50_000, 0, 0)
}

// P18.1, P18.2: by Saddle folds that do not nest; bound otherwise they may be.
func TestFoldsThatDoNotNest(t *testing.T) {
	for _, folds := range []string{"F2-1", "F4-2", "F6-1", "F6-2", "F8-3", "F12-1", "F12-2", "F24-1", "F24-2", "F48-1", "2x1 R1", "2x2 B1 R1",
		"4x1 L1 R1 L1", "7x1 L1 L1 L1 L1 L1 L1", "1x64 B32 B16 B8 B4 B2 B1"} {
		for _, pages := range []int{1, 2, 16, 100_000} {
			checkNone(t, job(t, api.Saddle, pages, folds))
			checkCopies(t, job(t, api.Perfect, pages, folds), 1)
			checkCopies(t, job(t, api.ComeGo, pages, folds), 2)
		}
	}
	checkNone(t, job(t, api.Saddle, 8, "F6-1", "F4-1"))
	checkNone(t, job(t, api.Saddle, 9, "F8-3", "F4-1"))
	checkNone(t, job(t, api.Saddle, 24, "F12-1", "F8-1", "F4-1"))
	for _, folds := range []string{"F4-1", "F8-1", "F8-2", "F16-1", "F16-2", "F16-3", "F16-4", "F32-1", "F32-2", "F64-1", "F128-1", "2x1 L1u", "2x2 T1u L1"} {
		checkCopies(t, job(t, api.Saddle, 16, folds), 1)
	}
}

// P18.1, P18.2: folds, or last ones, that are not right.
func TestWrongFoldsAndLastOnes(t *testing.T) {
	left := api.Step{Side: api.Left, N: 1}
	for _, s := range []api.Scheme{{}, {Cols: 2, Rows: 1}, {Cols: 1, Rows: 1, Steps: []api.Step{left}}, {Cols: 2, Rows: 1, Steps: []api.Step{{}}},
		{Cols: 0, Rows: 1}, {Cols: 65, Rows: 1}, {Cols: 2, Rows: 2, Steps: []api.Step{left}}, {Cols: highest, Rows: lowest, Steps: []api.Step{left}},
		{Cols: 1 << 32, Rows: 1 << 32}, {Cols: 2, Rows: 1, Steps: make([]api.Step, 1<<16)}} {
		for _, binding := range []int{api.Saddle, api.Perfect, api.ComeGo} {
			j := bounds.Usual()
			j.Binding, j.Folds = binding, s
			checkNone(t, j)
		}
	}
	checkNone(t, job(t, api.Stack, 16, "F4-1"))
	for _, p := range [][2]int{{0, 1}, {1, 0}, {65, 1}, {1, 65}, {8, 9}, {-1, -1}, {highest, highest}, {1 << 32, 1 << 32}} {
		checkNone(t, stack(16, p[0], p[1]))
	}
	for _, name := range []string{"", "F8-1", "F8-2", "F16-1", "F4-3", "f4-1", "2x1 L1", "F4-1\x00", "\xff\xfe", strings.Repeat("F4-1", 1<<16)} {
		checkNone(t, job(t, api.Saddle, 16, "F8-1", name))
		checkNone(t, job(t, api.Perfect, 16, "F8-1", "F4-1", name))
	}
	checkNone(t, job(t, api.Saddle, 16, "F8-1", "F4-2"))
	checkNone(t, job(t, api.Saddle, 16, "F8-1", "F4-1", "F2-1"))
	checkCopies(t, job(t, api.Perfect, 16, "F8-1", "F4-2"), 1)
	checkNone(t, job(t, api.ComeGo, 16, "F8-1", "F4-1"))
	checkNone(t, job(t, api.Perfect, 16, "F8-1", "F4-1", "F4-1", "F4-1", "F4-1", "F4-1"))
	checkCopies(t, job(t, api.Perfect, 16, "F8-1", "F4-1", "F4-1", "F4-1", "F4-1"), 1)
	j := stack(16, 2, 2)
	j.Last = []string{"F2-1"}
	checkNone(t, j)
}

// P18.1, P18.2: bindings that are none.
func TestWrongBindings(t *testing.T) {
	for _, binding := range append(wrongs[:], 0, 5, 6, 1<<32+api.Saddle, 1<<32+api.Stack, 1<<32+api.ComeGo, lowest+api.Perfect) {
		for _, folds := range []string{"F2-1", "F4-1", "F8-1", "F8-3", "F128-1"} {
			checkNone(t, job(t, binding, 16, folds))
		}
		checkNone(t, job(t, binding, 20, "F8-1", "F4-1"))
		j := stack(16, 2, 1)
		j.Binding = binding
		checkNone(t, j)
	}
}

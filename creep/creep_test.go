package creep

import (
	"math"
	"slices"
	"strings"
	"testing"

	"gatherum/api"
	"gatherum/bounds"
	"gatherum/scheme"
)

const (
	lowest  = math.MinInt
	highest = math.MaxInt
)

// wrongs: numbers that no leaf has, and none of a job's numbers may be; some of
// them have small products with others, if these go round.
var wrongs = [...]int{-5_000_001, 5_000_001, -1 << 31, 1 << 31, 1 << 32, 1<<32 + 1, 1<<32 + 2, -1 << 32, 1 - 1<<32, 1 << 61, 1 << 62, 1<<62 + 1, -1 << 62,
	highest/2 + 1, highest - 1, highest, lowest/2 - 1, lowest + 1, lowest + 2, lowest}

// limits: the least and the greatest of each of a job's numbers, by the order
// of chapter 15.
var limits = [...][2]int{
	{1, 100_000}, {-5_000_000, 5_000_000}, {-5_000_000, 5_000_000}, {1, 5_000_000}, {1, 5_000_000},
	{0, 5_000_000}, {0, 5_000_000}, {0, 5_000_000}, {0, 5_000_000}, {0, 5_000_000}, {1, 4}, {1, 4},
	{1, 5_000_000}, {1, 5_000_000}, {0, 5_000_000}, {0, 5_000_000}, {0, 5_000_000},
	{0, 100_000}, {0, 1_000}, {1, 1_000}, {0, 3}, {0, 5_000_000}, {0, 5_000_000}, {0, 5_000_000},
	{0, 5_000_000}, {0, 5_000_000}, {1, 1_000}, {0, 5_000_000},
}

// The places of two numbers on which it hangs which leaves there are.
const (
	pagesAt   = 0
	bindingAt = 10
)

// named: the scheme that a text tells.
func named(t *testing.T, text string) api.Scheme {
	t.Helper()
	s, ok := scheme.Get(strings.Split(text, " ")...)
	if !ok {
		t.Fatalf("no scheme %q", text)
	}
	return s
}

// job: bound so, of so many pages, folded as a text tells, with last ones.
func job(t *testing.T, binding, pages int, folds string, last ...string) api.Job {
	t.Helper()
	j := bounds.Usual()
	j.Binding, j.Pages, j.Folds, j.Last = binding, pages, named(t, folds), last
	return j
}

// stack: bound by Stack, of so many pages, with so many columns and rows.
func stack(pages, cols, rows int) api.Job {
	j := bounds.Usual()
	j.Binding, j.Pages, j.Folds = api.Stack, pages, api.Scheme{Cols: cols, Rows: rows}
	return j
}

// pushed: j with that caliper, and that ratio.
func pushed(j api.Job, caliper, num, den int) api.Job {
	j.Caliper, j.Num, j.Den = caliper, num, den
	return j
}

// brief: a job that a failure may show whole.
func brief(j api.Job) api.Job {
	j.Folds.Steps = j.Folds.Steps[:min(len(j.Folds.Steps), 9)]
	j.Last = slices.Clone(j.Last[:min(len(j.Last), 9)])
	for i, name := range j.Last {
		j.Last[i] = name[:min(len(name), 20)]
	}
	j.Title = j.Title[:min(len(j.Title), 20)]
	return j
}

func checkOutside(t *testing.T, j api.Job, leaf, meant int) {
	t.Helper()
	if n := Outside(j, leaf); n != meant {
		t.Fatalf("Outside(%+v, %d) = %d; meant: %d", brief(j), leaf, n, meant)
	}
}

func checkOf(t *testing.T, j api.Job, leaf, meant int) {
	t.Helper()
	if n, ok := Of(j, leaf); n != meant || !ok {
		t.Fatalf("Of(%+v, %d) = %d, %v; meant: %d, true", brief(j), leaf, n, ok, meant)
	}
}

func checkNoOf(t *testing.T, j api.Job, leaf int) {
	t.Helper()
	if n, ok := Of(j, leaf); n != 0 || ok {
		t.Fatalf("Of(%+v, %d) = %d, %v; meant: 0, false", brief(j), leaf, n, ok)
	}
}

func checkMost(t *testing.T, j api.Job, meant int) {
	t.Helper()
	if n, ok := Most(j); n != meant || !ok {
		t.Fatalf("Most(%+v) = %d, %v; meant: %d, true", brief(j), n, ok, meant)
	}
}

func checkNoMost(t *testing.T, j api.Job) {
	t.Helper()
	if n, ok := Most(j); n != 0 || ok {
		t.Fatalf("Most(%+v) = %d, %v; meant: 0, false", brief(j), n, ok)
	}
}

// checkNoLeaf: of a leaf that there is not.
func checkNoLeaf(t *testing.T, j api.Job, leaf int) {
	t.Helper()
	checkOutside(t, j, leaf, 0)
	checkNoOf(t, j, leaf)
}

// checkNone: of a job without any leaf.
func checkNone(t *testing.T, j api.Job) {
	t.Helper()
	for leaf := -2; leaf <= 10; leaf++ {
		checkNoLeaf(t, j, leaf)
	}
	for _, w := range wrongs {
		checkNoLeaf(t, j, w)
	}
	checkNoMost(t, j)
}

// checkAll: the leaves of j, and no others, have so many outside of them; its
// caliper and its ratio may be.
func checkAll(t *testing.T, j api.Job, outside ...int) {
	t.Helper()
	for leaf, n := range outside {
		checkOutside(t, j, leaf, n)
		checkOf(t, j, leaf, n*j.Caliper*j.Num/j.Den)
	}
	checkMost(t, j, slices.Max(outside)*j.Caliper*j.Num/j.Den)
	for _, leaf := range append(wrongs[:], -1, -2, -len(outside), len(outside), len(outside)+1, 2*len(outside)) {
		checkNoLeaf(t, j, leaf)
	}
}

// checkCreeps: the first leaves of j are pushed so far.
func checkCreeps(t *testing.T, j api.Job, creeps ...int) {
	t.Helper()
	for leaf, n := range creeps {
		checkOf(t, j, leaf, n)
	}
}

// some: jobs of each binding, all of which have a leaf 5; by Saddle it is the
// last but two.
func some(t *testing.T) []api.Job {
	return []api.Job{bounds.Usual(), job(t, api.Saddle, 15, "F8-1", "F4-1"), job(t, api.Perfect, 20, "F8-1", "F4-1"), stack(20, 2, 2), job(t, api.ComeGo, 16, "F8-1")}
}

// P19.1: the chapter's example, and the whole usual job.
func TestExamples(t *testing.T) {
	checkOf(t, bounds.Usual(), 2, 200)
	for _, caliper := range []int{0, 1, 100, 127, 99_999, 100_000} {
		for _, folds := range []string{"F4-1", "F8-1", "F16-1", "F128-1"} {
			checkOf(t, pushed(job(t, api.Saddle, 24, folds), caliper, 1, 1), 2, 2*caliper)
		}
	}
	checkAll(t, bounds.Usual(), 0, 1, 2, 3, 3, 2, 1, 0)
	checkCreeps(t, bounds.Usual(), 0, 100, 200, 300, 300, 200, 100, 0)
	checkMost(t, bounds.Usual(), 300)
}

// P19.1: by Saddle, of one, two and many signatures, with schemes of the
// catalogue and with others.
func TestSaddle(t *testing.T) {
	checkAll(t, job(t, api.Saddle, 1, "F4-1"), 0, 0)
	checkAll(t, job(t, api.Saddle, 4, "F4-1"), 0, 0)
	checkAll(t, job(t, api.Saddle, 5, "F4-1"), 0, 1, 1, 0)
	checkAll(t, job(t, api.Saddle, 12, "F4-1"), 0, 1, 2, 2, 1, 0)
	checkAll(t, job(t, api.Saddle, 1, "F8-1"), 0, 1, 1, 0)
	checkAll(t, job(t, api.Saddle, 8, "F8-2"), 0, 1, 1, 0)
	checkAll(t, job(t, api.Saddle, 17, "F8-1"), 0, 1, 2, 3, 4, 5, 5, 4, 3, 2, 1, 0)
	checkAll(t, job(t, api.Saddle, 3, "F16-4"), 0, 1, 2, 3, 3, 2, 1, 0)
	checkAll(t, job(t, api.Saddle, 3, "2x1 L1u"), 0, 0)
	checkAll(t, job(t, api.Saddle, 9, "4x1 L1 L1 L1"), 0, 1, 2, 3, 3, 2, 1, 0)
	checkAll(t, job(t, api.Saddle, 12, "2x3 B1 T1 L1"), 0, 1, 2, 2, 1, 0)
	checkAll(t, job(t, api.Saddle, 15, "2x3 B1 T1 L1"), 0, 1, 2, 3, 4, 5, 5, 4, 3, 2, 1, 0)
}

// P19.1: a last signature with fewer leaves: T is that of all signatures, as
// they are.
func TestSaddleWithALastOne(t *testing.T) {
	checkAll(t, job(t, api.Saddle, 20, "F8-1", "F4-1"), 0, 1, 2, 3, 4, 4, 3, 2, 1, 0)
	checkAll(t, job(t, api.Saddle, 9, "F8-1", "F4-1"), 0, 1, 2, 2, 1, 0)
	checkAll(t, job(t, api.Saddle, 3, "F8-1", "F4-1"), 0, 0)
	checkAll(t, job(t, api.Saddle, 13, "F8-1", "F4-1"), 0, 1, 2, 3, 3, 2, 1, 0)
	checkAll(t, job(t, api.Saddle, 17, "2x3 B1 T1 L1", "F4-1", "F8-1"), 0, 1, 2, 3, 4, 4, 3, 2, 1, 0)
}

// P19.1: bound otherwise no leaf is nested within another one, however thick
// the paper is.
func TestOthersNestNone(t *testing.T) {
	for _, j := range []api.Job{job(t, api.Perfect, 1, "F2-1"), job(t, api.ComeGo, 1, "F2-1"), stack(1, 1, 1)} {
		checkAll(t, pushed(j, 100_000, 1_000, 1), 0)
	}
	for _, j := range []api.Job{job(t, api.Perfect, 16, "F8-1"), job(t, api.Perfect, 8, "F16-1"), job(t, api.ComeGo, 16, "F8-1"), job(t, api.Perfect, 13, "4x1 L1 L1 L1"),
		job(t, api.ComeGo, 16, "4x1 L1 L1 L1"), job(t, api.ComeGo, 15, "F2-1"), stack(16, 2, 2), stack(16, 8, 1), stack(15, 1, 1)} {
		checkAll(t, pushed(j, 100_000, 1_000, 1), 0, 0, 0, 0, 0, 0, 0, 0)
	}
	checkAll(t, pushed(job(t, api.Perfect, 20, "F8-1", "F4-1"), 100_000, 1_000, 1), make([]int, 10)...)
	checkAll(t, pushed(job(t, api.Perfect, 9, "F8-3"), 100_000, 1_000, 1), make([]int, 8)...)
	checkAll(t, pushed(job(t, api.Perfect, 9, "F6-1"), 100_000, 1_000, 1), make([]int, 6)...)
	checkAll(t, pushed(stack(7, 2, 1), 100_000, 1_000, 1), make([]int, 4)...)
	checkAll(t, pushed(stack(7, 3, 3), 100_000, 1_000, 1), make([]int, 9)...)
}

// P19.1: by Saddle the leaves around the middle, of 100,000 pages and of few;
// bound otherwise they are there, and have none outside.
func TestTheMiddleAndTheEnds(t *testing.T) {
	for _, e := range []struct {
		pages, leaves int
		folds, last   string
	}{{1, 2, "F4-1", "F4-1"}, {9, 6, "F4-1", "F4-1"}, {99_997, 50_000, "F4-1", "F4-1"}, {99_996, 49_998, "F4-1", "F4-1"}, {100_000, 50_000, "F4-1", "F4-1"},
		{100_000, 50_000, "F8-1", "F4-1"}, {99_998, 50_004, "2x3 B1 T1 L1", "F2-1"}, {100_000, 50_048, "F128-1", "F4-1"}, {100_000, 50_000, "F128-1", "F32-1"},
		{1, 64, "F128-1", "F2-1"}, {129, 66, "F128-1", "F4-1"}} {
		j := job(t, api.Saddle, e.pages, e.folds)
		if e.last != "F2-1" && e.last != e.folds {
			j.Last = []string{e.last}
		}
		half := e.leaves / 2
		for _, n := range []int{0, 1, half / 2, half - 2, half - 1} {
			if n >= 0 && n < half {
				checkOutside(t, j, n, n)
				checkOutside(t, j, e.leaves-1-n, n)
				checkOf(t, j, n, 100*n)
				checkOf(t, j, e.leaves-1-n, 100*n)
			}
		}
		checkMost(t, j, 100*(half-1))
		for _, leaf := range append(wrongs[:], -1, -2, -half, e.leaves, e.leaves+1, 2*e.leaves) {
			checkNoLeaf(t, j, leaf)
		}
	}
	for _, j := range []api.Job{job(t, api.Perfect, 100_000, "F2-1"), job(t, api.ComeGo, 100_000, "F4-1"), stack(100_000, 1, 1), job(t, api.Perfect, 100_000, "F32-1")} {
		for _, leaf := range []int{0, 1, 24_999, 25_000, 49_999} {
			checkOutside(t, j, leaf, 0)
			checkOf(t, j, leaf, 0)
		}
		checkMost(t, j, 0)
		for _, leaf := range append(wrongs[:], -1, 50_000, 50_001) {
			checkNoLeaf(t, j, leaf)
		}
	}
}

// P19.1: ratios that leave no rest, and ones that are rounded down: once, and
// behind both products.
func TestRatios(t *testing.T) {
	j := job(t, api.Saddle, 20, "F4-1")
	for _, e := range []struct {
		caliper, num, den int
		creeps            [5]int
	}{
		{100, 1, 1, [5]int{0, 100, 200, 300, 400}},
		{100, 3, 2, [5]int{0, 150, 300, 450, 600}},
		{101, 3, 2, [5]int{0, 151, 303, 454, 606}},
		{100, 3, 7, [5]int{0, 42, 85, 128, 171}},
		{7, 2, 3, [5]int{0, 4, 9, 14, 18}},
		{1, 1, 2, [5]int{0, 0, 1, 1, 2}},
		{1, 1, 3, [5]int{0, 0, 0, 1, 1}},
		{1, 1, 4, [5]int{0, 0, 0, 0, 1}},
		{1, 1, 5, [5]int{0, 0, 0, 0, 0}},
		{1, 999, 1_000, [5]int{0, 0, 1, 2, 3}},
		{1, 1_000, 999, [5]int{0, 1, 2, 3, 4}},
		{333, 1, 1_000, [5]int{0, 0, 0, 0, 1}},
		{334, 1, 1_000, [5]int{0, 0, 0, 1, 1}},
		{500, 1, 1_000, [5]int{0, 0, 1, 1, 2}},
		{1_000, 1, 1_000, [5]int{0, 1, 2, 3, 4}},
		{250, 6, 6, [5]int{0, 250, 500, 750, 1_000}},
	} {
		k := pushed(j, e.caliper, e.num, e.den)
		checkCreeps(t, k, e.creeps[:]...)
		for leaf, n := range e.creeps {
			checkOf(t, k, 9-leaf, n)
		}
		checkMost(t, k, e.creeps[4])
		checkAll(t, k, 0, 1, 2, 3, 4, 4, 3, 2, 1, 0)
	}
}

// P19.1: Caliper, Num and Den at their least and their greatest.
func TestTheEdgesOfTheRatio(t *testing.T) {
	for _, caliper := range []int{0, 1, 99_999, 100_000} {
		for _, num := range []int{0, 1, 999, 1_000} {
			for _, den := range []int{1, 2, 999, 1_000} {
				checkAll(t, pushed(bounds.Usual(), caliper, num, den), 0, 1, 2, 3, 3, 2, 1, 0)
				checkAll(t, pushed(job(t, api.Perfect, 8, "F8-1"), caliper, num, den), 0, 0, 0, 0)
			}
		}
	}
	checkMost(t, pushed(bounds.Usual(), 100_000, 1_000, 1), 300_000_000)
	checkMost(t, pushed(bounds.Usual(), 0, 1_000, 1), 0)
	checkMost(t, pushed(bounds.Usual(), 100_000, 0, 1), 0)
	checkMost(t, pushed(bounds.Usual(), 100_000, 1, 1_000), 300)
}

// P19.1: products of 42 bits, ahead of being divided and behind.
func TestGreatProducts(t *testing.T) {
	j := job(t, api.Saddle, 100_000, "F128-1")
	for _, e := range []struct{ den, most, first int }{{1, 2_502_300_000_000, 100_000_000}, {7, 357_471_428_571, 14_285_714}, {999, 2_504_804_804, 100_100}, {1_000, 2_502_300_000, 100_000}} {
		k := pushed(j, 100_000, 1_000, e.den)
		checkMost(t, k, e.most)
		checkOf(t, k, 25_023, e.most)
		checkOf(t, k, 25_024, e.most)
		checkOf(t, k, 1, e.first)
		checkOf(t, k, 50_046, e.first)
		checkOf(t, k, 0, 0)
		checkOf(t, k, 50_047, 0)
	}
	k := pushed(j, 99_999, 999, 1_000)
	checkMost(t, k, 2_499_772_702)
	checkMost(t, pushed(j, 1, 1, 1_000), 25)
	checkMost(t, pushed(j, 1, 1, 1), 25_023)
}

// P19.1: each number of the job in turn: at its least and its greatest the
// creep is told; one beyond, and far beyond, it isn't, though how many leaves
// are nested outside hangs only on which leaves there are.
func TestEachNumberInTurn(t *testing.T) {
	if len(limits) != bounds.Count() {
		t.Fatalf("%d limits of %d numbers", len(limits), bounds.Count())
	}
	for _, j := range some(t) {
		outside := Outside(j, 5)
		if (outside == 2) != (j.Binding == api.Saddle) {
			t.Fatalf("Outside(%+v, 5) = %d", j, outside)
		}
		for i, l := range limits {
			leafless := i == pagesAt || i == bindingAt
			for _, n := range l {
				if k := bounds.Set(j, i, n); !leafless {
					checkOutside(t, k, 5, outside)
					checkOf(t, k, 5, outside*k.Caliper*k.Num/k.Den)
				}
			}
			for _, n := range append(wrongs[:], l[0]-1, l[1]+1) {
				k := bounds.Set(j, i, n)
				if leafless {
					checkNone(t, k)
					continue
				}
				checkOutside(t, k, 5, outside)
				checkNoOf(t, k, 5)
				checkNoOf(t, k, 0)
				checkNoMost(t, k)
			}
		}
	}
}

// P19.1: two numbers that may not be, even where one would undo the other.
func TestTwoNumbersThatMayNotBe(t *testing.T) {
	for _, e := range [][3]int{{-100, -1, 1}, {100, -1, -1}, {-100, 1, -1}, {-100, -1, -1}, {0, 0, 0}, {100, 0, 0}, {100_001, 0, 1}, {0, 1_001, 1}, {0, 0, 1_001}, {100_001, 1_001, 1_001},
		{1 << 32, 1 << 32, 1}, {lowest, lowest, lowest}, {highest, highest, highest}, {lowest, -1, 1}, {lowest, 1, -1}} {
		for _, j := range some(t) {
			k := pushed(j, e[0], e[1], e[2])
			checkOutside(t, k, 5, Outside(j, 5))
			for leaf := -1; leaf < 12; leaf++ {
				checkNoOf(t, k, leaf)
			}
			checkNoMost(t, k)
		}
	}
}

package creep

import (
	"reflect"
	"slices"
	"strings"
	"testing"

	"gatherum/api"
	"gatherum/bounds"
	"gatherum/order"
	"gatherum/scheme"
	"gatherum/spine"
	"gatherum/split"
)

// dice gives numbers that look thrown, but are the same in each run.
type dice uint64

// below: a number from 0 to ahead of n.
func (d *dice) below(n int) int {
	*d = *d*6364136223846793005 + 1442695040888963407
	return int(uint64(*d) >> 33 % uint64(n))
}

// one: one of the texts.
func (d *dice) one(l ...string) string {
	return l[d.below(len(l))]
}

// job: one that has leaves, more often than not.
func (d *dice) job(t *testing.T) api.Job {
	pages := 1 + d.below(200)
	j := stack(pages, 1+d.below(8), 1+d.below(8))
	switch binding := 1 + d.below(8); binding {
	case api.Stack:
	case api.Perfect, api.ComeGo:
		j = job(t, binding, pages, d.one(scheme.Names()...))
	default:
		j = job(t, api.Saddle, pages, d.one("F4-1", "F8-1", "F8-2", "F16-1", "F16-4", "F32-2", "F64-1", "F128-1", "4x1 L1 L1 L1", "2x3 B1 T1 L1", "2x1 L1u", "F2-1", "F6-1"))
		for range d.below(4) {
			j.Last = append(j.Last, d.one("F4-1", "F8-1", "F8-2", "F4-1", "F4-1"))
		}
	}
	return pushed(j, d.below(100_001), d.below(1_001), 1+d.below(1_000))
}

// nested: how many leaves are nested outside of each leaf, by laying the
// signatures' pairs of leaves within one another; no leaf's number is asked.
func nested(j api.Job) []int {
	if j.Binding != api.Saddle {
		return make([]int, split.Leaves(j))
	}
	var front, back []int
	for _, s := range split.Of(j) {
		for range scheme.Panels(s) / 2 {
			front = append(front, len(front))
			back = append([]int{len(back)}, back...)
		}
	}
	return append(front, back...)
}

// P19.1: many jobs: each leaf against those laid within one another, Most
// against what Of answers of all.
func TestManyJobs(t *testing.T) {
	d := dice(19)
	none, deep := 0, 0
	for range 800 {
		j := d.job(t)
		if order.Copies(j) == 0 {
			checkNone(t, j)
			none++
			continue
		}
		l := nested(j)
		checkAll(t, j, l...)
		most := 0
		for leaf := range l {
			n, ok := Of(j, leaf)
			if !ok {
				t.Fatalf("no creep of leaf %d of %+v", leaf, j)
			}
			most = max(most, n)
		}
		checkMost(t, j, most)
		if slices.Max(l) > 3 {
			deep++
		}
	}
	if none < 50 || deep < 200 {
		t.Fatalf("%d jobs without a leaf, %d with many nested ones", none, deep)
	}
}

// mates: of each leaf of a scheme the one that it hangs together with at Left.
func mates(s api.Scheme) map[int]int {
	l := map[int]int{}
	for at := range scheme.Panels(s) {
		for other := range scheme.Panels(s) {
			if spine.Edge(s, at, other) == api.Left {
				l[at] = other
			}
		}
	}
	return l
}

// P19.1: by Saddle a leaf and the one that it hangs together with at the spine
// are pushed alike.
func TestLeavesThatHangTogether(t *testing.T) {
	for _, j := range []api.Job{bounds.Usual(), job(t, api.Saddle, 1, "F4-1"), job(t, api.Saddle, 100, "F4-1"), job(t, api.Saddle, 20, "F8-1", "F4-1"), job(t, api.Saddle, 50, "F8-2"),
		job(t, api.Saddle, 100, "F16-1", "F8-1"), job(t, api.Saddle, 100, "F16-4", "F8-2"), job(t, api.Saddle, 99, "F32-2", "F4-1"), job(t, api.Saddle, 31, "4x1 L1 L1 L1"),
		job(t, api.Saddle, 33, "2x3 B1 T1 L1", "F8-1"), job(t, api.Saddle, 130, "F64-1")} {
		j.Num, j.Den = 3, 7
		for sig, s := range split.Of(j) {
			l := mates(s)
			if len(l) != scheme.Panels(s) {
				t.Fatalf("%v: not all leaves hang together with another one at Left: %v", s, l)
			}
			for at, other := range l {
				a, _ := order.Leaf(j, sig, 0, at)
				b, _ := order.Leaf(j, sig, 0, other)
				meant, ok := Of(j, b)
				if !ok || a == b {
					t.Fatalf("leaves %d and %d of signature %d of %+v: %d and %d of the book", at, other, sig, j, a, b)
				}
				checkOf(t, j, a, meant)
				checkOutside(t, j, a, Outside(j, b))
			}
		}
	}
}

// P19.1: each scheme of the catalogue, and others, however they are bound.
func TestEachScheme(t *testing.T) {
	texts := append(scheme.Names(), "4x1 L1 L1 L1", "4x1 L2u L1", "2x1 L1u", "2x2 T1u L1", "2x3 B1 T1 L1", "2x5 B2 B1 B1 L1", "64x1 L32 L16 L8 L4 L2 L1", "2x1 R1", "7x1 L3 L2 L1")
	for _, text := range texts {
		takes := 2 * scheme.Panels(named(t, text))
		for _, pages := range []int{1, takes - 1, takes, takes + 1, 3 * takes} {
			checkAll(t, job(t, api.Perfect, pages, text), nested(job(t, api.Perfect, pages, text))...)
			checkAll(t, job(t, api.ComeGo, pages, text), nested(job(t, api.ComeGo, pages, text))...)
			j := job(t, api.Saddle, pages, text)
			if spine.Nests(j.Folds) {
				checkAll(t, j, nested(j)...)
			} else {
				checkNone(t, j)
			}
		}
	}
}

// P19.1: by Saddle folds that do not nest; bound otherwise they may be.
func TestFoldsThatDoNotNest(t *testing.T) {
	for _, folds := range []string{"F2-1", "F4-2", "F6-1", "F6-2", "F8-3", "F12-1", "F48-1", "2x1 R1", "2x2 B1 R1", "4x1 L1 R1 L1", "7x1 L1 L1 L1 L1 L1 L1"} {
		for _, pages := range []int{1, 16, 100_000} {
			checkNone(t, job(t, api.Saddle, pages, folds))
			checkOf(t, job(t, api.Perfect, pages, folds), 0, 0)
			checkMost(t, job(t, api.ComeGo, pages, folds), 0)
		}
	}
	checkNone(t, job(t, api.Saddle, 8, "F6-1", "F4-1"))
	checkNone(t, job(t, api.Saddle, 24, "F12-1", "F8-1", "F4-1"))
}

// P19.1: folds, or last ones, that are not right.
func TestWrongFoldsAndLastOnes(t *testing.T) {
	left := api.Step{Side: api.Left, N: 1}
	for _, s := range []api.Scheme{{}, {Cols: 2, Rows: 1}, {Cols: 1, Rows: 1, Steps: []api.Step{left}}, {Cols: 2, Rows: 1, Steps: []api.Step{{}}}, {Cols: 65, Rows: 1},
		{Cols: 2, Rows: 2, Steps: []api.Step{left}}, {Cols: highest, Rows: lowest, Steps: []api.Step{left}}, {Cols: 1 << 32, Rows: 1 << 32}, {Cols: 2, Rows: 1, Steps: make([]api.Step, 1<<16)}} {
		for binding := 1; binding <= 4; binding++ {
			if binding == api.Stack && s.Cols == 2 && len(s.Steps) == 0 {
				continue
			}
			j := bounds.Usual()
			j.Binding, j.Folds = binding, s
			checkNone(t, j)
		}
	}
	checkNone(t, job(t, api.Stack, 16, "F4-1"))
	for _, p := range [][2]int{{0, 1}, {1, 0}, {65, 1}, {1, 65}, {8, 9}, {-1, -1}, {highest, highest}, {1 << 32, 1 << 32}} {
		checkNone(t, stack(16, p[0], p[1]))
	}
	for _, name := range []string{"", "F8-1", "F16-1", "F4-3", "f4-1", "2x1 L1", "F4-1\x00", "\xff\xfe", strings.Repeat("F4-1", 1<<16)} {
		checkNone(t, job(t, api.Saddle, 16, "F8-1", name))
		checkNone(t, job(t, api.Perfect, 16, "F8-1", "F4-1", name))
	}
	checkNone(t, job(t, api.Saddle, 16, "F8-1", "F4-2"))
	checkNone(t, job(t, api.ComeGo, 16, "F8-1", "F4-1"))
	checkNone(t, job(t, api.Saddle, 16, "F8-1", "F4-1", "F4-1", "F4-1", "F4-1", "F4-1"))
	checkAll(t, job(t, api.Saddle, 16, "F8-1", "F4-1", "F4-1", "F4-1", "F4-1"), 0, 1, 2, 3, 3, 2, 1, 0)
	j := stack(16, 2, 2)
	j.Last = []string{"F2-1"}
	checkNone(t, j)
}

// P19.1: pages and bindings that may not be.
func TestWrongPagesAndBindings(t *testing.T) {
	for _, w := range append(wrongs[:], 0, -1, 100_001) {
		for _, j := range some(t) {
			j.Pages = w
			checkNone(t, j)
		}
	}
	for _, w := range append(wrongs[:], 0, -1, 5, 6, 1<<32+api.Stack, lowest+api.Saddle) {
		for _, j := range some(t) {
			j.Binding = w
			checkNone(t, j)
		}
	}
}

// P1: jobs all of whose numbers are the least ones, or the greatest, or few.
func TestWrongNumbersEverywhere(t *testing.T) {
	checkNone(t, api.Job{})
	for _, n := range append(wrongs[:], -1, 0) {
		for _, m := range append(wrongs[:], 0, 1, 2, 64) {
			var j api.Job
			for i := range bounds.Count() {
				j = bounds.Set(j, i, n)
			}
			j.Folds = api.Scheme{Cols: m, Rows: n, Steps: []api.Step{{Side: n, N: m}, {Side: m, N: n, Under: true}}}
			j.Last, j.Title = []string{"", "\xff", "F2-1"}, "\x00\xff"
			checkNone(t, j)
			// Pages, a binding and folds that may be, and nothing else.
			j.Pages, j.Binding, j.Folds, j.Last = 16, api.Saddle, named(t, "F8-1"), nil
			checkOutside(t, j, 2, 2)
			checkNoOf(t, j, 2)
			checkNoMost(t, j)
		}
	}
}

// P3: titles of any octets, and numbers that may be, change nothing.
func TestOtherFieldsChangeNothing(t *testing.T) {
	for _, title := range []string{"", "\x00\xff\n\"", strings.Repeat("\xfe", 61), strings.Repeat("a", 1<<16)} {
		j := bounds.Usual()
		j.Title = title
		for i, l := range limits {
			if i != pagesAt && i != bindingAt && (i < 17 || i > 19) {
				j = bounds.Set(j, i, l[len(title)%2])
			}
		}
		checkAll(t, j, 0, 1, 2, 3, 3, 2, 1, 0)
		j.Binding = api.Perfect
		checkAll(t, j, 0, 0, 0, 0, 0, 0, 0, 0)
	}
}

// P2: the job is as it was, and so is what its lists have behind their ends.
func TestTheJobIsNotChanged(t *testing.T) {
	for _, j := range some(t) {
		j.Folds.Steps = slices.Grow(j.Folds.Steps, 3)
		j.Last = slices.Grow(j.Last, 3)
		before := j
		before.Folds.Steps = slices.Clone(j.Folds.Steps[:cap(j.Folds.Steps)])
		before.Last = slices.Clone(j.Last[:cap(j.Last)])
		for leaf := -1; leaf < 12; leaf++ {
			Outside(j, leaf)
			Of(j, leaf)
		}
		Most(j)
		j.Folds.Steps, j.Last = j.Folds.Steps[:cap(j.Folds.Steps)], j.Last[:cap(j.Last)]
		if !reflect.DeepEqual(j, before) {
			t.Fatalf("%+v is changed; it was: %+v", j, before)
		}
	}
}

// P2: nothing is kept of a job that is changed afterwards.
func TestNothingIsKept(t *testing.T) {
	j := job(t, api.Saddle, 20, "F8-1", "F4-1")
	meant := []int{0, 1, 2, 3, 4, 4, 3, 2, 1, 0}
	checkAll(t, j, meant...)
	j.Folds.Steps[1].Side = api.Right
	checkNone(t, j)
	j.Folds.Steps[1].Side = api.Left
	j.Last[0] = "F4-2"
	checkNone(t, j)
	j.Last[0] = "F4-1"
	checkAll(t, j, meant...)
}

// P5: no steps and no last ones, nil or empty.
func TestNilAndEmpty(t *testing.T) {
	for _, steps := range [][]api.Step{nil, {}} {
		for _, last := range [][]string{nil, {}} {
			j := bounds.Usual()
			j.Last = last
			checkAll(t, j, 0, 1, 2, 3, 3, 2, 1, 0)
			for binding := range 6 {
				j.Binding, j.Pages, j.Folds = binding, 3, api.Scheme{Cols: 1, Rows: 1, Steps: steps}
				if binding < api.Perfect || binding > api.ComeGo {
					checkNone(t, j)
				} else {
					checkAll(t, j, 0, 0)
				}
			}
		}
	}
}

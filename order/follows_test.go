package order

import (
	"reflect"
	"slices"
	"testing"

	"gatherum/api"
	"gatherum/bounds"
	"gatherum/scheme"
	"gatherum/spine"
	"gatherum/split"
)

// dice gives numbers that look thrown, but are the same in each run.
type dice uint64

// below: a number from 0 to ahead of n.
func (d *dice) below(n int) int {
	*d = *d*6364136223846793005 + 1442695040888963407
	return int(uint64(*d) >> 33 % uint64(n))
}

// one: one of the texts.
func (d *dice) one(l ...string) string {
	return l[d.below(len(l))]
}

// folds: a scheme, of the catalogue or none of it, that most often may be
// bound so.
func (d *dice) folds(t *testing.T, binding int) api.Scheme {
	if binding == api.Stack {
		return api.Scheme{Cols: 1 + d.below(8), Rows: 1 + d.below(8)}
	}
	if d.below(8) == 0 {
		return named(t, d.one("4x1 L1 L1 L1", "4x1 L2u L1", "2x1 L1u", "2x2 T1u L1", "2x3 B1 T1 L1", "2x5 B2 B1 B1 L1", "2x2 T1u R1", "7x1 L3 L2 L1 L1"))
	}
	if binding == api.Saddle && d.below(8) > 0 {
		return named(t, d.one("F4-1", "F8-1", "F8-2", "F16-1", "F16-2", "F16-3", "F16-4", "F32-1", "F32-2", "F64-1", "F128-1"))
	}
	names := scheme.Names()
	return named(t, d.one(names...))
}

// job: one that can be bound, more often than not.
func (d *dice) job(t *testing.T) api.Job {
	j := bounds.Usual()
	j.Binding = 1 + d.below(4)
	if d.below(16) == 0 {
		j.Binding = d.below(8) - 2
	}
	j.Folds, j.Pages = d.folds(t, j.Binding), 1+d.below(200)
	if d.below(16) == 0 {
		j.Pages = d.below(3) * 50_001
	}
	if j.Binding == api.Saddle || j.Binding == api.Perfect {
		for range d.below(5) {
			j.Last = append(j.Last, d.one("F4-1", "F8-1", "F8-2", "F4-1", "F2-1"))
		}
	}
	return j
}

// may: the chapter's words of which jobs are spoken.
func may(j api.Job) bool {
	return split.Folds(j) && split.Last(j) && (j.Binding != api.Saddle || spine.Nests(j.Folds)) &&
		j.Pages >= 1 && j.Pages <= 100_000 && j.Binding >= 1 && j.Binding <= 4
}

// whole: all leaves of a signature, from above.
func whole(sig int, s api.Scheme) []from {
	var l []from
	for at := range s.Cols * s.Rows {
		l = append(l, from{sig, at})
	}
	return l
}

// gathered: a copy's book, gathered by hand: no leaf's number is reckoned.
func gathered(j api.Job, copy int) []from {
	signatures := split.Of(j)
	var l, behind []from
	switch j.Binding {
	case api.Stack:
		for at := range j.Folds.Cols * j.Folds.Rows {
			for sig := range signatures {
				l = append(l, from{sig, at})
			}
		}
	case api.Saddle:
		// Each signature is opened at its middle, and laid into that of the
		// one ahead; what comes behind is kept from its end.
		for sig, s := range signatures {
			leaves := whole(sig, s)
			half := len(leaves) / 2
			l = append(l, leaves[:half]...)
			slices.Reverse(leaves[half:])
			behind = append(behind, leaves[half:]...)
		}
		slices.Reverse(behind)
		l = append(l, behind...)
	default:
		for sig := range signatures {
			if copy == 1 {
				sig = len(signatures) - 1 - sig
			}
			l = append(l, whole(sig, signatures[sig])...)
		}
	}
	return l
}

// checkBooks: all books of j against those gathered by hand.
func checkBooks(t *testing.T, j api.Job) {
	t.Helper()
	copies := 1
	if j.Binding == api.ComeGo {
		copies = 2
	}
	checkCopies(t, j, copies)
	for copy := range copies {
		checkBook(t, j, copy, gathered(j, copy))
	}
	checkNoCopy(t, j, copies)
	checkNoCopy(t, j, -1)
	for leaf := range split.Leaves(j) {
		recto, verso := 2*leaf+1, 2*leaf+2
		if recto > j.Pages {
			recto = 0
		}
		if verso > j.Pages {
			verso = 0
		}
		checkPages(t, j, leaf, recto, verso)
	}
}

// P18.1, P18.2, P18.3: each scheme of the catalogue and some others, however
// they are bound, with pages around the ends of signatures.
func TestEachScheme(t *testing.T) {
	texts := append(scheme.Names(), "4x1 L1 L1 L1", "4x1 L2u L1", "2x1 L1u", "2x2 T1u L1", "2x3 B1 T1 L1", "2x5 B2 B1 B1 L1", "64x1 L32 L16 L8 L4 L2 L1")
	for _, text := range texts {
		for binding := 1; binding <= 4; binding++ {
			j := job(t, binding, 1, text)
			takes := 2 * scheme.Panels(j.Folds)
			if binding == api.Stack {
				j.Folds.Steps = nil
			}
			for _, pages := range []int{1, takes - 1, takes, takes + 1, 2*takes + 1, 4 * takes} {
				j.Pages = pages
				if binding == api.Saddle && !spine.Nests(j.Folds) {
					checkNone(t, j)
					continue
				}
				checkBooks(t, j)
			}
		}
	}
}

// P18.1, P18.2, P18.3: many jobs, with last ones.
func TestManyJobs(t *testing.T) {
	d := dice(18)
	bound, shorter := map[int]int{}, map[int]int{}
	for range 1200 {
		j := d.job(t)
		if !may(j) {
			checkNone(t, j)
			bound[0]++
			continue
		}
		if j.Pages > 200 {
			checkDrawn(t, &d, j, 20)
			continue
		}
		checkBooks(t, j)
		bound[j.Binding]++
		n := split.Count(j)
		if last, _ := split.At(j, n-1); n > 1 && scheme.Panels(last) < scheme.Panels(j.Folds) {
			shorter[j.Binding]++
		}
	}
	for binding := range 5 {
		if bound[binding] < 100 {
			t.Fatalf("only %d jobs of binding %d", bound[binding], binding)
		}
	}
	if shorter[api.Saddle] < 20 || shorter[api.Perfect] < 20 {
		t.Fatalf("only %v jobs with fewer leaves at the end", shorter)
	}
}

// P18.3: by what the program alone tells: each leaf of the book is one leaf of
// one signature, none comes twice, and there are as many as 17 tells.
func TestEachLeafComesOnce(t *testing.T) {
	d := dice(183)
	for range 300 {
		j := d.job(t)
		if j.Pages > 200 {
			continue
		}
		for copy := range Copies(j) {
			seen := map[from]bool{}
			for leaf := range split.Leaves(j) {
				sig, at, ok := Where(j, copy, leaf)
				s, is := split.At(j, sig)
				if !ok || !is || at < 0 || at >= scheme.Panels(s) || seen[from{sig, at}] {
					t.Fatalf("Where(%+v, %d, %d) = %d, %d, %v", j, copy, leaf, sig, at, ok)
				}
				seen[from{sig, at}] = true
				checkLeaf(t, j, from{sig, at}, copy, leaf)
			}
			count := 0
			for sig := range split.Count(j) + 1 {
				for at := range scheme.Panels(j.Folds) + 1 {
					if _, ok := Leaf(j, sig, copy, at); ok {
						count++
					}
				}
			}
			if count != len(seen) || count != split.Leaves(j) {
				t.Fatalf("%+v: %d leaves of the book, %d of signatures, %d in all", j, len(seen), count, split.Leaves(j))
			}
		}
	}
}

// checkDrawn: of each book of j its first and last leaves, its middle, and some
// drawn from all of it.
func checkDrawn(t *testing.T, d *dice, j api.Job, draws int) {
	t.Helper()
	for copy := range Copies(j) {
		l := gathered(j, copy)
		leaves := []int{0, 1, len(l)/2 - 1, len(l) / 2, len(l) - 2, len(l) - 1}
		for range draws {
			leaves = append(leaves, d.below(len(l)))
		}
		for _, leaf := range leaves {
			checkWhere(t, j, copy, leaf, l[leaf])
			checkLeaf(t, j, l[leaf], copy, leaf)
		}
		checkNoWhere(t, j, copy, len(l))
		checkNoLeaf(t, j, split.Count(j), copy, 0)
	}
}

// P18.3: of 100,000 pages.
func TestDrawnFromTheMostPages(t *testing.T) {
	d := dice(100_000)
	jobs := []api.Job{job(t, api.Saddle, 100_000, "F4-1"), job(t, api.Saddle, 100_000, "F8-1"), job(t, api.Saddle, 100_000, "2x3 B1 T1 L1", "F8-1", "F4-1"),
		job(t, api.Saddle, 100_000, "F128-1", "F32-1", "F16-1"), job(t, api.Perfect, 100_000, "F2-1"), job(t, api.Perfect, 100_000, "F48-1", "F24-1", "F12-2"),
		job(t, api.Perfect, 99_999, "F128-1"), job(t, api.ComeGo, 100_000, "F2-1"), job(t, api.ComeGo, 99_997, "F16-1"), job(t, api.ComeGo, 100_000, "F128-1"),
		stack(100_000, 1, 1), stack(100_000, 2, 1), stack(99_999, 7, 9), stack(100_000, 8, 8)}
	for _, j := range jobs {
		if Copies(j) == 0 {
			t.Fatalf("%+v can't be bound", j)
		}
		checkDrawn(t, &d, j, 400)
	}
}

// numbers: some of what may be told of j.
func numbers(j api.Job) []int {
	l := []int{Copies(j)}
	for sig := -1; sig < 5; sig++ {
		for copy := -1; copy < 3; copy++ {
			for at := -1; at < 6; at++ {
				n, ok := Leaf(j, sig, copy, at)
				sig2, at2, is := Where(j, copy, 5*sig+at)
				recto, verso := Pages(j, 5*sig+at)
				l = append(l, n, sig2, at2, recto, verso)
				if ok {
					l = append(l, 1000)
				}
				if is {
					l = append(l, 2000)
				}
			}
		}
	}
	return l
}

// some: a job of each binding.
func some(t *testing.T) []api.Job {
	return []api.Job{job(t, api.Saddle, 20, "F8-1", "F4-1"), job(t, api.Perfect, 17, "F8-1", "F4-1", "F2-1"), job(t, api.ComeGo, 24, "F8-1"), stack(20, 2, 2)}
}

// P3: other fields of a job, of any kind, change nothing.
func TestOtherFieldsChangeNothing(t *testing.T) {
	for _, j := range some(t) {
		meant := numbers(j)
		for _, n := range []int{lowest, lowest + 1, -1, 0, 1, 65, 1 << 32, highest - 1, highest} {
			k := j
			for i := range bounds.Count() {
				k = bounds.Set(k, i, n)
			}
			k.Pages, k.Binding, k.Title = j.Pages, j.Binding, "\x00\xff\n\""+string(make([]byte, 100))
			if !slices.Equal(numbers(k), meant) || !slices.Equal(numbers(j), meant) {
				t.Fatalf("%+v: other numbers", k)
			}
		}
	}
}

// P1: jobs all of whose numbers are the least ones, or the greatest.
func TestWrongNumbersEverywhere(t *testing.T) {
	for _, n := range append(wrongs[:], 0, 1, 2, 3, 4, 5) {
		for _, m := range append(wrongs[:], 0, 1, 2, 64) {
			var j api.Job
			for i := range bounds.Count() {
				j = bounds.Set(j, i, n)
			}
			j.Folds = api.Scheme{Cols: m, Rows: n, Steps: []api.Step{{Side: n, N: m}, {Side: m, N: n, Under: true}}}
			checkNone(t, j)
			j.Last = []string{"", "\xff", "F2-1"}
			checkNone(t, j)
		}
	}
	checkNone(t, api.Job{})
}

// P2: the job is as it was, and so is what its lists have behind their ends.
func TestTheJobIsNotChanged(t *testing.T) {
	for _, j := range some(t) {
		j.Folds.Steps = slices.Grow(j.Folds.Steps, 3)
		j.Last = slices.Grow(j.Last, 3)
		before := j
		before.Folds.Steps = slices.Clone(j.Folds.Steps[:cap(j.Folds.Steps)])
		before.Last = slices.Clone(j.Last[:cap(j.Last)])
		numbers(j)
		j.Folds.Steps, j.Last = j.Folds.Steps[:cap(j.Folds.Steps)], j.Last[:cap(j.Last)]
		if !reflect.DeepEqual(j, before) {
			t.Fatalf("%+v is changed; it was: %+v", j, before)
		}
	}
}

// P2: nothing is kept of a job that is changed afterwards.
func TestNothingIsKept(t *testing.T) {
	j := job(t, api.Saddle, 20, "F8-1", "F4-1")
	checkCopies(t, j, 1)
	j.Folds.Steps[1].Side = api.Right
	checkNone(t, j)
	j.Folds.Steps[1].Side = api.Left
	j.Last[0] = "F4-2"
	checkNone(t, j)
	j.Last[0] = "F4-1"
	checkBooks(t, j)
}

// P5: no steps and no last ones, nil or empty.
func TestNilAndEmpty(t *testing.T) {
	for _, steps := range [][]api.Step{nil, {}} {
		for _, last := range [][]string{nil, {}} {
			for binding := range 6 {
				j := bounds.Usual()
				j.Binding, j.Pages, j.Folds, j.Last = binding, 3, api.Scheme{Cols: 1, Rows: 1, Steps: steps}, last
				switch binding {
				case api.Perfect, api.Stack:
					checkOne(t, j, "0.0 1.0")
				case api.ComeGo:
					checkTwo(t, j, "0.0 1.0", "1.0 0.0")
				default:
					checkNone(t, j)
				}
			}
		}
	}
}

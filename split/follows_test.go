package split

import (
	"reflect"
	"slices"
	"testing"

	"gatherum/api"
	"gatherum/bounds"
	"gatherum/scheme"
	"gatherum/spine"
)

// dice gives numbers that look thrown, but are the same in each run.
type dice uint64

// below: a number from 0 to ahead of n.
func (d *dice) below(n int) int {
	*d = *d*6364136223846793005 + 1442695040888963407
	return int(uint64(*d) >> 33 % uint64(n))
}

// folds: a scheme of the catalogue, or another right one, or a wrong one.
func (d *dice) folds() api.Scheme {
	names := scheme.Names()
	s, _ := scheme.Find(names[d.below(len(names))])
	switch d.below(8) {
	case 0:
		s = api.Scheme{Cols: d.below(10), Rows: d.below(10)}
	case 1:
		for i := range s.Steps {
			s.Steps[i].Under = d.below(2) == 0
			// The other side of the same way: Left and Right, Bottom and Top.
			if d.below(2) == 0 {
				s.Steps[i].Side = (s.Steps[i].Side - 1) ^ 1 + 1
			}
		}
	case 2:
		s.Steps = s.Steps[:d.below(len(s.Steps)+1)]
	}
	return s
}

// job: one that can be parted, more often than not.
func (d *dice) job() api.Job {
	j := bounds.Usual()
	j.Binding, j.Folds, j.Pages = d.below(6), d.folds(), d.below(300)
	if j.Binding == api.Stack && d.below(4) > 0 {
		j.Folds.Steps = nil
	}
	if d.below(16) == 0 {
		j.Pages = 99_000 + d.below(1010)
	}
	names := scheme.Names()
	for range d.below(6) * d.below(2) {
		j.Last = append(j.Last, names[d.below(min(len(names), 3+j.Folds.Cols*j.Folds.Rows))])
	}
	return j
}

// rightFolds: the chapter's words, told a second time.
func rightFolds(j api.Job) bool {
	if j.Binding != api.Stack {
		return scheme.Right(j.Folds)
	}
	c, r := j.Folds.Cols, j.Folds.Rows
	return len(j.Folds.Steps) == 0 && c >= 1 && c <= 64 && r >= 1 && r <= 64 && c*r <= 64
}

// rightLast: the same, of folds that are right.
func rightLast(j api.Job) bool {
	switch j.Binding {
	case api.Stack, api.ComeGo:
		return len(j.Last) == 0
	}
	for _, name := range j.Last {
		s, ok := scheme.Find(name)
		if !ok || s.Cols*s.Rows >= j.Folds.Cols*j.Folds.Rows || j.Binding == api.Saddle && !spine.Nests(s) {
			return false
		}
	}
	return len(j.Last) <= 4
}

// signatures: one signature of Folds after the other, till all pages are
// taken; the last one then is sought among all that take what is left.
func signatures(j api.Job) []api.Scheme {
	var l []api.Scheme
	left := j.Pages
	for left > 2*j.Folds.Cols*j.Folds.Rows {
		l = append(l, j.Folds)
		left -= 2 * j.Folds.Cols * j.Folds.Rows
	}
	may := []api.Scheme{j.Folds}
	for _, name := range j.Last {
		s, _ := scheme.Find(name)
		may = append(may, s)
	}
	may = slices.DeleteFunc(may, func(s api.Scheme) bool { return 2*s.Cols*s.Rows < left })
	slices.SortStableFunc(may, func(a, b api.Scheme) int { return a.Cols*a.Rows - b.Cols*b.Rows })
	return append(l, may[0])
}

// P17.1, P17.2: over many jobs, as the chapter's words ask.
func TestManyJobs(t *testing.T) {
	d := dice(17)
	parted, shorter := 0, 0
	for range 6000 {
		j := d.job()
		switch {
		case !rightFolds(j):
			checkWrongFolds(t, j)
		case !rightLast(j):
			checkWrongLast(t, j)
		case j.Pages < 1 || j.Pages > 100_000:
			checkRight(t, j)
			checkNone(t, j)
		default:
			l := signatures(j)
			checkSignatures(t, j, l...)
			parted++
			if !scheme.Same(l[len(l)-1], j.Folds) {
				shorter++
			}
		}
	}
	if parted < 2000 || shorter < 100 {
		t.Fatalf("only %d jobs are parted, %d with a last one", parted, shorter)
	}
}

// P17.3: and what holds of all answers together, whatever they are.
func TestFollows(t *testing.T) {
	d := dice(173)
	for range 2000 {
		j := d.job()
		l, leaves := Of(j), 0
		for i, s := range l {
			leaves += scheme.Panels(s)
			if i%997 == 0 || i == len(l)-1 {
				checkAt(t, j, i, s)
			}
		}
		checkCounts(t, j, len(l), leaves, Blanks(j))
		if len(l) == 0 {
			checkNone(t, j)
			continue
		}
		if b := Blanks(j); b < 0 || b >= 2*scheme.Panels(j.Folds) || 2*leaves != j.Pages+b {
			t.Fatalf("%+v: %d leaves, %d blanks", j, leaves, b)
		}
	}
}

// P17.3: for each number of pages up to some signatures of each scheme.
func TestBlanksAreFewerThanASignaturesPages(t *testing.T) {
	for _, name := range scheme.Names() {
		for pages := 1; pages < 400; pages++ {
			j := job(t, api.Perfect, pages, name)
			takes := 2 * j.Folds.Cols * j.Folds.Rows
			checkBlanks(t, j, (takes-pages%takes)%takes)
			if takes == 2 {
				continue
			}
			// One leaf is enough for the last page, or the last two.
			j.Last = []string{"F2-1"}
			if over := pages % takes; over == 1 || over == 2 {
				checkBlanks(t, j, 2-over)
			} else {
				checkBlanks(t, j, (takes-over)%takes)
			}
		}
	}
}

func checkBlanks(t *testing.T, j api.Job, meant int) {
	t.Helper()
	if b := Blanks(j); b != meant {
		t.Fatalf("Blanks(%+v) = %d; meant: %d", j, b, meant)
	}
}

// P3: other fields of a job, of any kind, change nothing.
func TestOtherFieldsChangeNothing(t *testing.T) {
	for _, n := range []int{lowest, lowest + 1, -1, 0, 1, 65, 1 << 32, highest - 1, highest} {
		j := job(t, api.Saddle, 20, "F8-1", "F4-1")
		for i := range bounds.Count() {
			j = bounds.Set(j, i, n)
		}
		j.Pages, j.Binding, j.Title = 20, api.Saddle, "\x00\xff\n\""+string(make([]byte, 100))
		checkTexts(t, j, "F8-1", "F8-1", "F4-1")
	}
}

// P1: jobs all of whose numbers are the least ones, or the greatest.
func TestWrongNumbersEverywhere(t *testing.T) {
	for _, n := range append(wrongs[:], 1, 2, 3, 4, 5) {
		for _, m := range append(wrongs[:], 1, 2, 64) {
			var j api.Job
			for i := range bounds.Count() {
				j = bounds.Set(j, i, n)
			}
			j.Folds = api.Scheme{Cols: m, Rows: n, Steps: []api.Step{{Side: n, N: m}, {Side: m, N: n, Under: true}}}
			checkWrongFolds(t, j)
			j.Last = []string{"", "\xff", "F2-1"}
			checkWrongFolds(t, j)
		}
	}
	checkWrongFolds(t, api.Job{})
}

// copied: j with lists of its own.
func copied(j api.Job) api.Job {
	j.Folds.Steps = slices.Clone(j.Folds.Steps)
	j.Last = slices.Clone(j.Last)
	return j
}

// spoil: each step of s is another one, as far as there is room for any.
func spoil(s api.Scheme) {
	l := s.Steps[:cap(s.Steps)]
	for i := range l {
		l[i] = api.Step{Side: -1, N: -1}
	}
}

// P2: what is answered is new memory, each signature's steps by themselves;
// the job is as it was.
func TestNewMemory(t *testing.T) {
	for _, j := range []api.Job{job(t, api.Saddle, 20, "F8-1", "F4-1"), job(t, api.Perfect, 40, "F8-1"), job(t, api.ComeGo, 24, "F8-1"),
		job(t, api.Perfect, 5, "F16-1", "F8-1", "F8-2"), stack(20, 2, 2), job(t, api.Perfect, 5, "F2-1")} {
		// A list with room behind it would let an answer be written there.
		j.Folds.Steps = slices.Grow(j.Folds.Steps, 3)
		before := copied(j)
		meant := signatures(copied(j))
		first, second := Of(j), Of(j)
		for i := range first {
			spoil(first[i])
			for k := i + 1; k < len(first); k++ {
				if !scheme.Same(first[k], meant[k]) {
					t.Fatalf("the steps of %d and %d of %+v are one list", i, k, j)
				}
			}
			a, _ := At(j, i)
			spoil(a)
			checkAt(t, j, i, meant[i])
		}
		first = first[:cap(first)]
		clear(first)
		if !slices.EqualFunc(second, meant, scheme.Same) || !slices.EqualFunc(Of(j), meant, scheme.Same) {
			t.Fatalf("what was answered of %+v is changed", j)
		}
		Folds(j)
		Last(j)
		Count(j)
		Leaves(j)
		Blanks(j)
		if !reflect.DeepEqual(copied(j), before) {
			t.Fatalf("%+v is changed", j)
		}
	}
}

// P2: a job that is changed afterwards doesn't change what was answered.
func TestNothingIsKept(t *testing.T) {
	j := job(t, api.Saddle, 20, "F8-1", "F4-1")
	l, meant := Of(j), signatures(copied(j))
	s, _ := At(j, 0)
	spoil(j.Folds)
	j.Last[0] = "F2-1"
	if !slices.EqualFunc(l, meant, scheme.Same) || !scheme.Same(s, meant[0]) {
		t.Fatal("an answer is changed with the job")
	}
	checkWrongFolds(t, j)
}

// P5: no steps and no last ones, nil or empty.
func TestNilAndEmpty(t *testing.T) {
	for _, steps := range [][]api.Step{nil, {}} {
		for _, last := range [][]string{nil, {}} {
			for binding := range 6 {
				j := bounds.Usual()
				j.Binding, j.Pages, j.Folds, j.Last = binding, 3, api.Scheme{Cols: 1, Rows: 1, Steps: steps}, last
				checkTexts(t, j, "F2-1", "F2-1")
			}
		}
	}
}

package bounds

import (
	"math"
	"reflect"
	"slices"
	"strings"
	"testing"

	"gatherum/api"
	"gatherum/scheme"
)

const (
	lowest  = math.MinInt
	highest = math.MaxInt
)

// row is one of a job's numbers: what it is called, where a job has it, from
// what to what it may be, and what the usual job has there.
type row struct {
	name   string
	at     func(j *api.Job) *int
	lo, hi int
	usual  int
}

// rows: the numbers as the chapter lists them, in order; new each time.
func rows() []row {
	return []row{
		{"Pages", func(j *api.Job) *int { return &j.Pages }, 1, 100000, 16},
		{"Box.X", func(j *api.Job) *int { return &j.Box.X }, -5000000, 5000000, 0},
		{"Box.Y", func(j *api.Job) *int { return &j.Box.Y }, -5000000, 5000000, 0},
		{"W", func(j *api.Job) *int { return &j.W }, 1, 5000000, 148000},
		{"H", func(j *api.Job) *int { return &j.H }, 1, 5000000, 210000},
		{"Bleed", func(j *api.Job) *int { return &j.Bleed }, 0, 5000000, 3000},
		{"Head", func(j *api.Job) *int { return &j.Head }, 0, 5000000, 5000},
		{"Foot", func(j *api.Job) *int { return &j.Foot }, 0, 5000000, 5000},
		{"Face", func(j *api.Job) *int { return &j.Face }, 0, 5000000, 5000},
		{"Spine", func(j *api.Job) *int { return &j.Spine }, 0, 5000000, 0},
		{"Binding", func(j *api.Job) *int { return &j.Binding }, 1, 4, 1},
		{"Style", func(j *api.Job) *int { return &j.Style }, 1, 4, 1},
		{"SheetW", func(j *api.Job) *int { return &j.SheetW }, 1, 5000000, 640000},
		{"SheetH", func(j *api.Job) *int { return &j.SheetH }, 1, 5000000, 900000},
		{"Side", func(j *api.Job) *int { return &j.Side }, 0, 5000000, 10000},
		{"Grip", func(j *api.Job) *int { return &j.Grip }, 0, 5000000, 12000},
		{"Tail", func(j *api.Job) *int { return &j.Tail }, 0, 5000000, 8000},
		{"Caliper", func(j *api.Job) *int { return &j.Caliper }, 0, 100000, 100},
		{"Num", func(j *api.Job) *int { return &j.Num }, 0, 1000, 1},
		{"Den", func(j *api.Job) *int { return &j.Den }, 1, 1000, 1},
		{"Quarter", func(j *api.Job) *int { return &j.Quarter }, 0, 3, 0},
		{"MarkLen", func(j *api.Job) *int { return &j.MarkLen }, 0, 5000000, 5000},
		{"MarkOff", func(j *api.Job) *int { return &j.MarkOff }, 0, 5000000, 3000},
		{"MarkWide", func(j *api.Job) *int { return &j.MarkWide }, 0, 5000000, 100},
		{"StairAt", func(j *api.Job) *int { return &j.StairAt }, 0, 5000000, 20000},
		{"StairStep", func(j *api.Job) *int { return &j.StairStep }, 0, 5000000, 5000},
		{"StairWrap", func(j *api.Job) *int { return &j.StairWrap }, 1, 1000, 10},
		{"StairWide", func(j *api.Job) *int { return &j.StairWide }, 0, 5000000, 0},
	}
}

// wrongPlaces: places that are none; some of them are ones in their lower
// octets, or counted from the end.
func wrongPlaces() []int {
	l := []int{
		-256, -255, -1 << 32, 1 - 1<<32, -1<<32 + 27, 100, 255, 256, 257, 256 + 27, 1 << 16, 1<<16 + 5, 1 << 32, 1<<32 + 1,
		1<<32 + 27, 1 << 62, 1<<62 + 3, lowest, lowest + 1, lowest + 27, lowest + 28, highest, highest - 1, highest - 27,
	}
	for n := 1; n <= 60; n++ {
		l = append(l, -n, 27+n)
	}
	return l
}

// extremes: numbers that none of a job's may be, whichever it is.
func extremes() []int {
	return []int{
		lowest, lowest + 1, lowest + 2, -1 << 62, -1 << 32, 1 - 1<<32, 3 - 1<<32, -1<<31 - 1, -1 << 31, -5000001,
		5000001, 1<<31 - 1, 1 << 31, 1 << 32, 1<<32 + 1, 1<<32 + 3, 1 << 62, highest - 2, highest - 1, highest,
	}
}

// wrong: numbers that r may not be.
func wrong(r row) []int {
	return append(extremes(), r.lo-1, r.hi+1)
}

// distinct: a job whose numbers are 1001 to 1028 in the order of the chapter,
// and which has a list of each kind.
func distinct() api.Job {
	return api.Job{
		Title: "a job",
		Pages: 1001,
		Box:   api.Point{X: 1002, Y: 1003},
		W:     1004, H: 1005,
		Bleed: 1006, Head: 1007, Foot: 1008, Face: 1009, Spine: 1010,
		Binding: 1011, Style: 1012,
		SheetW: 1013, SheetH: 1014,
		Side: 1015, Grip: 1016, Tail: 1017,
		Caliper: 1018, Num: 1019, Den: 1020,
		Quarter: 1021,
		MarkLen: 1022, MarkOff: 1023, MarkWide: 1024,
		StairAt: 1025, StairStep: 1026, StairWrap: 1027, StairWide: 1028,
		Folds: api.Scheme{Cols: 31, Rows: 32, Steps: []api.Step{
			{Side: api.Top, N: 9, Under: true}, {Side: api.Right, N: 8}, {Side: api.Left, N: 7, Under: true},
		}},
		Last: []string{"F4-1", "no name", ""},
	}
}

// copied: a job like j that shares nothing with it.
func copied(j api.Job) api.Job {
	j.Folds.Steps = append([]api.Step(nil), j.Folds.Steps...)
	j.Last = append([]string(nil), j.Last...)
	return j
}

// same: are a and b the same job? A nil list is an empty one.
func same(a, b api.Job) bool {
	return reflect.DeepEqual(copied(a), copied(b))
}

// with: j with n at r's place, by the field itself.
func with(j api.Job, r row, n int) api.Job {
	j = copied(j)
	*r.at(&j) = n
	return j
}

// every: j with a number of its own at each place.
func every(j api.Job, of func(r row) int) api.Job {
	for _, r := range rows() {
		j = with(j, r, of(r))
	}
	return j
}

func checkGet(t *testing.T, j api.Job, i, meant int) {
	t.Helper()
	if n := Get(j, i); n != meant {
		t.Fatalf("Get(j, %d) = %d; meant: %d; j is %+v", i, n, meant, j)
	}
}

func checkSet(t *testing.T, j api.Job, i, n int, meant api.Job) {
	t.Helper()
	was := copied(j)
	if s := Set(j, i, n); !same(s, meant) {
		t.Fatalf("Set(j, %d, %d) = %+v; meant: %+v", i, n, s, meant)
	}
	if !same(j, was) {
		t.Fatalf("Set(j, %d, %d) makes %+v of j, which was %+v", i, n, j, was)
	}
}

func checkFirst(t *testing.T, j api.Job, meant int) {
	t.Helper()
	was := copied(j)
	if i := First(j); i != meant {
		t.Fatalf("First = %d; meant: %d; the job is %+v", i, meant, j)
	}
	if !same(j, was) {
		t.Fatalf("First makes %+v of the job, which was %+v", j, was)
	}
}

// P15.1: how many there are.
func TestCount(t *testing.T) {
	if Count() != 28 || Count() != len(rows()) {
		t.Fatalf("Count() = %d", Count())
	}
}

// numberFields: how many ints v has, in itself and in its structs, but in its
// schemes.
func numberFields(v reflect.Type) int {
	switch {
	case v.Kind() == reflect.Int:
		return 1
	case v.Kind() != reflect.Struct || v == reflect.TypeFor[api.Scheme]():
		return 0
	}
	sum := 0
	for i := range v.NumField() {
		sum += numberFields(v.Field(i).Type)
	}
	return sum
}

// P15.1: no number of api.Job is left out, but the scheme's: the places are as
// many as its fields, and each writes another one.
func TestEachFieldHasAPlace(t *testing.T) {
	if n := numberFields(reflect.TypeFor[api.Job]()); n != Count() {
		t.Fatalf("api.Job has %d numbers", n)
	}
	var j api.Job
	for i := range Count() {
		j = Set(j, i, 1+i)
	}
	seen := map[int]bool{}
	for _, r := range rows() {
		seen[*r.at(&j)] = true
	}
	if len(seen) != 28 || seen[0] {
		t.Fatalf("the numbers become %+v", j)
	}
}

// P15.1: each number is got at its place, by the order of the chapter.
func TestGet(t *testing.T) {
	j := distinct()
	for i, r := range rows() {
		checkGet(t, j, i, 1001+i)
		checkGet(t, j, i, *r.at(&j))
		checkGet(t, api.Job{}, i, 0)
		checkGet(t, with(api.Job{}, r, -7), i, -7)
		for k := range rows() {
			if k != i {
				checkGet(t, with(api.Job{}, r, -7), k, 0)
			}
		}
	}
	if !same(j, distinct()) {
		t.Fatalf("Get makes %+v of the job", j)
	}
}

// P15.1: Set writes the one number, and nothing else: no other number, not the
// title, not the scheme, not the list of last ones.
func TestSet(t *testing.T) {
	for _, j := range []api.Job{distinct(), {}, Usual(), {Last: []string{"F2-1"}}, {Folds: api.Scheme{Cols: 1, Rows: 1}}} {
		for i, r := range rows() {
			for _, n := range []int{-1, 0, 1, 7, 2000, *r.at(&j), *r.at(&j) + 1, r.lo, r.hi, r.lo - 1, r.hi + 1, 1 << 40, lowest, highest} {
				checkSet(t, j, i, n, with(j, r, n))
				s := Set(j, i, n)
				for k, other := range rows() {
					if k != i {
						checkGet(t, s, k, *other.at(&j))
					}
				}
				checkGet(t, s, i, n)
				if s.Title != j.Title || s.Folds.Cols != j.Folds.Cols || s.Folds.Rows != j.Folds.Rows ||
					!slices.Equal(s.Folds.Steps, j.Folds.Steps) || !slices.Equal(s.Last, j.Last) {
					t.Fatalf("Set(j, %d, %d) = %+v", i, n, s)
				}
			}
		}
	}
}

// P15.1: what is written behind takes the place of what was written ahead; two
// places are written in whatever order.
func TestSetAgain(t *testing.T) {
	j := distinct()
	for i, a := range rows() {
		checkSet(t, Set(j, i, 5), i, 6, with(j, a, 6))
		checkSet(t, Set(j, i, 5), i, 1001+i, j)
		for k, b := range rows() {
			if k != i {
				meant := with(with(j, a, 5), b, 6)
				checkSet(t, Set(j, i, 5), k, 6, meant)
				checkSet(t, Set(j, k, 6), i, 5, meant)
			}
		}
	}
}

// P15.1: what there is none of: Get is 0, Set answers the job as it was.
func TestNoPlace(t *testing.T) {
	for _, j := range []api.Job{distinct(), {}, Usual()} {
		for _, i := range wrongPlaces() {
			checkGet(t, j, i, 0)
			for _, n := range []int{0, 1, -1, 77, 1004, lowest, highest} {
				checkSet(t, j, i, n, j)
			}
		}
	}
}

// P15.1: the places at both ends of those that are.
func TestPlacesAtTheEnds(t *testing.T) {
	j := distinct()
	checkGet(t, j, -1, 0)
	checkGet(t, j, 0, 1001)
	checkGet(t, j, 27, 1028)
	checkGet(t, j, 28, 0)
	checkGet(t, j, Count()-1, 1028)
	checkGet(t, j, Count(), 0)
	if Set(j, 0, 3).Pages != 3 || Set(j, 27, 3).StairWide != 3 {
		t.Fatal("the first number, or the last one, isn't set")
	}
	checkSet(t, j, -1, 3, distinct())
	checkSet(t, j, 28, 3, distinct())
}

// P15.1, example 1: all numbers of the usual job may be.
func TestFirstOfTheUsual(t *testing.T) {
	checkFirst(t, Usual(), -1)
}

// P15.1: each number alone, at what it may be at least and at most, and
// beyond; whatever else the job has.
func TestFirstAtTheEdges(t *testing.T) {
	for _, j := range []api.Job{
		Usual(),
		every(api.Job{}, func(r row) int { return r.lo }),
		every(distinct(), func(r row) int { return r.hi }),
	} {
		checkFirst(t, j, -1)
		for i, r := range rows() {
			for _, n := range []int{r.lo, r.lo + 1, (r.lo + r.hi) / 2, r.hi - 1, r.hi} {
				checkFirst(t, with(j, r, n), -1)
				checkFirst(t, Set(j, i, n), -1)
			}
			for _, n := range wrong(r) {
				checkFirst(t, with(j, r, n), i)
				checkFirst(t, Set(j, i, n), i)
			}
		}
	}
}

// P15.1: what may be 0 and what may not.
func TestFirstOfNoughts(t *testing.T) {
	not := []string{"Pages", "W", "H", "Binding", "Style", "SheetW", "SheetH", "Den", "StairWrap"}
	for i, r := range rows() {
		meant := -1
		if slices.Contains(not, r.name) {
			meant = i
		}
		checkFirst(t, with(Usual(), r, 0), meant)
	}
}

// P15.1: what may be below 0: Box alone.
func TestFirstBelowNought(t *testing.T) {
	for i, r := range rows() {
		meant := i
		if r.name == "Box.X" || r.name == "Box.Y" {
			meant = -1
		}
		for _, n := range []int{-1, -1000, -4999999, -5000000} {
			checkFirst(t, with(Usual(), r, n), meant)
		}
		checkFirst(t, with(Usual(), r, -5000001), i)
	}
	checkFirst(t, with(with(Usual(), rows()[1], -5000000), rows()[2], -5000000), -1)
}

// P15.1: the words, and the quarters, one by one.
func TestFirstOfTheFew(t *testing.T) {
	for n := -9; n <= 9; n++ {
		for _, e := range []struct{ at, lo, hi int }{{10, 1, 4}, {11, 1, 4}, {20, 0, 3}} {
			meant := e.at
			if e.lo <= n && n <= e.hi {
				meant = -1
			}
			checkFirst(t, Set(Usual(), e.at, n), meant)
		}
	}
}

// P15.1: of two that may not be the one that stands first, whichever way each
// is wrong.
func TestFirstOfTwo(t *testing.T) {
	l := rows()
	for i, a := range l {
		for k := i + 1; k < len(l); k++ {
			for _, n := range []int{a.lo - 1, a.hi + 1, lowest, highest} {
				for _, m := range []int{l[k].lo - 1, l[k].hi + 1, lowest, highest} {
					checkFirst(t, with(with(Usual(), a, n), l[k], m), i)
				}
			}
		}
	}
}

// P15.1: of many that may not be the one that stands first.
func TestFirstOfMany(t *testing.T) {
	for _, of := range []func(r row) int{
		func(r row) int { return r.lo - 1 },
		func(r row) int { return r.hi + 1 },
		func(row) int { return lowest },
		func(row) int { return highest },
	} {
		j := every(Usual(), of)
		for i, r := range rows() {
			checkFirst(t, j, i)
			j = with(j, r, r.usual)
		}
		checkFirst(t, j, -1)
	}
	checkFirst(t, api.Job{}, 0)
	checkFirst(t, api.Job{Pages: 1}, 3)
	checkFirst(t, api.Job{Pages: 1, W: 1, H: 1}, 10)
	checkFirst(t, api.Job{Pages: 1, W: 1, H: 1, Binding: 1}, 11)
	checkFirst(t, api.Job{Pages: 1, W: 1, H: 1, Binding: 1, Style: 1, SheetW: 1, SheetH: 1}, 19)
	checkFirst(t, api.Job{Pages: 1, W: 1, H: 1, Binding: 1, Style: 1, SheetW: 1, SheetH: 1, Den: 1}, 26)
	checkFirst(t, api.Job{Pages: 1, W: 1, H: 1, Binding: 1, Style: 1, SheetW: 1, SheetH: 1, Den: 1, StairWrap: 1}, -1)
}

// P15.1: only the numbers are looked at, each by itself: whether the job can be
// done is another layer's.
func TestFirstLooksAtNothingElse(t *testing.T) {
	j := Usual()
	j.Title = strings.Repeat("\x00", 1000)
	j.Folds = api.Scheme{Cols: -1, Rows: highest, Steps: []api.Step{{Side: 99, N: lowest}}}
	j.Last = []string{"none", "", "#", "\"", "F2-1", "F2-1"}
	checkFirst(t, j, -1)
	checkFirst(t, with(j, rows()[27], -1), 27)
	j.Title, j.Folds, j.Last = "", api.Scheme{}, nil
	checkFirst(t, j, -1)
	j.W, j.SheetW, j.Bleed, j.Spine = 5000000, 1, 5000000, 5000000
	checkFirst(t, j, -1)
}

// P15.1: the usual job, as the chapter lists it.
func TestUsual(t *testing.T) {
	meant := api.Job{
		Title: "book",
		Pages: 16,
		Box:   api.Point{},
		W:     148000, H: 210000,
		Bleed: 3000, Head: 5000, Foot: 5000, Face: 5000, Spine: 0,
		Binding: 1, Style: 1,
		SheetW: 640000, SheetH: 900000,
		Side: 10000, Grip: 12000, Tail: 8000,
		Caliper: 100, Num: 1, Den: 1,
		Quarter: 0,
		MarkLen: 5000, MarkOff: 3000, MarkWide: 100,
		StairAt: 20000, StairStep: 5000, StairWrap: 10, StairWide: 0,
		Folds: api.Scheme{Cols: 2, Rows: 2, Steps: []api.Step{{Side: 3, N: 1}, {Side: 1, N: 1}}},
	}
	if j := Usual(); !same(j, meant) || len(j.Last) != 0 {
		t.Fatalf("Usual() = %+v; meant: %+v", j, meant)
	}
	if name, ok := scheme.Name(Usual().Folds); name != "F8-1" || !ok {
		t.Fatalf("the usual scheme is %q, %v", name, ok)
	}
}

// P15.1: the usual numbers one by one, in the chapter's order.
func TestUsualNumbers(t *testing.T) {
	j := Usual()
	for i, r := range rows() {
		checkGet(t, j, i, r.usual)
		if n := *r.at(&j); n != r.usual {
			t.Fatalf("the usual %s is %d; meant: %d", r.name, n, r.usual)
		}
	}
}

// spoil writes into each place that j's lists have, those behind their ends,
// too, and lays something behind them.
func spoil(j api.Job) {
	for _, l := range [][]api.Step{j.Folds.Steps[:cap(j.Folds.Steps)], append(j.Folds.Steps, api.Step{Side: 4, N: 40})} {
		for i := range l {
			l[i] = api.Step{Side: 9, N: 99, Under: true}
		}
	}
	for _, l := range [][]string{j.Last[:cap(j.Last)], append(j.Last, "more")} {
		for i := range l {
			l[i] = "spoiled"
		}
	}
}

// P2: a job that Set answers shares no list with the one that was handed in,
// nor with another answer, whether it wrote a number or not.
func TestSetAnswersNewLists(t *testing.T) {
	for _, i := range []int{0, 1, 10, 27, -1, 28, lowest, highest} {
		j := distinct()
		first := Set(j, i, 1001+i)
		second := Set(j, i, 1001+i)
		spoil(first)
		if !same(j, distinct()) || !same(second, distinct()) && i >= 0 && i < 28 {
			t.Fatalf("place %d: a change of an answer makes %+v of the job, %+v of another answer", i, j, second)
		}
		third := Set(j, i, 1001+i)
		spoil(j)
		for _, l := range []api.Job{second, third} {
			if !slices.Equal(l.Folds.Steps, distinct().Folds.Steps) || !slices.Equal(l.Last, distinct().Last) {
				t.Fatalf("place %d: a change of the job makes %+v of an answer", i, l)
			}
		}
	}
}

// P2: what is handed in isn't changed, nor is what stands behind its lists'
// ends, nor is any of it kept.
func TestArgumentsStay(t *testing.T) {
	whole := distinct()
	for n := range 4 {
		for _, i := range []int{0, 5, 27, -1, 28} {
			j := whole
			j.Folds.Steps, j.Last = whole.Folds.Steps[:n], whole.Last[:n]
			s := Set(j, i, 3)
			Get(j, i)
			First(j)
			if !slices.Equal(s.Folds.Steps, whole.Folds.Steps[:n]) || !slices.Equal(s.Last, whole.Last[:n]) {
				t.Fatalf("Set(j, %d, 3) has the lists %v, %q", i, s.Folds.Steps, s.Last)
			}
			spoil(s)
			if !same(whole, distinct()) {
				t.Fatalf("the job is %+v now", whole)
			}
		}
	}
}

// P5: nil and empty lists are one.
func TestEmptyLists(t *testing.T) {
	for _, j := range []api.Job{
		{},
		{Folds: api.Scheme{Steps: []api.Step{}}, Last: []string{}},
		{Folds: api.Scheme{Steps: make([]api.Step, 0, 5)}, Last: make([]string, 0, 5)},
	} {
		for _, i := range []int{0, 27, 28, -1} {
			s := Set(j, i, 4)
			checkGet(t, s, i, Get(Set(api.Job{}, i, 4), i))
			if len(s.Folds.Steps) != 0 || len(s.Last) != 0 {
				t.Fatalf("Set(j, %d, 4) = %+v", i, s)
			}
			spoil(s)
			checkFirst(t, every(j, func(r row) int { return r.usual }), -1)
		}
		for _, step := range j.Folds.Steps[:cap(j.Folds.Steps)] {
			if step != (api.Step{}) {
				t.Fatalf("behind the end of the job's steps stands %v", step)
			}
		}
	}
}

// P2: each usual job is the caller's own.
func TestUsualIsNew(t *testing.T) {
	other := Usual()
	for range 3 {
		j := Usual()
		spoil(j)
		j.Pages, j.Folds.Cols = 99, 99
		if steps := []api.Step{{Side: 3, N: 1}, {Side: 1, N: 1}}; !slices.Equal(other.Folds.Steps, steps) ||
			!slices.Equal(Usual().Folds.Steps, steps) {
			t.Fatalf("the steps are %v, and of a new one %v", other.Folds.Steps, Usual().Folds.Steps)
		}
		if !same(other, Usual()) || len(Usual().Last) != 0 || Usual().Pages != 16 {
			t.Fatalf("Usual() = %+v", Usual())
		}
	}
	f, _ := scheme.Find("F8-1")
	if !scheme.Same(f, Usual().Folds) {
		t.Fatalf("F8-1 is %v", f)
	}
}

// P3: what was asked ahead is one to an answer.
func TestAnswersStayTheSame(t *testing.T) {
	for range 3 {
		j := distinct()
		Set(j, 4, 9)
		checkGet(t, j, 4, 1005)
		checkFirst(t, j, 10)
		checkFirst(t, Set(Usual(), 4, 0), 4)
		checkFirst(t, Usual(), -1)
		checkGet(t, Usual(), 3, 148000)
		checkGet(t, j, 28, 0)
		if Count() != 28 {
			t.Fatal("the count")
		}
	}
}

package style

import (
	"reflect"
	"slices"
	"strings"
	"testing"

	"gatherum/api"
	"gatherum/bounds"
	"gatherum/box"
	"gatherum/place"
)

// dice gives numbers that look thrown, but are the same in each run.
type dice uint64

// below: a number from 0 to ahead of n.
func (d *dice) below(n int) int {
	*d = *d*6364136223846793005 + 1442695040888963407
	return int(uint64(*d) >> 33 % uint64(n))
}

// told: what the package answers; two of them can be held against each other.
type told struct {
	plates       int
	flip         api.Place
	area, region api.Rect
}

// ask: all that the package answers of a job.
func ask(j api.Job) told {
	return told{Plates(j.Style), Flip(j), Area(j), Region(j)}
}

// meant: all that ought to be answered, by the chapter's words, style by
// style.
func meant(j api.Job) told {
	most := j.Grip
	if j.Tail > most {
		most = j.Tail
	}
	upright := api.Rect{X0: j.Side, Y0: j.Grip, X1: j.SheetW - j.Side, Y1: j.SheetH - j.Tail}
	over := api.Rect{X0: j.Side, Y0: most, X1: j.SheetW - j.Side, Y1: j.SheetH - most}
	switch j.Style {
	case 1:
		return told{2, api.Place{Turn: 4, X: j.SheetW}, upright, upright}
	case 2:
		return told{2, api.Place{Turn: 6, Y: j.SheetH}, over, over}
	case 3:
		l := told{1, api.Place{Turn: 4, X: j.SheetW}, upright, upright}
		if half := j.SheetW >> 1; half < l.region.X1 {
			l.region.X1 = half
		}
		return l
	case 4:
		l := told{1, api.Place{Turn: 6, Y: j.SheetH}, over, over}
		if half := j.SheetH >> 1; half < l.region.Y1 {
			l.region.Y1 = half
		}
		return l
	}
	return told{}
}

func check(t *testing.T, j api.Job) {
	t.Helper()
	if l, m := ask(j), meant(j); l != m {
		t.Fatalf("of %+v: %+v; meant: %+v", j, l, m)
	}
}

// job: one whose numbers may all be, at their ends more often than not, of any
// style.
func (d *dice) job() api.Job {
	length := func(least int) int {
		return [...]int{least, least + 1, 10_000, 5_000_000, 4_999_999, least + d.below(5_000_000), least + d.below(1_000)}[d.below(7)]
	}
	return sheet(styles[d.below(4)], length(1), length(1), length(0), length(0), length(0))
}

// any: any ints as a sheet, of any style.
func (d *dice) any() api.Job {
	one := func() int {
		n := [...]int{lowest, -1 << 62, -1 << 32, -1, 0, 1 << 32, 1 << 62, highest}[d.below(8)]
		return n + [...]int{-2, -1, 0, 1, 2, d.below(1_000)}[d.below(6)]
	}
	return sheet(styles[d.below(4)], one(), one(), one(), one(), one())
}

// each: many jobs of each style, whose numbers may all be, and others.
func each(seed dice, say func(j api.Job)) {
	d := seed
	for range 5_000 {
		say(d.job())
		say(d.any())
	}
}

// P21.1, P21.2: many jobs.
func TestManyJobs(t *testing.T) {
	each(21, func(j api.Job) { check(t, j) })
}

// P21.1, P21.2: all small sheets, to Sides, Grips and Tails beyond them.
func TestSmallSheets(t *testing.T) {
	for style := range 6 {
		for n := range 7 * 7 * 9 {
			a, b, c := n%7, n/7%7, n/49
			check(t, sheet(style, 1+a, 1, b, 0, c))
			check(t, sheet(style, 1, 1+a, 0, b, c))
			check(t, sheet(style, 1+a, 1+b, c, c, b))
		}
	}
}

// P21.1: on a sheet as wide as that, left and right change places, point by
// point, or below and above.
func TestFlipPointByPoint(t *testing.T) {
	for _, style := range styles {
		j := sheet(style, 5, 3, 1, 1, 0)
		over := style == api.Perfecting || style == api.WorkTumble
		for x := range 6 {
			for y := range 4 {
				if over {
					checkSeen(t, j, api.Point{X: x, Y: y}, api.Point{X: x, Y: []int{3, 2, 1, 0}[y]})
				} else {
					checkSeen(t, j, api.Point{X: x, Y: y}, api.Point{X: []int{5, 4, 3, 2, 1, 0}[x], Y: y})
				}
			}
		}
	}
}

// P21.1: what is turned over is the whole sheet: it lies where it lay.
func TestFlipKeepsTheSheet(t *testing.T) {
	d := dice(211)
	for range 2_000 {
		j := d.job()
		whole := box.Of(0, 0, j.SheetW, j.SheetH)
		if r := place.Box(Flip(j), whole); r != whole {
			t.Fatalf("%+v: the sheet, turned over, lies at %v", j, r)
		}
	}
}

// P21.1, P21.2: Flip brings the Area's x to its x where left and right change
// places, its y to its y where below and above do, and leaves the other ones.
func TestFlipKeepsTheArea(t *testing.T) {
	each(212, func(j api.Job) {
		r := Area(j)
		p := place.Do(Flip(j), api.Point{X: r.X0, Y: r.Y0})
		q := place.Do(Flip(j), api.Point{X: r.X1, Y: r.Y1})
		seen := api.Rect{X0: q.X, Y0: p.Y, X1: p.X, Y1: q.Y}
		if j.Style == api.Perfecting || j.Style == api.WorkTumble {
			seen = api.Rect{X0: p.X, Y0: q.Y, X1: q.X, Y1: p.Y}
		}
		if seen != r {
			t.Fatalf("%+v: the area %v is seen at %v from the back", j, r, seen)
		}
	})
}

// P21.3: flipped twice is not flipped.
func TestFlippedTwice(t *testing.T) {
	each(213, func(j api.Job) {
		f := Flip(j)
		if f == (api.Place{}) {
			t.Fatalf("%+v is not flipped once", j)
		}
		if a := place.Then(f, f); a != (api.Place{}) {
			t.Fatalf("%+v: flipped twice: %v", j, a)
		}
		for _, p := range []api.Point{{}, {X: 1, Y: 2}, {X: -30, Y: 70}, {X: lowest, Y: highest}, {X: highest, Y: lowest}} {
			if q := place.Do(f, place.Do(f, p)); q != p {
				t.Fatalf("%+v: %v, flipped twice, is %v", j, p, q)
			}
		}
	})
}

// P21.2: the Region begins where the Area does, and is no greater; where two
// plates print the sides it is the Area.
func TestRegionIsOfTheArea(t *testing.T) {
	each(214, func(j api.Job) {
		a, r := Area(j), Region(j)
		if Plates(j.Style) == 2 && r != a {
			t.Fatalf("%+v: the region %v isn't the area %v", j, r, a)
		}
		if r.X0 != a.X0 || r.Y0 != a.Y0 || r.X1 > a.X1 || r.Y1 > a.Y1 || !box.Within(r, a) {
			t.Fatalf("%+v: the region %v, of the area %v", j, r, a)
		}
		if j.Style == api.WorkTurn && r.Y1 != a.Y1 || j.Style == api.WorkTumble && r.X1 != a.X1 {
			t.Fatalf("%+v: the region %v is cut the wrong way of %v", j, r, a)
		}
	})
}

// P21.2: of a plate that prints both sides the back's Region is apart from the
// front's, and lies close by: nothing is left between, or, at the middle of an
// odd sheet, one.
func TestHalvesAreApart(t *testing.T) {
	d := dice(215)
	var there [5]int
	for range 20_000 {
		j := d.job()
		r := Region(j)
		if Plates(j.Style) != 1 || box.Empty(r) {
			continue
		}
		there[j.Style]++
		back := place.Box(Flip(j), r)
		if !box.Apart(r, back) {
			t.Fatalf("%+v: %v of the front, and %v of the back", j, r, back)
		}
		between, odd := back.X0-r.X1, j.SheetW%2
		if j.Style == api.WorkTumble {
			between, odd = back.Y0-r.Y1, j.SheetH%2
		}
		if between != odd {
			t.Fatalf("%+v: %d between %v and %v; meant: %d", j, between, r, back, odd)
		}
	}
	if there[api.WorkTurn] < 300 || there[api.WorkTumble] < 300 {
		t.Fatalf("%v regions were there", there)
	}
}

// P1, P5: the least and the greatest ints, and others, as a style, and in every
// field of the job.
func TestWrongNumbersEverywhere(t *testing.T) {
	some := append(wrongs[:], 1, 2, 3, 4, highest/2, highest/2+1, lowest/2-1)
	d := dice(216)
	for range 20_000 {
		var j api.Job
		for i := range bounds.Count() {
			j = bounds.Set(j, i, some[d.below(len(some))])
		}
		check(t, j)
		j.Style = 1 + d.below(4)
		check(t, j)
	}
	for _, n := range some {
		var j api.Job
		for i := range bounds.Count() {
			j = bounds.Set(j, i, n)
		}
		check(t, j)
		for style := range 6 {
			j.Style = style
			check(t, j)
			for at := 12; at <= 16; at++ {
				check(t, bounds.Set(uneven(style), at, n))
			}
		}
	}
}

// P3: each number in turn that the chapter doesn't name, the title, the folds
// and the last ones change nothing.
func TestOtherFieldsChangeNothing(t *testing.T) {
	d := dice(217)
	for range 100 {
		j := d.job()
		before := ask(j)
		for i := range bounds.Count() {
			if i >= 11 && i <= 16 {
				continue
			}
			for _, w := range wrongs {
				if l := ask(bounds.Set(j, i, w)); l != before {
					t.Fatalf("of %+v: %+v; with %d at %d: %+v", j, before, w, i, l)
				}
			}
		}
		for _, steps := range [][]api.Step{nil, {}, {{Side: lowest, N: highest, Under: true}}} {
			j.Title, j.Last, j.Folds = strings.Repeat("\xff\x00", 99), []string{"", "\xfe"}, api.Scheme{Cols: lowest, Rows: 3, Steps: steps}
			if l := ask(j); l != before {
				t.Fatalf("of %+v: %+v; it was: %+v", j, l, before)
			}
		}
	}
}

// P21.1: what turns the sheet over hangs on nothing but the style, and on the
// way that the sheet is turned.
func TestFlipHangsOnOneSideAlone(t *testing.T) {
	for _, style := range styles {
		before := Flip(uneven(style))
		for _, w := range wrongs {
			one, other := sheet(style, 1001, w, w, w, w), sheet(style, w, 2003, w, w, w)
			if style == api.Perfecting || style == api.WorkTumble {
				one, other = other, one
			}
			if a := Flip(one); a != before {
				t.Fatalf("Flip(%+v) = %v; meant: %v", one, a, before)
			}
			if a := Flip(other); a == before {
				t.Fatalf("Flip(%+v) = %v, as of another sheet", other, a)
			}
		}
	}
}

// P2, P3: the job is as it was, and so is what its lists have behind their
// ends; asked again, the answers are the same.
func TestNothingIsChanged(t *testing.T) {
	d := dice(218)
	for range 200 {
		j := d.job()
		j.Folds.Steps, j.Last = slices.Grow(j.Folds.Steps, 3), slices.Grow([]string{"F4-1"}, 3)
		whole := func() []any {
			return []any{j, slices.Clone(j.Folds.Steps[:cap(j.Folds.Steps)]), slices.Clone(j.Last[:cap(j.Last)])}
		}
		before := whole()
		first := ask(j)
		if !reflect.DeepEqual(whole(), before) {
			t.Fatalf("%+v is changed; it was: %+v", whole(), before)
		}
		ask(d.job())
		if ask(j) != first {
			t.Fatalf("%+v: another answer the second time", j)
		}
	}
}

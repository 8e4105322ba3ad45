package panel

import (
	"reflect"
	"slices"
	"strings"
	"testing"

	"gatherum/api"
	"gatherum/bounds"
	"gatherum/box"
	"gatherum/place"
	"gatherum/scheme"
	"gatherum/unfold"
)

// dice gives numbers that look thrown, but are the same in each run.
type dice uint64

// below: a number from 0 to ahead of n.
func (d *dice) below(n int) int {
	*d = *d*6364136223846793005 + 1442695040888963407
	return int(uint64(*d) >> 33 % uint64(n))
}

// asked: what is asked of a job.
type asked struct {
	s                   api.Scheme
	copies, copy, panel int
	p                   api.Panel
	recto               bool
	creep               int
}

// told: what the package answers; two of them can be held against each other.
type told struct {
	size, block  [2]int
	box          api.Rect
	lies, reader api.Place
	trim, clip   api.Rect
	source       api.Place
}

// ask: all that the package answers.
func ask(j api.Job, a asked) told {
	var l told
	l.size[0], l.size[1] = Size(j)
	l.block[0], l.block[1] = Block(j, a.s, a.copies)
	l.box = Box(j, a.s, a.copy, a.panel)
	l.lies = Lies(j, a.s, a.copy, a.panel, a.p)
	l.reader = Reader(j, a.recto)
	l.trim, l.clip = Trim(j, a.recto), Clip(j, a.recto)
	l.source = Source(j, a.recto, a.creep)
	return l
}

// meant: all that ought to be answered, by the chapter's words: each number is
// summed up for itself.
func meant(j api.Job, a asked) told {
	w, h := j.Spine+j.W+j.Face, j.Foot+j.H+j.Head
	l := told{size: [2]int{w, h}, block: [2]int{w * a.s.Cols, h * a.s.Rows * a.copies}}
	if isSide(a.s.Cols) && isSide(a.s.Rows) && a.copy >= 0 && a.copy < 2 && a.panel >= 0 && a.panel < a.s.Cols*a.s.Rows {
		col, row := a.panel, 0
		for ; col >= a.s.Cols; col -= a.s.Cols {
			row++
		}
		x, y := col*w, row*h
		if a.copy == 1 {
			y += a.s.Rows * h
		}
		l.box = api.Rect{X0: x, Y0: y, X1: x + w, Y1: y + h}
		switch {
		case a.p.FlipX && a.p.FlipY:
			l.lies = api.Place{Turn: 2, X: x + w, Y: y + h}
		case a.p.FlipX:
			l.lies = api.Place{Turn: 4, X: x + w, Y: -y}
		case a.p.FlipY:
			l.lies = api.Place{Turn: 6, X: -x, Y: y + h}
		default:
			l.lies = api.Place{X: -x, Y: -y}
		}
	}
	bottom, top := j.Foot, j.Foot+j.H
	if a.recto {
		left, right := j.Spine, j.Spine+j.W
		l.trim = api.Rect{X0: left, Y0: bottom, X1: right, Y1: top}
		l.clip = api.Rect{X0: left, Y0: bottom - j.Bleed, X1: right + j.Bleed, Y1: top + j.Bleed}
		l.source = api.Place{X: left - j.Box.X - a.creep, Y: bottom - j.Box.Y}
		return l
	}
	left, right := j.Face, j.Face+j.W
	l.reader = api.Place{Turn: 4, X: w}
	l.trim = api.Rect{X0: left, Y0: bottom, X1: right, Y1: top}
	l.clip = api.Rect{X0: left - j.Bleed, Y0: bottom - j.Bleed, X1: right, Y1: top + j.Bleed}
	l.source = api.Place{X: left - j.Box.X + a.creep, Y: bottom - j.Box.Y}
	return l
}

func isSide(n int) bool {
	return n >= 1 && n <= 64
}

func check(t *testing.T, j api.Job, a asked) {
	t.Helper()
	if l, m := ask(j, a), meant(j, a); l != m {
		t.Fatalf("of %+v, %+v: %+v; meant: %+v", j, a, l, m)
	}
}

// job: one whose numbers may all be, at their ends more often than not.
func (d *dice) job() api.Job {
	length := func(least int) int {
		return [...]int{least, least + 1, 3_000, 5_000_000, least + d.below(5_000_000), least + d.below(1_000)}[d.below(6)]
	}
	j := bounds.Usual()
	j.W, j.H = length(1), length(1)
	j.Head, j.Foot, j.Face, j.Spine, j.Bleed = length(0), length(0), length(0), length(0), length(0)
	j.Box = api.Point{X: d.below(10_000_001) - 5_000_000, Y: d.below(10_000_001) - 5_000_000}
	j.Binding = 1 + d.below(4)
	return j
}

// asked: of a panel that there is, more often than not.
func (d *dice) asked() asked {
	s := plain(1+d.below(8), 1+d.below(8))
	p := flips[d.below(4)]
	return asked{s: s, copies: d.below(3), copy: [...]int{0, 0, 0, 1, 1, 1, -1, 2}[d.below(8)], panel: d.below(s.Cols*s.Rows+2) - 1, p: p, recto: d.below(2) == 0, creep: d.below(1_000_001) - 500_000}
}

// P20.1, P20.2: many jobs, panels and copies.
func TestManyJobs(t *testing.T) {
	d := dice(20)
	there := 0
	for range 20_000 {
		j, a := d.job(), d.asked()
		check(t, j, a)
		if Box(j, a.s, a.copy, a.panel) != (api.Rect{}) {
			there++
		}
	}
	if there < 10_000 || there > 19_000 {
		t.Fatalf("%d panels were there", there)
	}
}

// P20.1: the panels of a block are apart, and fill it: so many of that size as
// it has room for.
func TestPanelsFillTheBlock(t *testing.T) {
	d := dice(201)
	for range 200 {
		j, s := d.job(), plain(1+d.below(5), 1+d.below(5))
		for copies := range 3 {
			var l []api.Rect
			for copy := range copies {
				for panel := range s.Cols * s.Rows {
					l = append(l, Box(j, s, copy, panel))
				}
			}
			w, h := Block(j, s, copies)
			if hull := box.Hull(l...); copies > 0 && hull != box.Of(0, 0, w, h) {
				t.Fatalf("%+v, %d copies of %+v: %v of %d by %d", j, copies, s, hull, w, h)
			}
			pw, ph := Size(j)
			for i, r := range l {
				if a, b := box.Size(r); a != pw || b != ph {
					t.Fatalf("%+v: %v is not as great as a panel", j, r)
				}
				for _, q := range l[:i] {
					if !box.Apart(r, q) {
						t.Fatalf("%+v, %+v: %v and %v", j, s, r, q)
					}
				}
			}
		}
	}
}

// P20.2: Lies brings the whole Box to a panel at 0 0, whatever the flips; what
// was at its left edge comes to the right one, just if it is flipped in x, and
// so below and above.
func TestLiesBringsTheBoxToTheLeaf(t *testing.T) {
	d := dice(202)
	for range 200 {
		j, s := d.job(), plain(1+d.below(5), 1+d.below(5))
		w, h := Size(j)
		for n := range 2 * s.Cols * s.Rows {
			copy, panel := n%2, n/2
			r := Box(j, s, copy, panel)
			for _, p := range flips {
				a := Lies(j, s, copy, panel, p)
				if place.Box(a, r) != box.Of(0, 0, w, h) {
					t.Fatalf("%+v, %+v, %d, %d, %+v: %v comes to %v", j, s, copy, panel, p, r, place.Box(a, r))
				}
				corner := api.Point{}
				if p.FlipX {
					corner.X = w
				}
				if p.FlipY {
					corner.Y = h
				}
				if c := place.Do(a, api.Point{X: r.X0, Y: r.Y0}); c != corner {
					t.Fatalf("%+v, %+v, %d, %d, %+v: the lower left corner comes to %v; meant: %v", j, s, copy, panel, p, c, corner)
				}
			}
		}
	}
}

// P20.2: panels as they come to lie when a scheme is folded: two that hang
// together, beside one another, have the line between them on the same side of
// both leaves.
func TestFoldedPanels(t *testing.T) {
	j := uneven()
	for _, name := range scheme.Names() {
		s, _ := scheme.Find(name)
		l := unfold.Of(s)
		for n, p := range l {
			for copy := range 2 {
				check(t, j, asked{s: s, copy: copy, panel: n, p: p})
			}
			if n%s.Cols == s.Cols-1 {
				continue
			}
			r := Box(j, s, 0, n)
			for _, line := range []api.Point{{X: r.X1, Y: r.Y0}, {X: r.X1, Y: r.Y1}} {
				a, b := place.Do(Lies(j, s, 0, n, p), line), place.Do(Lies(j, s, 0, n+1, l[n+1]), line)
				if a != b {
					t.Fatalf("%s: %v comes to %v of panel %d, to %v of panel %d", name, line, a, n, b, n+1)
				}
			}
		}
	}
}

// P20.2: who reads a verso sees its trim, and what may be seen, where the
// recto's are: behind it.
func TestReaderSeesThrough(t *testing.T) {
	d := dice(203)
	for range 1_000 {
		j := d.job()
		w, h := Size(j)
		if r := place.Box(Reader(j, false), box.Of(0, 0, w, h)); r != box.Of(0, 0, w, h) {
			t.Fatalf("%+v: a verso, as it is read, lies at %v", j, r)
		}
		if place.Box(Reader(j, false), Trim(j, false)) != place.Box(Reader(j, true), Trim(j, true)) {
			t.Fatalf("%+v: the trims %v and %v are not behind one another", j, Trim(j, false), Trim(j, true))
		}
		if place.Box(Reader(j, false), Clip(j, false)) != place.Box(Reader(j, true), Clip(j, true)) {
			t.Fatalf("%+v: what may be seen, %v and %v, is not behind one another", j, Clip(j, false), Clip(j, true))
		}
		if place.Then(Reader(j, false), Reader(j, false)) != (api.Place{}) {
			t.Fatalf("%+v: turned over twice", j)
		}
	}
}

// P20.2: Clip is the trim, and Bleed more at head, foot and face alone.
func TestClipIsTheTrimAndBleed(t *testing.T) {
	d := dice(204)
	for range 1_000 {
		j := d.job()
		b := j.Bleed
		if r := Clip(j, true); r != box.Grow(Trim(j, true), 0, b, b, b) {
			t.Fatalf("%+v: %v of a recto's trim %v", j, r, Trim(j, true))
		}
		if r := Clip(j, false); r != box.Grow(Trim(j, false), b, b, 0, b) {
			t.Fatalf("%+v: %v of a verso's trim %v", j, r, Trim(j, false))
		}
		j.Bleed = 0
		for _, recto := range sides {
			if Clip(j, recto) != Trim(j, recto) {
				t.Fatalf("%+v: without a bleed %v may be seen of the trim %v", j, Clip(j, recto), Trim(j, recto))
			}
		}
	}
}

// P20.2: Source brings a page's box to its trim as it is read, but for the
// creep, to the spine: both pages of a leaf are pushed alike.
func TestSourceBringsThePageToItsTrim(t *testing.T) {
	d := dice(205)
	for range 1_000 {
		j := d.job()
		page := box.Of(j.Box.X, j.Box.Y, j.W, j.H)
		for _, creep := range []int{0, 1, -1, d.below(1_000_000), -d.below(1_000_000)} {
			recto, verso := place.Box(Source(j, true, creep), page), place.Box(Source(j, false, creep), page)
			if recto != box.Shift(Trim(j, true), -creep, 0) || verso != box.Shift(Trim(j, false), creep, 0) {
				t.Fatalf("%+v, creep %d: the page comes to %v and %v", j, creep, recto, verso)
			}
			if place.Box(Reader(j, false), verso) != recto {
				t.Fatalf("%+v, creep %d: %v and %v are not behind one another", j, creep, recto, verso)
			}
		}
	}
}

// P1, P5: the least and the greatest ints in every field of the job and of the
// scheme, as copies, a copy, a panel and a creep: sums and products go round.
func TestWrongNumbersEverywhere(t *testing.T) {
	d := dice(206)
	some := append(wrongs[:], -1, 0, 1, 2, 63, 64, 65)
	one := func() int { return some[d.below(len(some))] }
	for range 20_000 {
		var j api.Job
		for i := range bounds.Count() {
			j = bounds.Set(j, i, one())
		}
		s := api.Scheme{Cols: one(), Rows: one(), Steps: []api.Step{{Side: one(), N: one(), Under: true}}}
		for _, recto := range sides {
			a := asked{s: s, copies: one(), copy: one(), panel: one(), p: flips[d.below(4)], recto: recto, creep: one()}
			check(t, j, a)
			a.s.Cols, a.s.Rows, a.copy, a.panel = 1+d.below(64), 1+d.below(64), d.below(2), d.below(64)
			check(t, j, a)
		}
	}
	for _, n := range some {
		var j api.Job
		for i := range bounds.Count() {
			j = bounds.Set(j, i, n)
		}
		j.Folds = plain(n, n)
		for _, recto := range sides {
			check(t, j, asked{s: j.Folds, copies: n, copy: n, panel: n, recto: recto, creep: n})
			check(t, j, asked{s: plain(64, 64), copies: n, copy: 1, panel: 4095, p: flips[3], recto: recto, creep: n})
		}
	}
}

// P5: sums that go round, by hand.
func TestSumsGoRound(t *testing.T) {
	j := api.Job{W: highest, H: lowest, Spine: 1, Foot: -1}
	checkSize(t, j, lowest, highest)
	checkBlock(t, j, plain(2, 2), 1, 0, -2)
	checkBlock(t, j, plain(1, 1), lowest, lowest, lowest)
	checkBox(t, j, plain(2, 2), 0, 3, api.Rect{X0: lowest, Y0: highest, X1: 0, Y1: -2})
	checkLies(t, j, plain(2, 2), 0, 3, api.Panel{}, api.Place{X: lowest, Y: -highest})
	checkLies(t, j, plain(2, 2), 0, 3, api.Panel{FlipX: true, FlipY: true}, api.Place{Turn: 2, X: 0, Y: -2})
	checkReader(t, j, false, api.Place{Turn: 4, X: lowest})
	checkTrim(t, j, true, api.Rect{X0: 1, Y0: -1, X1: lowest, Y1: highest})
	j.Bleed = highest
	checkClip(t, j, true, api.Rect{X0: 1, Y0: lowest, X1: -1, Y1: -2})
	checkClip(t, j, false, api.Rect{X0: -highest, Y0: lowest, X1: highest, Y1: -2})
	j.Box = api.Point{X: lowest, Y: highest}
	checkSource(t, j, true, lowest, api.Place{X: 1, Y: lowest})
	checkSource(t, j, false, highest, api.Place{X: -1, Y: lowest})
}

// P20.1, P20.2: schemes with Cols or Rows that may not be have no panel; how
// wide and high their blocks are is a product all the same.
func TestWrongSchemes(t *testing.T) {
	j := uneven()
	for _, n := range append(wrongs[:], -64, -1, 0, 65, 66) {
		for _, m := range append(wrongs[:], -1, 0, 1, 2, 64, 65) {
			for _, s := range []api.Scheme{plain(n, m), plain(m, n)} {
				for panel := -1; panel <= 2; panel++ {
					for copy := -1; copy <= 2; copy++ {
						checkNone(t, j, s, copy, panel)
					}
				}
				checkBlock(t, j, s, 1, 153*s.Cols, 1027*s.Rows)
				checkBlock(t, j, s, 2, 153*s.Cols, 2*1027*s.Rows)
			}
		}
	}
}

// P20.1, P20.2, P5: which panels a scheme has hangs on its columns and rows
// alone, not on its steps (nil, none, or any), nor on the job's own folds.
func TestStepsChangeNothing(t *testing.T) {
	d := dice(207)
	j := uneven()
	for _, steps := range [][]api.Step{nil, {}, {{}}, {{Side: api.Left, N: 1}}, {{Side: lowest, N: highest}, {Side: 5, N: -1, Under: true}}, make([]api.Step, 100)} {
		for _, folds := range [][]api.Step{nil, {{Side: api.Top, N: 9}}} {
			for range 100 {
				a := d.asked()
				before := ask(j, a)
				a.s.Steps = steps
				k := j
				k.Folds = api.Scheme{Cols: lowest, Rows: 3, Steps: folds}
				check(t, k, a)
				if l := ask(k, a); l != before {
					t.Fatalf("of %+v: %+v; with steps %v: %+v", a, before, steps, l)
				}
			}
		}
	}
}

// P3: each number in turn that the chapter doesn't name, the title, and the
// leaf that a panel is, change nothing.
func TestOtherFieldsChangeNothing(t *testing.T) {
	d := dice(208)
	for range 50 {
		j, a := d.job(), d.asked()
		before := ask(j, a)
		for i := range bounds.Count() {
			if i >= 1 && i <= 9 {
				continue
			}
			for _, w := range wrongs {
				if l := ask(bounds.Set(j, i, w), a); l != before {
					t.Fatalf("of %+v, %+v: %+v; with %d at %d: %+v", j, a, before, w, i, l)
				}
			}
		}
		for _, w := range wrongs {
			j.Title, j.Last, a.p.Leaf = strings.Repeat("\xff\x00", 99), []string{"", "\xfe"}, w
			if l := ask(j, a); l != before {
				t.Fatalf("of %+v, %+v: %+v; it was: %+v", j, a, l, before)
			}
		}
	}
}

// P2: the job and the scheme are as they were, and so is what their lists have
// behind their ends.
func TestNothingIsChanged(t *testing.T) {
	d := dice(209)
	for range 200 {
		j, a := d.job(), d.asked()
		j.Folds.Steps, j.Last = slices.Grow(j.Folds.Steps, 3), slices.Grow([]string{"F4-1"}, 3)
		a.s.Steps = slices.Grow([]api.Step{{Side: api.Left, N: 1}}, 3)
		whole := func() []any {
			return []any{j, a, slices.Clone(j.Folds.Steps[:cap(j.Folds.Steps)]), slices.Clone(j.Last[:cap(j.Last)]), slices.Clone(a.s.Steps[:cap(a.s.Steps)])}
		}
		before := whole()
		first := ask(j, a)
		if !reflect.DeepEqual(whole(), before) {
			t.Fatalf("%+v is changed; it was: %+v", whole(), before)
		}
		ask(d.job(), d.asked())
		if ask(j, a) != first {
			t.Fatalf("%+v, %+v: another answer the second time", j, a)
		}
	}
}

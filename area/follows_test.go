package area

import (
	"reflect"
	"slices"
	"strings"
	"testing"

	"gatherum/api"
	"gatherum/bounds"
	"gatherum/box"
	"gatherum/panel"
	"gatherum/place"
	"gatherum/scheme"
	"gatherum/style"
)

// dice gives numbers that look thrown, but are the same in each run.
type dice uint64

// below: a number from 0 to ahead of n.
func (d *dice) below(n int) int {
	*d = *d*6364136223846793005 + 1442695040888963407
	return int(uint64(*d) >> 33 % uint64(n))
}

// told: what the package answers; two of them can be held against each other.
type told struct {
	outer    [2]int
	fits     bool
	at, back api.Place
	// count and blocks are of the sides 0 to 3.
	count  [4]int
	blocks [4][2]api.Rect
}

// ask: all that the package answers of a job and a scheme.
func ask(j api.Job, s api.Scheme) told {
	l := told{fits: Fits(j, s), at: At(j, s), back: Back(j, s)}
	l.outer[0], l.outer[1] = Outer(j, s)
	for side := range 4 {
		r := Blocks(j, s, side)
		l.count[side] = len(r)
		copy(l.blocks[side][:], r)
	}
	return l
}

// isRight: may all numbers be, by the table of limits?
func isRight(j api.Job, s api.Scheme) bool {
	for i, n := range limits {
		if k := bounds.Get(j, i); k < n[0] || k > n[1] {
			return false
		}
	}
	return s.Cols >= 1 && s.Cols <= 64 && s.Rows >= 1 && s.Rows <= 64
}

// room: the Region, its left and lower edge, its width and height, style by
// style.
func room(j api.Job) (x, y, w, h int) {
	x, y = j.Side, j.Grip
	top := j.Tail
	if j.Style == 2 || j.Style == 4 {
		if j.Tail > j.Grip {
			y = j.Tail
		}
		top = y
	}
	w, h = j.SheetW-x-x, j.SheetH-y-top
	if half := j.SheetW >> 1; j.Style == 3 && half-x < w {
		w = half - x
	}
	if half := j.SheetH >> 1; j.Style == 4 && half-y < h {
		h = half - y
	}
	return x, y, w, h
}

// meant: all that ought to be answered, by the chapter's words: each number is
// summed up for itself, each turn is written out.
func meant(j api.Job, s api.Scheme) told {
	var l told
	if !isRight(j, s) {
		return l
	}
	w, h := s.Cols*(j.Spine+j.W+j.Face), s.Rows*(j.Foot+j.H+j.Head)
	if j.Binding == 4 {
		h += h
	}
	if j.Quarter == 1 || j.Quarter == 3 {
		w, h = h, w
	}
	x, y, roomW, roomH := room(j)
	l.outer = [2]int{w, h}
	l.fits = w <= roomW && h <= roomH
	x, y = x+(roomW-w)>>1, y+(roomH-h)>>1
	right, upper := x+w, y+h
	l.at = [...]api.Place{{Turn: 0, X: x, Y: y}, {Turn: 1, X: right, Y: y}, {Turn: 2, X: right, Y: upper}, {Turn: 3, X: x, Y: upper}}[j.Quarter]
	front := api.Rect{X0: x, Y0: y, X1: right, Y1: upper}
	behind := api.Rect{X0: j.SheetW - right, Y0: y, X1: j.SheetW - x, Y1: upper}
	l.back = api.Place{Turn: [...]int{4, 7, 6, 5}[j.Quarter], X: j.SheetW - l.at.X, Y: l.at.Y}
	if j.Style == 2 || j.Style == 4 {
		behind = api.Rect{X0: x, Y0: j.SheetH - upper, X1: right, Y1: j.SheetH - y}
		l.back = api.Place{Turn: [...]int{6, 5, 4, 7}[j.Quarter], X: l.at.X, Y: j.SheetH - l.at.Y}
	}
	l.count[1], l.blocks[1][0] = 1, front
	if j.Style <= 2 {
		l.count[2], l.blocks[2][0] = 1, behind
	} else {
		l.count[1], l.blocks[1][1] = 2, behind
	}
	return l
}

func check(t *testing.T, j api.Job, s api.Scheme) {
	t.Helper()
	if l, m := ask(j, s), meant(j, s); l != m {
		t.Fatalf("of %+v, %+v: %+v; meant: %+v", j, s, l, m)
	}
}

// job: one whose numbers may all be, at their ends more often than not.
func (d *dice) job() api.Job {
	j := bounds.Usual()
	for i, n := range limits {
		long := n[1] - n[0] + 1
		k := [...]int{0, 1, long - 1, d.below(long), d.below(long), d.below(min(long, 1_000))}[d.below(6)]
		j = bounds.Set(j, i, n[0]+k)
	}
	return j
}

// scheme: one whose Cols and Rows may be.
func (d *dice) scheme() api.Scheme {
	side := func() int { return [...]int{1, 2, 64, 1 + d.below(8), 1 + d.below(64)}[d.below(5)] }
	return plain(side(), side())
}

// near: a job, and a scheme whose block is as great as the Region, but for
// some; it is below nothing where the block is too great.
func (d *dice) near() (api.Job, api.Scheme) {
	j, s := uneven(styles[d.below(4)], d.below(4), 1, 1), plain(1+d.below(9), 1+d.below(9))
	j.Binding = 1 + d.below(4)
	j.W, j.H, j.Spine, j.Face, j.Head, j.Foot = 1+d.below(99), 1+d.below(99), d.below(9), d.below(9), d.below(9), d.below(9)
	j.Side, j.Grip, j.Tail = d.below(40), d.below(40), d.below(40)
	w, h := s.Cols*(j.Spine+j.W+j.Face), s.Rows*(j.Foot+j.H+j.Head)
	if j.Binding == api.ComeGo {
		h *= 2
	}
	if j.Quarter%2 == 1 {
		w, h = h, w
	}
	j.SheetW, j.SheetH = w+2*j.Side, h+j.Grip+j.Tail
	switch j.Style {
	case api.Perfecting:
		j.SheetH = h + 2*max(j.Grip, j.Tail)
	case api.WorkTurn:
		j.SheetW = 2 * (w + j.Side)
	case api.WorkTumble:
		j.SheetH = 2 * (h + max(j.Grip, j.Tail))
	}
	if d.below(2) == 0 {
		j.SheetW += d.below(200)
		j.SheetH += d.below(200)
	}
	j.SheetW = max(1, j.SheetW+d.below(9)-4)
	j.SheetH = max(1, j.SheetH+d.below(9)-4)
	return j, s
}

// each: many jobs whose numbers may all be, and those whose blocks nearly, or
// just, fit.
func each(seed dice, say func(j api.Job, s api.Scheme)) {
	d := seed
	for range 4_000 {
		say(d.job(), d.scheme())
		say(d.near())
	}
}

// P22.1, P22.2: many jobs; by each style, and each Quarter, some fit.
func TestManyJobs(t *testing.T) {
	var fit, not [5][4]int
	each(22, func(j api.Job, s api.Scheme) {
		check(t, j, s)
		if Fits(j, s) {
			fit[j.Style][j.Quarter]++
		} else {
			not[j.Style][j.Quarter]++
		}
	})
	for _, n := range styles {
		if slices.Min(fit[n][:]) < 50 || slices.Min(not[n][:]) < 50 {
			t.Fatalf("style %d: by Quarters %v fit, %v don't", n, fit[n], not[n])
		}
	}
}

// P22.1: a block that fits is one that lies within the Region.
func TestFitsIsWithinTheRegion(t *testing.T) {
	each(221, func(j api.Job, s api.Scheme) {
		if r := Blocks(j, s, 1)[0]; Fits(j, s) != box.Within(r, style.Region(j)) {
			t.Fatalf("%+v, %+v: %v of the region %v; it fits: %v", j, s, r, style.Region(j), Fits(j, s))
		}
	})
}

// P22.1: it is as great as panel's block, turned by an odd Quarter.
func TestOuterIsThePanelsBlock(t *testing.T) {
	each(222, func(j api.Job, s api.Scheme) {
		copies := 1
		if j.Binding == api.ComeGo {
			copies = 2
		}
		w, h := panel.Block(j, s, copies)
		if j.Quarter%2 == 1 {
			w, h = h, w
		}
		checkOuter(t, j, s, w, h)
	})
}

// P22.2: no more is left on one side of the block than on the other one, but
// for the one that is lost by rounding: that is left behind it.
func TestInTheMiddle(t *testing.T) {
	each(223, func(j api.Job, s api.Scheme) {
		r, b := style.Region(j), Blocks(j, s, 1)[0]
		w, h := box.Size(r)
		outerW, outerH := Outer(j, s)
		ahead, behind := b.X0-r.X0, r.X1-b.X1
		if ahead+behind != w-outerW || behind-ahead != (w-outerW)&1 {
			t.Fatalf("%+v, %+v: %d to the left, %d to the right", j, s, ahead, behind)
		}
		ahead, behind = b.Y0-r.Y0, r.Y1-b.Y1
		if ahead+behind != h-outerH || behind-ahead != (h-outerH)&1 {
			t.Fatalf("%+v, %+v: %d below, %d above", j, s, ahead, behind)
		}
	})
}

// P22.2: Back is At, and then Flip; At turns by Quarter; both bring the block's
// own corners to the corners of its rectangles.
func TestBackIsAtAndThenFlip(t *testing.T) {
	each(224, func(j api.Job, s api.Scheme) {
		at, back := At(j, s), Back(j, s)
		if back != place.Then(at, style.Flip(j)) {
			t.Fatalf("%+v, %+v: Back is %v, At %v, Flip %v", j, s, back, at, style.Flip(j))
		}
		if at.Turn != j.Quarter || back.Turn < 4 || back.Turn > 7 {
			t.Fatalf("%+v, %+v: At turns by %d, Back by %d", j, s, at.Turn, back.Turn)
		}
		w, h := Outer(j, s)
		if j.Quarter%2 == 1 {
			w, h = h, w
		}
		own := box.Of(0, 0, w, h)
		both := append(Blocks(j, s, 1), Blocks(j, s, 2)...)
		if len(both) != 2 || place.Box(at, own) != both[0] || place.Box(back, own) != both[1] {
			t.Fatalf("%+v, %+v: %v and %v bring %v to %v", j, s, at, back, own, both)
		}
	})
}

// P22.2: as many plates as the style has have blocks, two blocks in all, each
// as great as Outer tells.
func TestBlocksAreAsGreatAsOuter(t *testing.T) {
	each(225, func(j api.Job, s api.Scheme) {
		w, h := Outer(j, s)
		all := 0
		for side := -1; side <= 4; side++ {
			l := Blocks(j, s, side)
			if there := side >= 1 && side <= style.Plates(j.Style); there != (len(l) > 0) {
				t.Fatalf("%+v, %+v: side %d has %v", j, s, side, l)
			}
			for _, r := range l {
				if a, b := box.Size(r); a != w || b != h {
					t.Fatalf("%+v, %+v: %v isn't %d by %d", j, s, r, w, h)
				}
			}
			all += len(l)
		}
		if all != 2 {
			t.Fatalf("%+v, %+v: %d blocks", j, s, all)
		}
	})
}

// P22.2: blocks that fit are within what may be printed, on the back, too, and
// apart on a plate that prints both sides; the back's, turned over once more,
// is the front's.
func TestBlocksThatFit(t *testing.T) {
	each(226, func(j api.Job, s api.Scheme) {
		both := append(Blocks(j, s, 1), Blocks(j, s, 2)...)
		if place.Box(style.Flip(j), both[1]) != both[0] {
			t.Fatalf("%+v, %+v: %v isn't behind %v", j, s, both[1], both[0])
		}
		if !Fits(j, s) {
			return
		}
		for _, r := range both {
			if !box.Within(r, style.Area(j)) {
				t.Fatalf("%+v, %+v: %v is beyond %v", j, s, r, style.Area(j))
			}
		}
		if style.Plates(j.Style) == 1 && !box.Apart(both[0], both[1]) {
			t.Fatalf("%+v, %+v: %v and %v are not apart", j, s, both[0], both[1])
		}
	})
}

// P22.1, P22.2: the block hangs on the scheme that is handed in, not on the
// job's own: each of the catalogue, with each of it as the job's Folds.
func TestTheSchemeIsTheOneHandedIn(t *testing.T) {
	for _, own := range scheme.Names() {
		for _, name := range scheme.Names() {
			j := bounds.Usual()
			j.Folds, _ = scheme.Find(own)
			s, _ := scheme.Find(name)
			for binding := 1; binding <= 4; binding++ {
				j.Binding = binding
				check(t, j, s)
			}
		}
	}
}

// P1: the least and the greatest ints, and others, in every field of the job,
// and as Cols and Rows.
func TestWrongNumbersEverywhere(t *testing.T) {
	some := append(noSides[:], 1, 2, 3, 4, 64, highest/2, lowest/2)
	d := dice(227)
	one := func() int { return some[d.below(len(some))] }
	for range 20_000 {
		var j api.Job
		for i := range bounds.Count() {
			j = bounds.Set(j, i, one())
		}
		s := api.Scheme{Cols: one(), Rows: one(), Steps: []api.Step{{Side: one(), N: one(), Under: true}}}
		check(t, j, s)
		check(t, j, d.scheme())
		check(t, d.job(), s)
		// One number alone that may, or may not, be.
		check(t, bounds.Set(d.job(), d.below(bounds.Count()), one()), d.scheme())
		if l := Blocks(d.job(), d.scheme(), noPlates[d.below(len(noPlates))]); len(l) != 0 {
			t.Fatalf("%v on no plate", l)
		}
	}
	for _, n := range some {
		var j api.Job
		for i := range bounds.Count() {
			j = bounds.Set(j, i, n)
		}
		check(t, j, plain(n, n))
		check(t, j, plain(64, 64))
	}
}

// P3: each number that the chapter doesn't name, the title, the folds and the
// last ones change nothing, as long as all numbers may be.
func TestOtherFieldsChangeNothing(t *testing.T) {
	d := dice(228)
	named := []int{3, 4, 6, 7, 8, 9, 10, 11, 12, 13, 14, 15, 16, 20}
	for range 200 {
		j, s := d.near()
		before := ask(j, s)
		for i, n := range limits {
			if slices.Contains(named, i) {
				continue
			}
			for _, k := range []int{n[0], n[1], n[0] + d.below(n[1]-n[0]+1)} {
				if l := ask(bounds.Set(j, i, k), s); l != before {
					t.Fatalf("of %+v: %+v; with %d at %d: %+v", j, before, k, i, l)
				}
			}
		}
		for _, steps := range [][]api.Step{nil, {}, {{Side: lowest, N: highest, Under: true}}} {
			j.Title, j.Last, j.Folds = strings.Repeat("\xff\x00", 99), []string{"", "\xfe"}, api.Scheme{Cols: lowest, Rows: 3, Steps: steps}
			s.Steps = steps
			if l := ask(j, s); l != before {
				t.Fatalf("of %+v, %+v: %+v; it was: %+v", j, s, l, before)
			}
		}
	}
}

// P2, P3: the job and the scheme are as they were, and so is what their lists
// have behind their ends; asked again, the answers are the same, whatever was
// done with the first ones.
func TestNothingIsChanged(t *testing.T) {
	d := dice(229)
	for range 200 {
		j, s := d.near()
		s.Steps = slices.Grow([]api.Step{{Side: 1, N: 1}}, 3)
		j.Folds.Steps, j.Last = slices.Grow(j.Folds.Steps, 3), slices.Grow([]string{"F4-1"}, 3)
		whole := func() []any {
			return []any{j, s, slices.Clone(s.Steps[:cap(s.Steps)]), slices.Clone(j.Folds.Steps[:cap(j.Folds.Steps)]), slices.Clone(j.Last[:cap(j.Last)])}
		}
		before := whole()
		first := ask(j, s)
		if !reflect.DeepEqual(whole(), before) {
			t.Fatalf("%+v is changed; it was: %+v", whole(), before)
		}
		for side := range 4 {
			l := Blocks(j, s, side)
			for i := range l[:cap(l)] {
				l[:cap(l)][i] = api.Rect{X0: -1}
			}
		}
		ask(d.near())
		if ask(j, s) != first {
			t.Fatalf("%+v, %+v: another answer the second time", j, s)
		}
	}
}

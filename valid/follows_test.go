package valid

import (
	"reflect"
	"slices"
	"strings"
	"testing"

	"gatherum/api"
	"gatherum/area"
	"gatherum/bounds"
	"gatherum/box"
	"gatherum/creep"
	"gatherum/order"
	"gatherum/panel"
	"gatherum/place"
	"gatherum/scheme"
	"gatherum/spine"
	"gatherum/split"
	"gatherum/style"
	"gatherum/unfold"
)

// dice gives numbers that look thrown, but are the same in each run.
type dice uint64

// below: a number from 0 to ahead of n.
func (d *dice) below(n int) int {
	*d = *d*6364136223846793005 + 1442695040888963407
	return int(uint64(*d) >> 33 % uint64(n))
}

// one: one of the texts.
func (d *dice) one(l ...string) string {
	return l[d.below(len(l))]
}

// rarely: so, one of n times.
func (d *dice) rarely(n int) bool {
	return d.below(n) == 0
}

// isTitle: up to 60 octets, each of which can be seen, or is a blank.
func isTitle(s string) bool {
	return len(s) <= 60 && strings.IndexFunc(s, func(r rune) bool { return r < ' ' || r > '~' }) < 0
}

// areRight: may all numbers be, by the table of limits?
func areRight(j api.Job) bool {
	for i, n := range limits {
		if k := bounds.Get(j, i); k < n[0] || k > n[1] {
			return false
		}
	}
	return true
}

// isFolded: are the folds right, by taking off what each step takes?
func isFolded(j api.Job) bool {
	s := j.Folds
	if s.Cols < 1 || s.Cols > 64 || s.Rows < 1 || s.Rows > 64 || s.Cols*s.Rows > 64 {
		return false
	}
	if j.Binding == 3 {
		return len(s.Steps) == 0
	}
	if len(s.Steps) > 6 {
		return false
	}
	for _, f := range s.Steps {
		if f.N < 1 || f.N > 64 || f.Side < 1 || f.Side > 4 {
			return false
		}
		there := &s.Cols
		if f.Side > 2 {
			there = &s.Rows
		}
		if *there -= f.N; *there < f.N {
			return false
		}
	}
	return s.Cols == 1 && s.Rows == 1
}

// areLast: are the last ones right, of folds that are?
func areLast(j api.Job) bool {
	if j.Binding > 2 {
		return len(j.Last) == 0
	}
	for _, name := range j.Last {
		s, ok := scheme.Find(name)
		if !ok || s.Cols*s.Rows >= j.Folds.Cols*j.Folds.Rows || j.Binding == 1 && !slices.Contains(nesting[:], name) {
			return false
		}
	}
	return len(j.Last) <= 4
}

// signatures: the folds as often as they are taken whole, and the one that
// takes the rest.
func signatures(j api.Job) []api.Scheme {
	var l []api.Scheme
	rest := j.Pages
	for ; rest > 2*j.Folds.Cols*j.Folds.Rows; rest -= 2 * j.Folds.Cols * j.Folds.Rows {
		l = append(l, j.Folds)
	}
	least := j.Folds
	for _, name := range j.Last {
		s, _ := scheme.Find(name)
		if n := s.Cols * s.Rows; 2*n >= rest && n < least.Cols*least.Rows {
			least = s
		}
	}
	return append(l, least)
}

// doesCreep: by Saddle, is what the innermost pair of leaves is pushed above
// Face?
func doesCreep(j api.Job) bool {
	leaves := 0
	for _, s := range signatures(j) {
		leaves += s.Cols * s.Rows
	}
	return j.Binding == 1 && (leaves/2-1)*j.Caliper*j.Num >= (j.Face+1)*j.Den
}

// doesStand: does each of the steps stand as it ought to, one by one?
func doesStand(j api.Job) bool {
	if j.Binding != 2 || j.StairWide == 0 {
		return true
	}
	y := j.StairAt
	for range j.StairWrap {
		y += j.StairStep
	}
	return j.StairStep != 0 && j.StairWide <= j.Spine && y <= j.Foot+j.H+j.Head
}

// doesFit: does the block of each signature lie within the Region?
func doesFit(j api.Job) bool {
	for _, s := range signatures(j) {
		if l := area.Blocks(j, s, 1); !box.Within(l[0], style.Region(j)) {
			return false
		}
	}
	return true
}

// meant: what ought to be answered, by the chapter's words.
func meant(j api.Job) api.Errno {
	switch {
	case !isTitle(j.Title):
		return 1
	case !areRight(j):
		return 5
	case !isFolded(j):
		return 6
	case j.Binding == 1 && (j.Spine > 0 || !spine.Nests(j.Folds)):
		return 7
	case !areLast(j):
		return 8
	case j.Bleed > j.Head || j.Bleed > j.Foot || j.Bleed > j.Face:
		return 9
	case doesCreep(j):
		return 10
	case !doesStand(j):
		return 11
	case !doesFit(j):
		return 12
	}
	return 0
}

// folds: a scheme that most often may be bound so.
func (d *dice) folds(t *testing.T, binding int) api.Scheme {
	switch {
	case binding == api.Stack && !d.rarely(20):
		return plain(1+d.below(8), 1+d.below(8))
	case d.rarely(30):
		return api.Scheme{Cols: d.below(10), Rows: d.below(10), Steps: make([]api.Step, d.below(3))}
	case d.rarely(8):
		return named(t, d.one("4x1 L1 L1 L1", "4x1 L2u L1", "2x1 L1u", "2x2 T1u L1", "2x3 B1 T1 L1", "2x5 B2 B1 B1 L1", "2x2 T1u R1", "7x1 L3 L2 L1", "3x1 L1", "2x1 L2"))
	case binding == api.Saddle && !d.rarely(20):
		return named(t, d.one(nesting[:]...))
	}
	return named(t, d.one(scheme.Names()...))
}

// last: none, or some that most often may be.
func (d *dice) last(binding int) []string {
	var l []string
	if binding > 2 && !d.rarely(20) {
		return l
	}
	for range max(0, d.below(9)-4) {
		name := d.one("F4-1", "F4-1", "F4-1", "F8-1", "F8-2")
		if d.rarely(30) {
			name = d.one(append(scheme.Names(), "", "F", "F4-1\x00")...)
		}
		l = append(l, name)
	}
	return l
}

// title: one that most often may be.
func (d *dice) title() string {
	s := strings.Repeat(d.one("a", " ", `"`, `\`, "~"), d.below(61))
	if d.rarely(20) {
		s += d.one("\n", "\x7f", "\xff", "\u00e4", "a", strings.Repeat("a", 60))
	}
	return s
}

// near: a job that is well, or nearly: what is held against something else is
// as great as that, but for a little.
func (d *dice) near(t *testing.T) api.Job {
	j := bounds.Usual()
	j.Title, j.Binding, j.Style, j.Quarter = d.title(), 1+d.below(4), 1+d.below(4), d.below(4)
	j.Folds, j.Last = d.folds(t, j.Binding), d.last(j.Binding)
	j.Pages = 1 + d.below([...]int{20, 200, 200, 2_000}[d.below(4)])
	j.W, j.H = 1+d.below(99), 1+d.below(99)
	j.Head, j.Foot, j.Face = 1+d.below(20), 1+d.below(20), 1+d.below(20)
	j.Bleed = min(j.Head, j.Foot, j.Face)
	if d.rarely(9) {
		j.Bleed++
	}
	if j.Binding != api.Saddle || d.rarely(20) {
		j.Spine = d.below(9)
	}
	d.push(&j)
	d.climb(&j)
	d.cutSheet(&j)
	if d.rarely(20) {
		i := d.below(28)
		j = bounds.Set(j, i, limits[i][d.below(2)]+d.below(3)-1)
	}
	return j
}

// push: creep that is about as great as Face at the middle of the book, where
// it has about that many leaves.
func (d *dice) push(j *api.Job) {
	j.Num = 1 + d.below(9)
	j.Caliper = 4 * j.Face * 9 / (j.Pages * j.Num)
	j.Den = 9 + d.below(3)
	if d.rarely(3) {
		j.Caliper = 0
	}
}

// climb: steps that are nearly as wide, and as high, as may be.
func (d *dice) climb(j *api.Job) {
	high := j.Foot + j.H + j.Head
	j.StairStep = 1 + d.below(3)
	j.StairWrap = 1 + d.below(max(1, high/j.StairStep))
	j.StairAt = max(0, high-j.StairStep*j.StairWrap-d.below(3))
	j.StairWide = min(j.Spine, d.below(9))
	if d.rarely(5) {
		*[...]*int{&j.StairAt, &j.StairStep, &j.StairWrap, &j.StairWide}[d.below(4)] += 1
	}
	if d.rarely(20) {
		j.StairStep = 0
	}
}

// cutSheet: a sheet with just the room that the folds need, and more of it
// now and then.
func (d *dice) cutSheet(j *api.Job) {
	j.Side, j.Grip, j.Tail = d.below(40), d.below(40), d.below(40)
	w, h := j.Folds.Cols*(j.Spine+j.W+j.Face), j.Folds.Rows*(j.Foot+j.H+j.Head)
	if j.Binding == api.ComeGo {
		h *= 2
	}
	if j.Quarter%2 == 1 {
		w, h = h, w
	}
	j.SheetW, j.SheetH = w+2*j.Side, h+j.Grip+j.Tail
	switch j.Style {
	case api.Perfecting:
		j.SheetH = h + 2*max(j.Grip, j.Tail)
	case api.WorkTurn:
		j.SheetW = 2 * (w + j.Side)
	case api.WorkTumble:
		j.SheetH = 2 * (h + max(j.Grip, j.Tail))
	}
	switch d.below(8) {
	case 0:
		j.SheetW--
	case 1:
		j.SheetH--
	case 2, 3, 4:
		j.SheetW, j.SheetH = j.SheetW+d.below(2_000), j.SheetH+d.below(2_000)
	}
}

// P23.1: many jobs, against a second telling of the chapter; each error is
// among them often, and so are jobs of each kind that are well.
func TestManyJobs(t *testing.T) {
	d := dice(23)
	var count [16]int
	var well [5][5]int
	for range 20_000 {
		j := d.near(t)
		e := meant(j)
		check(t, j, e)
		count[e]++
		if e == api.OK {
			well[j.Binding][j.Style]++
		}
	}
	for _, e := range []api.Errno{0, 1, 5, 6, 7, 8, 9, 10, 11, 12} {
		if count[e] < 200 {
			t.Fatalf("of each error so many: %v", count)
		}
	}
	for _, binding := range bindings {
		if slices.Min(well[binding][1:]) < 50 {
			t.Fatalf("bound by %d so many are well, by styles: %v", binding, well[binding])
		}
	}
}

// P23.1: how the pages are parted doesn't matter otherwise than by the blocks
// and the leaves that there are.
func TestEachNumberOfPages(t *testing.T) {
	d := dice(231)
	for range 30 {
		j := d.near(t)
		for pages := range 140 {
			j.Pages = pages
			check(t, j, meant(j))
		}
		for _, pages := range []int{99_999, 100_000, 100_001} {
			j.Pages = pages
			check(t, j, meant(j))
		}
	}
}

// P23.1, P1: any ints in every number, in the folds and their steps; titles
// and last ones of any texts.
func TestWrongEverything(t *testing.T) {
	some := []int{0, 1, 2, 3, 4, 5, 64, 65, 100_000, 5_000_000, 5_000_001, -1, -5_000_000, 1 << 31, 1 << 32, 1<<32 + 1, -1 << 32, 1 << 62, 1<<62 + 1, -1 << 62, lowest, lowest + 1, highest, highest / 2}
	texts := []string{"", "F4-1", "F8-1", "F2-1", "a", "\xff", "\x00", "\n", "F4-1 ", strings.Repeat("a", 60), strings.Repeat("a", 61), "\u00e4\u00f6"}
	d := dice(232)
	one := func() int { return some[d.below(len(some))] }
	for range 20_000 {
		j := d.near(t)
		for range 1 + d.below(3) {
			switch d.below(6) {
			case 0:
				j = bounds.Set(j, d.below(28), one())
			case 1:
				j.Folds = api.Scheme{Cols: one(), Rows: one(), Steps: j.Folds.Steps}
			case 2:
				j.Folds.Steps = append(slices.Clone(j.Folds.Steps), api.Step{Side: one(), N: one(), Under: true})
			case 3:
				j.Title = d.one(texts...)
			case 4:
				j.Last = append(slices.Clone(j.Last), d.one(texts...))
			case 5:
				for i := range 28 {
					j = bounds.Set(j, i, one())
				}
			}
		}
		check(t, j, meant(j))
	}
	for _, n := range some {
		var j api.Job
		for i := range 28 {
			j = bounds.Set(j, i, n)
		}
		check(t, j, meant(j))
	}
}

// great: a job with great numbers: as much of a great sheet as can be is what
// panels have, in pages or in what is around them.
func (d *dice) great(t *testing.T) api.Job {
	j := bounds.Usual()
	j.Binding, j.Style, j.Quarter = 1+d.below(4), 1+d.below(4), d.below(4)
	j.Folds = named(t, d.one("F4-1", "F8-1", "F16-1", "F128-1"))
	if j.Binding == api.Stack {
		j.Folds.Steps = nil
	}
	j.Pages = []int{1, 100, 99_999, 100_000}[d.below(4)]
	j.Box = api.Point{X: 5_000_000 * (d.below(3) - 1), Y: 5_000_000 * (d.below(3) - 1)}
	j.SheetW, j.SheetH, j.Side, j.Grip, j.Tail = 5_000_000, 5_000_000, 0, 0, 0
	w, h := box.Size(style.Region(j))
	if j.Quarter%2 == 1 {
		w, h = h, w
	}
	if j.Binding == api.ComeGo {
		h /= 2
	}
	w, h = w/j.Folds.Cols, h/j.Folds.Rows
	j.W = 1 + d.below(w)
	j.H = 1 + d.below(h)
	j.Face, j.Foot, j.Head = w-j.W, d.below(h-j.H+1), 0
	j.Head = h - j.H - j.Foot
	j.Bleed = min(j.Head, j.Foot, j.Face)
	if j.Binding == api.Perfect {
		j.Spine = d.below(j.Face - j.Bleed + 1)
		j.Face -= j.Spine
	}
	j.StairWide, j.StairAt, j.StairWrap = j.Spine, h/2, 1+d.below(1_000)
	j.StairStep = h / 2 / j.StairWrap
	j.Caliper, j.Num, j.Den = 100_000, 1_000, 1
	if d.rarely(2) {
		j.Caliper, j.Num, j.Den = d.below(100_001), d.below(1_001), 1+d.below(1_000)
	}
	j.MarkLen, j.MarkOff, j.MarkWide = 5_000_000, 5_000_000, 5_000_000
	return j
}

// numbers: those of what follows of a job, as the later chapters have them: of
// the leaves, the panels, the blocks, what brings pages to the plates, and the
// steps.
func numbers(j api.Job) []int {
	var l []int
	add := func(n ...int) { l = append(l, n...) }
	rect := func(r api.Rect) { add(r.X0, r.Y0, r.X1, r.Y1) }
	lies := func(a api.Place) { add(a.Turn, a.X, a.Y) }
	w, h := panel.Size(j)
	add(w, h, split.Count(j), split.Leaves(j), split.Blanks(j), order.Copies(j))
	rect(style.Area(j))
	rect(style.Region(j))
	lies(style.Flip(j))
	for _, leaf := range []int{0, 1, split.Leaves(j)/2 - 1, split.Leaves(j) / 2, split.Leaves(j) - 1} {
		pushed, _ := creep.Of(j, leaf)
		r, v := order.Pages(j, leaf)
		add(pushed, r, v)
		for _, recto := range []bool{true, false} {
			lies(panel.Source(j, recto, pushed))
		}
	}
	for _, sig := range []int{0, split.Count(j) - 1} {
		s, _ := split.At(j, sig)
		lies(area.At(j, s))
		lies(area.Back(j, s))
		for side := 1; side <= 2; side++ {
			for _, r := range area.Blocks(j, s, side) {
				rect(r)
			}
		}
		l = append(l, ofPanels(j, s)...)
	}
	top := j.StairAt + (j.StairWrap-1)*j.StairStep
	if j.Binding == api.Perfect && j.StairWide > 0 {
		add(top, top+j.StairStep)
	}
	// The widest mark is a note of as many octets as it may have, on a line.
	add(j.MarkOff+j.MarkLen+j.MarkWide+j.SheetH, j.Side+200*j.MarkLen)
	return l
}

// ofPanels: the numbers of all panels of a signature.
func ofPanels(j api.Job, s api.Scheme) []int {
	var l []int
	most, _ := creep.Most(j)
	lie := unfold.Of(s)
	for at := range scheme.Panels(s) {
		p := api.Panel{Leaf: at}
		if len(lie) > 0 {
			p = lie[at]
		}
		for copy := range order.Copies(j) {
			for _, recto := range []bool{true, false} {
				a := place.Then(panel.Source(j, recto, most), panel.Reader(j, recto))
				a = place.Then(a, place.Back(panel.Lies(j, s, copy, at, p)))
				for _, to := range []api.Place{area.At(j, s), area.Back(j, s)} {
					b := place.Then(a, to)
					r := place.Box(b, panel.Clip(j, recto))
					l = append(l, b.X, b.Y, r.X0, r.Y0, r.X1, r.Y1)
				}
			}
		}
	}
	return l
}

// P23.2: of a job that is well no number of what follows is above 2^40, or
// below -2^40: of usual jobs, and of such as have great numbers.
func TestNumbersOfWhatFollows(t *testing.T) {
	const most = 1 << 40
	d := dice(233)
	var well, creeps, beyond int
	for i := range 8_000 {
		j := d.great(t)
		if i%4 == 0 {
			j = d.near(t)
		}
		switch Check(j) {
		case api.ErrCreep:
			creeps++
			if n, _ := creep.Most(j); n > most {
				beyond++
			}
			continue
		case api.OK:
			well++
		default:
			continue
		}
		for _, n := range numbers(j) {
			if n > most || n < -most {
				t.Fatalf("%+v is well; one of its numbers is %d", brief(j), n)
			}
		}
	}
	if well < 2_000 || creeps < 200 || beyond < 50 {
		t.Fatalf("%d jobs are well, %d creep, of which %d are beyond", well, creeps, beyond)
	}
}

// P23.1, P2: what a job that is well is known by: it has signatures, and each
// leaf a creep.
func TestOfWhatIsWell(t *testing.T) {
	d := dice(234)
	for range 3_000 {
		j := d.near(t)
		if !Well(j) {
			continue
		}
		if bounds.First(j) != -1 || !split.Folds(j) || !split.Last(j) || split.Count(j) == 0 || order.Copies(j) == 0 {
			t.Fatalf("%+v is well", brief(j))
		}
		middle := split.Leaves(j) / 2
		for leaf := max(0, middle-9); leaf < min(middle+9, split.Leaves(j)); leaf++ {
			if n, ok := creep.Of(j, leaf); !ok || n > j.Face {
				t.Fatalf("%+v is well; its leaf %d is pushed by %d, %v", brief(j), leaf, n, ok)
			}
		}
		for _, s := range split.Of(j)[max(0, split.Count(j)-9):] {
			if !area.Fits(j, s) {
				t.Fatalf("%+v is well; %v doesn't fit", brief(j), s)
			}
		}
	}
}

// P2, P3: a job is as it was, and so is what its lists have behind their ends;
// asked again, the answer is the same.
func TestNothingIsChanged(t *testing.T) {
	d := dice(235)
	for range 2_000 {
		j := d.near(t)
		j.Folds.Steps, j.Last = slices.Grow(slices.Clone(j.Folds.Steps), 3), slices.Grow(j.Last, 3)
		whole := func() []any {
			return []any{j, slices.Clone(j.Folds.Steps[:cap(j.Folds.Steps)]), slices.Clone(j.Last[:cap(j.Last)])}
		}
		before := whole()
		first := Check(j)
		Well(j)
		if !reflect.DeepEqual(whole(), before) {
			t.Fatalf("%+v is changed; it was: %+v", whole(), before)
		}
		Check(d.near(t))
		check(t, j, first)
	}
}

// P5: nil and empty lists are one.
func TestNilAndEmptyLists(t *testing.T) {
	d := dice(236)
	for range 2_000 {
		j := d.near(t)
		k := j
		j.Last, k.Last = nil, []string{}
		check(t, k, Check(j))
		if len(j.Folds.Steps) == 0 {
			j.Folds.Steps, k.Folds.Steps = nil, []api.Step{}
			check(t, k, Check(j))
		}
	}
}

// P3: each number, and text, that the chapter doesn't name changes nothing, as
// long as it may be.
func TestOtherFieldsChangeNothing(t *testing.T) {
	d := dice(237)
	for range 300 {
		j := d.near(t)
		before := Check(j)
		if before == api.ErrForm || before == api.ErrRange {
			continue
		}
		for _, i := range []int{1, 2, 21, 22, 23} {
			for _, k := range []int{limits[i][0], limits[i][1], 0, 1, 77} {
				check(t, bounds.Set(j, i, k), before)
			}
		}
		for _, title := range []string{"", "a", strings.Repeat("~", 60)} {
			k := j
			k.Title = title
			check(t, k, before)
		}
	}
}

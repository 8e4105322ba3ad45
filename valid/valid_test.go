package valid

import (
	"math"
	"slices"
	"strings"
	"testing"

	"gatherum/api"
	"gatherum/bounds"
	"gatherum/scheme"
)

const (
	lowest  = math.MinInt
	highest = math.MaxInt
	// many is more octets, steps, or last names, than any job has.
	many = 1 << 20
)

// limits: from what to what each number of a job may be, in order.
var limits = [...][2]int{
	{1, 100_000}, {-5_000_000, 5_000_000}, {-5_000_000, 5_000_000}, {1, 5_000_000}, {1, 5_000_000},
	{0, 5_000_000}, {0, 5_000_000}, {0, 5_000_000}, {0, 5_000_000}, {0, 5_000_000},
	{1, 4}, {1, 4}, {1, 5_000_000}, {1, 5_000_000}, {0, 5_000_000}, {0, 5_000_000}, {0, 5_000_000},
	{0, 100_000}, {0, 1_000}, {1, 1_000}, {0, 3}, {0, 5_000_000}, {0, 5_000_000}, {0, 5_000_000},
	{0, 5_000_000}, {0, 5_000_000}, {1, 1_000}, {0, 5_000_000},
}

// bindings and styles: all there are, in order.
var (
	bindings = [...]int{api.Saddle, api.Perfect, api.Stack, api.ComeGo}
	styles   = [...]int{api.Sheetwise, api.Perfecting, api.WorkTurn, api.WorkTumble}
)

// nesting: those of the catalogue that nest.
var nesting = [...]string{"F4-1", "F8-1", "F8-2", "F16-1", "F16-2", "F16-3", "F16-4", "F32-1", "F32-2", "F64-1", "F128-1"}

// named: the scheme that a text tells.
func named(t *testing.T, text string) api.Scheme {
	t.Helper()
	s, ok := scheme.Get(strings.Split(text, " ")...)
	if !ok {
		t.Fatalf("no scheme %q", text)
	}
	return s
}

// plain: so many panels, never folded.
func plain(cols, rows int) api.Scheme {
	return api.Scheme{Cols: cols, Rows: rows}
}

// roomy: a job of small pages, whose sheet and paper leave it room for most of
// what its folds and pages may be; a panel is 15300 by 22000, but by Perfect
// it is 15600 wide, and has steps up to 7000.
func roomy(binding int, folds api.Scheme, pages int) api.Job {
	j := bounds.Usual()
	j.Binding, j.Folds, j.Pages = binding, folds, pages
	j.W, j.H, j.Bleed = 14_800, 21_000, 300
	j.Head, j.Foot, j.Face = 500, 500, 500
	j.SheetW, j.SheetH = api.MaxSize, api.MaxSize
	j.Caliper, j.Num, j.Den = 1, 1, 50
	if binding == api.Perfect {
		j.Spine = 300
		j.StairAt, j.StairStep, j.StairWrap, j.StairWide = 2_000, 500, 10, 200
	}
	return j
}

// brief: a job that a failure may show whole.
func brief(j api.Job) api.Job {
	j.Folds.Steps = j.Folds.Steps[:min(len(j.Folds.Steps), 9)]
	j.Last = slices.Clone(j.Last[:min(len(j.Last), 9)])
	for i, name := range j.Last {
		j.Last[i] = name[:min(len(name), 20)]
	}
	j.Title = j.Title[:min(len(j.Title), 80)]
	return j
}

// check: that is the first error of j; it is well just if there is none.
func check(t *testing.T, j api.Job, meant api.Errno) {
	t.Helper()
	if e := Check(j); e != meant {
		t.Fatalf("Check(%+v) = %d; meant: %d", brief(j), e, meant)
	}
	if ok := Well(j); ok != (meant == api.OK) {
		t.Fatalf("Well(%+v) = %v; Check says %d", brief(j), ok, meant)
	}
}

// checkIf: j has that error, if it is so; else none.
func checkIf(t *testing.T, j api.Job, so bool, e api.Errno) {
	t.Helper()
	if !so {
		e = api.OK
	}
	check(t, j, e)
}

// P23.1: the chapter's example; the usual job by each style and Quarter: its
// block is 306000 by 440000, half of its sheet 320000 by 450000.
func TestTheUsualJob(t *testing.T) {
	check(t, bounds.Usual(), api.OK)
	for _, e := range []struct {
		style    int
		quarters [4]api.Errno
	}{
		{api.Sheetwise, [4]api.Errno{api.OK, api.OK, api.OK, api.OK}},
		{api.Perfecting, [4]api.Errno{api.OK, api.OK, api.OK, api.OK}},
		{api.WorkTurn, [4]api.Errno{api.OK, api.ErrFit, api.OK, api.ErrFit}},
		{api.WorkTumble, [4]api.Errno{api.ErrFit, api.OK, api.ErrFit, api.OK}},
	} {
		for quarter, meant := range e.quarters {
			j := bounds.Usual()
			j.Style, j.Quarter = e.style, quarter
			check(t, j, meant)
		}
	}
}

// P23.1: the usual job, bound otherwise; nothing else is changed.
func TestTheUsualJobBoundOtherwise(t *testing.T) {
	j := bounds.Usual()
	j.Binding = api.Perfect
	check(t, j, api.OK)
	j.Binding = api.Stack
	check(t, j, api.ErrFold)
	// Its two copies are 306000 by 880000, which is just what there is.
	j.Binding = api.ComeGo
	check(t, j, api.OK)
	j.SheetH--
	check(t, j, api.ErrFit)
	check(t, api.Job{}, api.ErrRange)
}

// P23.1: each binding, each style, each Quarter, each scheme of the catalogue,
// of one page and of many: all are well, but what is bound by Saddle and
// doesn't nest.
func TestWellOfEachKind(t *testing.T) {
	for _, name := range scheme.Names() {
		for _, binding := range bindings {
			folds, _ := scheme.Find(name)
			if binding == api.Stack {
				folds.Steps = nil
			}
			wrong := binding == api.Saddle && !slices.Contains(nesting[:], name)
			for _, style := range styles {
				for quarter := range 4 {
					for _, pages := range []int{1, 2, 3, 16, 17, 255, 257, 99_999, 100_000} {
						j := roomy(binding, folds, pages)
						j.Style, j.Quarter = style, quarter
						checkIf(t, j, wrong, api.ErrSpine)
					}
				}
			}
		}
	}
}

// P23.1: folds of one's own, bound as they may be.
func TestWellWithFoldsOfOnesOwn(t *testing.T) {
	for _, e := range []struct {
		folds string
		nests bool
	}{
		{"4x1 L1 L1 L1", true}, {"2x1 L1u", true}, {"2x3 B1 T1 L1", true}, {"2x2 T1 L1", true}, {"4x1 R2 L1", true},
		{"2x1 R1", false}, {"1x2 T1", false}, {"3x1 L1 L1", false}, {"2x2 L1 B1", false}, {"7x1 L3 L2 L1", false},
	} {
		for _, binding := range []int{api.Saddle, api.Perfect, api.ComeGo} {
			checkIf(t, roomy(binding, named(t, e.folds), 30), binding == api.Saddle && !e.nests, api.ErrSpine)
		}
	}
	for _, folds := range []api.Scheme{plain(1, 1), plain(5, 7), plain(7, 9), plain(8, 8), plain(64, 1), plain(1, 64)} {
		check(t, roomy(api.Stack, folds, 100), api.OK)
		folds.Steps = []api.Step{}
		check(t, roomy(api.Stack, folds, 100), api.OK)
	}
}

// P23.1: each octet in a title, alone, and ahead of, between and behind
// others.
func TestOctetsOfTheTitle(t *testing.T) {
	for _, binding := range []int{api.Saddle, api.Perfect} {
		j := roomy(binding, named(t, "F8-1"), 16)
		for c := range 256 {
			one := string([]byte{byte(c)})
			for _, title := range []string{one, one + "bc", "a" + one + "c", "ab" + one, strings.Repeat(one, 60), strings.Repeat("a", 59) + one} {
				j.Title = title
				checkIf(t, j, c < 32 || c > 126, api.ErrForm)
			}
		}
	}
}

// P23.1: a title has up to 60 octets, of whatever kind.
func TestLengthOfTheTitle(t *testing.T) {
	j := bounds.Usual()
	for _, c := range []string{"a", " ", `"`, `\`, "~", "#"} {
		for n := range 130 {
			j.Title = strings.Repeat(c, n)
			checkIf(t, j, n > 60, api.ErrForm)
		}
		for _, n := range []int{255, 256, 257, 300, 316, 1 << 16, 1<<16 + 60, many} {
			j.Title = strings.Repeat(c, n)
			check(t, j, api.ErrForm)
		}
	}
	for _, title := range []string{"Der B\u00e4r", "\u2019", "\xff", "a\x00", "a\nb", "a\tb", "\x7f", "\u00a0"} {
		j.Title = title
		check(t, j, api.ErrForm)
	}
	j.Title = `\"the \ "book"" # 1 \`
	check(t, j, api.OK)
}

// P23.1: each number at its least and its greatest one, and what is wrong
// then, of the usual job, and of one that is bound by Perfect, with steps.
func TestNumbersAtTheirEnds(t *testing.T) {
	const (
		ok, fit, bleed, creeps = api.OK, api.ErrFit, api.ErrBleed, api.ErrCreep
		hangs, fold, stair     = api.ErrSpine, api.ErrFold, api.ErrStair
	)
	perfect := bounds.Usual()
	perfect.Binding, perfect.Spine, perfect.StairWide = api.Perfect, 3_000, 2_000
	for _, e := range []struct {
		job  api.Job
		ends [28][2]api.Errno
	}{
		{bounds.Usual(), [28][2]api.Errno{
			{ok, creeps}, {ok, ok}, {ok, ok}, {ok, fit}, {ok, fit},
			{ok, bleed}, {bleed, fit}, {bleed, fit}, {bleed, fit}, {ok, hangs},
			{ok, ok}, {ok, fit}, {fit, ok}, {fit, ok}, {ok, fit}, {ok, fit}, {ok, fit},
			{ok, creeps}, {ok, creeps}, {ok, ok}, {ok, ok}, {ok, ok}, {ok, ok}, {ok, ok},
			{ok, ok}, {ok, ok}, {ok, ok}, {ok, ok},
		}},
		// By Saddle there may be no Spine. A page that is 1 high has less than
		// the steps need. Two copies are as high as the sheet, less its edges.
		{perfect, [28][2]api.Errno{
			{ok, ok}, {ok, ok}, {ok, ok}, {ok, fit}, {stair, fit},
			{ok, bleed}, {bleed, fit}, {bleed, fit}, {bleed, fit}, {stair, fit},
			{hangs, ok}, {ok, fit}, {fit, ok}, {fit, ok}, {ok, fit}, {ok, fit}, {ok, fit},
			{ok, ok}, {ok, ok}, {ok, ok}, {ok, ok}, {ok, ok}, {ok, ok}, {ok, ok},
			{ok, stair}, {stair, stair}, {ok, stair}, {ok, stair},
		}},
	} {
		for i, n := range limits {
			for end := range 2 {
				check(t, bounds.Set(e.job, i, n[end]), e.ends[i][end])
			}
		}
	}
}

// P23.1: each number one beyond its least and its greatest one, and farther.
func TestNumbersBeyondTheirEnds(t *testing.T) {
	if len(limits) != bounds.Count() {
		t.Fatalf("%d limits", len(limits))
	}
	for _, binding := range bindings {
		folds := named(t, "F4-1")
		if binding == api.Stack {
			folds.Steps = nil
		}
		j := roomy(binding, folds, 16)
		check(t, j, api.OK)
		for i, n := range limits {
			for _, wrong := range []int{n[0] - 1, n[1] + 1, lowest, highest, n[0] + 1<<32, n[1] - 1<<32, n[0] + 1<<62, n[1] - 1<<62} {
				check(t, bounds.Set(j, i, wrong), api.ErrRange)
			}
		}
	}
}

// P23.1: folds that are not right by any binding, others that are wrong as
// they are folded, or as they are not.
func TestFolds(t *testing.T) {
	l1, b1 := api.Step{Side: api.Left, N: 1}, api.Step{Side: api.Bottom, N: 1}
	of := func(cols, rows int, l ...api.Step) api.Scheme { return api.Scheme{Cols: cols, Rows: rows, Steps: l} }
	l32 := []api.Step{{Side: 1, N: 32}, {Side: 1, N: 16}, {Side: 1, N: 8}, {Side: 1, N: 4}, {Side: 1, N: 2}, l1}
	for _, e := range []struct {
		folds api.Scheme
		// folded: right by a binding that folds; stacked: right by Stack.
		folded, stacked bool
	}{
		{of(2, 1, l1), true, false}, {of(2, 2, b1, l1), true, false}, {of(64, 1, l32...), true, false},
		{of(1, 1), true, true}, {of(1, 1, []api.Step{}...), true, true},
		{of(2, 1), false, true}, {of(8, 8), false, true}, {of(64, 1), false, true}, {of(1, 64), false, true}, {of(9, 7), false, true},
		{of(2, 2, l1), false, false}, {of(2, 2, b1, l1, l1), false, false}, {of(2, 1, api.Step{Side: 1, N: 2}), false, false},
		{of(2, 1, api.Step{Side: 0, N: 1}), false, false}, {of(2, 1, api.Step{Side: 5, N: 1}), false, false},
		{of(2, 1, api.Step{Side: 1}), false, false}, {of(2, 1, api.Step{Side: 1, N: -1}), false, false},
		{of(1, 1, l1), false, false}, {of(1, 1, api.Step{}), false, false}, {of(1, 2, l1), false, false},
		{of(7, 1, l1, l1, l1, l1, l1, l1), true, false}, {of(8, 1, l1, l1, l1, l1, l1, l1, l1), false, false},
		{of(9, 8), false, false}, {of(65, 1), false, false}, {of(1, 65), false, false}, {of(64, 2), false, false},
		{of(64, 64), false, false}, {of(9, 8, api.Step{Side: 1, N: 4}), false, false}, {of(128, 1, append([]api.Step{{Side: 1, N: 64}}, l32[:5]...)...), false, false},
		{of(0, 1), false, false}, {of(1, 0), false, false}, {of(0, 0), false, false}, {of(-1, -1), false, false}, {of(-2, -2), false, false},
		{of(highest, highest), false, false}, {of(lowest, lowest), false, false}, {of(1<<32+1, 1), false, false}, {of(1<<62, 4), false, false},
		{of(2, 1, make([]api.Step, many)...), false, false},
	} {
		for _, binding := range bindings {
			j := roomy(binding, e.folds, 16)
			right := e.folded
			switch {
			case binding == api.Stack:
				right = e.stacked
			case binding == api.Saddle && e.folded && (e.folds.Cols*e.folds.Rows)%2 != 0:
				check(t, j, api.ErrSpine)
				continue
			}
			checkIf(t, j, !right, api.ErrFold)
		}
	}
}

// P23.1: by Saddle with folds that nest and that don't, with Spine 0 and more;
// by any other binding neither matters.
func TestSpine(t *testing.T) {
	for _, name := range []string{"F2-1", "F4-1", "F4-2", "F6-1", "F8-1", "F8-3", "F12-1", "F16-2", "F24-1", "F32-1"} {
		for _, spine := range []int{0, 1, 2, 300, 256, 65_536} {
			for _, binding := range []int{api.Saddle, api.Perfect, api.ComeGo} {
				j := roomy(binding, named(t, name), 32)
				j.Spine, j.StairWide = spine, 0
				checkIf(t, j, binding == api.Saddle && (spine != 0 || !slices.Contains(nesting[:], name)), api.ErrSpine)
			}
		}
	}
	for _, spine := range []int{0, 1, 300} {
		j := roomy(api.Stack, plain(2, 2), 32)
		j.Spine = spine
		check(t, j, api.OK)
	}
}

// P23.1: last ones that are right, and that aren't, whether one of them is
// the last signature's or not.
func TestLast(t *testing.T) {
	// Of each list whether it is right by Saddle, and by Perfect, of F16-1.
	for _, e := range []struct {
		last             []string
		saddle, isBacked bool
	}{
		{nil, true, true}, {[]string{}, true, true}, {[]string{"F4-1"}, true, true}, {[]string{"F8-1", "F8-2", "F4-1"}, true, true},
		{[]string{"F4-1", "F4-1", "F4-1", "F4-1"}, true, true}, {[]string{"F4-1", "F8-1", "F4-1", "F8-1", "F4-1"}, false, false},
		{[]string{"F12-1"}, false, true}, {[]string{"F8-1", "F6-1"}, false, true}, {[]string{"F2-1"}, false, true}, {[]string{"F8-3"}, false, true}, {[]string{"F4-2", "F4-1"}, false, true},
		{[]string{"F16-1"}, false, false}, {[]string{"F16-2"}, false, false}, {[]string{"F32-1"}, false, false}, {[]string{"F8-1", "F8-2", "F4-1", "F16-3"}, false, false},
		{[]string{""}, false, false}, {[]string{"F4"}, false, false}, {[]string{"f4-1"}, false, false}, {[]string{"F4-1", "F4-9"}, false, false}, {[]string{"F4-1 "}, false, false},
		{[]string{"2x1 L1"}, false, false}, {[]string{"2x1"}, false, false}, {[]string{"\xff"}, false, false}, {[]string{strings.Repeat("F4-1", many)}, false, false},
		{make([]string, many), false, false}, {slices.Repeat([]string{"F4-1"}, many), false, false},
	} {
		for _, pages := range []int{1, 16, 17, 20, 24, 30, 32, 99_999} {
			for _, folds := range []string{"F16-1", "F16-2"} {
				for _, binding := range []int{api.Saddle, api.Perfect, api.ComeGo} {
					j := roomy(binding, named(t, folds), pages)
					j.Last = e.last
					right := len(e.last) == 0 || binding == api.Saddle && e.saddle || binding == api.Perfect && e.isBacked
					checkIf(t, j, !right, api.ErrLast)
				}
			}
			j := roomy(api.Stack, plain(4, 2), pages)
			j.Last = e.last
			checkIf(t, j, len(e.last) > 0, api.ErrLast)
		}
	}
}

// P23.1: Bleed equal to, and one above, each of Head, Foot and Face.
func TestBleed(t *testing.T) {
	for _, binding := range bindings {
		folds := named(t, "F4-1")
		if binding == api.Stack {
			folds.Steps = nil
		}
		for _, bleed := range []int{0, 1, 2, 300, 20_000} {
			set := func(head, foot, face int) api.Job {
				j := roomy(binding, folds, 16)
				j.Bleed, j.Head, j.Foot, j.Face, j.Caliper = bleed, head, foot, face, 0
				return j
			}
			check(t, set(bleed, bleed, bleed), api.OK)
			check(t, set(bleed, bleed+1, bleed+2), api.OK)
			if bleed > 0 {
				check(t, set(bleed-1, bleed, bleed), api.ErrBleed)
				check(t, set(bleed, bleed-1, bleed), api.ErrBleed)
				check(t, set(bleed, bleed, bleed-1), api.ErrBleed)
				check(t, set(0, 50_000, 50_000), api.ErrBleed)
				check(t, set(50_000, 0, 50_000), api.ErrBleed)
				check(t, set(50_000, 50_000, 0), api.ErrBleed)
				check(t, set(bleed-1, bleed-1, bleed-1), api.ErrBleed)
			}
		}
	}
}

// P23.1: a trim to the spine needs no room for the bleed there.
func TestBleedAboveSpine(t *testing.T) {
	for _, binding := range []int{api.Saddle, api.Perfect} {
		j := roomy(binding, named(t, "F8-1"), 16)
		j.Spine, j.StairWide = 0, 0
		check(t, j, api.OK)
	}
}

// P23.1: by Saddle the greatest creep equal to Face, and one above it.
func TestCreep(t *testing.T) {
	for _, e := range []struct {
		pages             int
		folds             string
		last              []string
		caliper, ratio    int
		divided, greatest int
	}{
		// So many leaves in all, as many as less 1 outside of one in the middle.
		{16, "F8-1", nil, 100, 1, 1, 300},
		{15, "F8-1", nil, 100, 1, 1, 300},
		{17, "F8-1", nil, 100, 1, 1, 500},
		{17, "F8-1", []string{"F4-1"}, 100, 1, 1, 400},
		{1, "F4-1", nil, 100_000, 1_000, 1, 0},
		{5, "F4-1", nil, 7, 1, 1, 7},
		{5, "F4-1", nil, 100, 49, 1, 4_900},
		{5, "F4-1", nil, 100_000, 50, 1, 5_000_000},
		{1, "F128-1", nil, 100, 1, 1, 3_100},
		// What is divided is rounded down.
		{16, "F8-1", nil, 100, 1, 7, 42},
		{16, "F8-1", nil, 100, 2, 7, 85},
		{16, "F8-1", nil, 1, 1, 3, 1},
		{16, "F8-1", nil, 1, 999, 1_000, 2},
		{16, "F8-1", nil, 333, 1, 1_000, 0},
		{16, "F8-1", nil, 100, 0, 1, 0},
		{16, "F8-1", nil, 0, 1_000, 1, 0},
		{100_000, "F4-1", nil, 200, 1, 1, 4_999_800},
		{100_000, "F4-1", nil, 100_000, 2, 1_000, 4_999_800},
	} {
		j := roomy(api.Saddle, named(t, e.folds), e.pages)
		j.W, j.Last, j.Caliper, j.Num, j.Den = 1, e.last, e.caliper, e.ratio, e.divided
		j.Bleed, j.Side, j.Grip, j.Tail = 0, 0, 0, 0
		face := func(n int) api.Job {
			j.Face = n
			return j
		}
		// Wide faces have no room on the sheet, which is told behind creep.
		wide := (e.greatest+1)*j.Folds.Cols > api.MaxSize
		checkIf(t, face(e.greatest), wide, api.ErrFit)
		if e.greatest > 0 {
			check(t, face(e.greatest-1), api.ErrCreep)
			check(t, face(0), api.ErrCreep)
		}
		if !wide {
			check(t, face(e.greatest+1), api.OK)
		}
	}
}

// P23.1: nothing creeps that isn't bound by Saddle, nor can what creeps be
// great enough to go round.
func TestCreepOfOthers(t *testing.T) {
	for _, binding := range bindings {
		folds := named(t, "F4-1")
		if binding == api.Stack {
			folds.Steps = nil
		}
		for _, pages := range []int{5, 100, 100_000} {
			j := roomy(binding, folds, pages)
			j.Bleed, j.Face = 0, 0
			j.Caliper, j.Num, j.Den = 100_000, 1_000, 1
			checkIf(t, j, binding == api.Saddle, api.ErrCreep)
		}
	}
}

// stairs: bound by Perfect, with a Spine of 300, a panel 22000 high, and steps
// that may be.
func stairs(t *testing.T, at, step, wrap, wide int) api.Job {
	t.Helper()
	j := roomy(api.Perfect, named(t, "F8-1"), 100)
	j.StairAt, j.StairStep, j.StairWrap, j.StairWide = at, step, wrap, wide
	return j
}

// P23.1: bound by Perfect, each of what steps need, at its edge and beyond.
func TestStair(t *testing.T) {
	for _, e := range []struct {
		at, step, wrap, wide int
		wrong                bool
	}{
		{2_000, 500, 10, 300, false}, {2_000, 500, 10, 301, true}, {2_000, 500, 10, 299, false}, {2_000, 500, 10, 1, false}, {2_000, 500, 10, 5_000_000, true},
		{2_000, 0, 10, 200, true}, {2_000, 1, 10, 200, false}, {0, 0, 1, 1, true},
		{2_000, 2_000, 10, 200, false}, {2_001, 2_000, 10, 200, true}, {2_000, 2_001, 10, 200, true}, {2_000, 2_000, 11, 200, true}, {1_999, 2_000, 10, 200, false},
		{0, 22_000, 1, 200, false}, {0, 22_001, 1, 200, true}, {1, 22_000, 1, 200, true}, {21_999, 1, 1, 200, false}, {22_000, 1, 1, 200, true}, {21_999, 1, 2, 200, true},
		{0, 22, 1_000, 200, false}, {0, 23, 1_000, 200, true}, {1, 22, 1_000, 200, true}, {5_000_000, 1, 1, 200, true},
		{0, 5_000_000, 1_000, 200, true}, {5_000_000, 5_000_000, 1_000, 200, true}, {0, 4_294_968, 1_000, 200, true},
		// Without a width there are no steps that could be wrong.
		{2_000, 500, 10, 0, false}, {2_000, 0, 10, 0, false}, {5_000_000, 5_000_000, 1_000, 0, false}, {22_000, 1, 1, 0, false},
	} {
		checkIf(t, stairs(t, e.at, e.step, e.wrap, e.wide), e.wrong, api.ErrStair)
		// By each other binding no step stands anywhere.
		for _, binding := range bindings {
			if binding == api.Perfect {
				continue
			}
			j := stairs(t, e.at, e.step, e.wrap, e.wide)
			j.Binding, j.Spine, j.Pages = binding, 0, 16
			if binding == api.Stack {
				j.Folds.Steps = nil
			}
			check(t, j, api.OK)
			if binding != api.Saddle {
				j.Spine = 300
				check(t, j, api.OK)
			}
		}
	}
}

// P23.1: it is the panel that steps have to stay within, not the trim, nor the
// block: each of Foot, H and Head counts, and so does Spine alone of what is
// across.
func TestStairOnThePanel(t *testing.T) {
	for _, quarter := range []int{0, 1} {
		for _, name := range []string{"F4-1", "F4-2", "F16-2"} {
			for _, e := range []struct{ foot, h, head, spine, wide int }{
				{500, 21_000, 500, 300, 300}, {300, 100, 21_600, 1, 1}, {21_600, 100, 300, 5_000, 5_000}, {300, 21_400, 300, 40_000, 40_000},
			} {
				j := stairs(t, 2_000, 2_000, 10, e.wide)
				j.Folds, j.Quarter = named(t, name), quarter
				j.Foot, j.H, j.Head, j.Spine = e.foot, e.h, e.head, e.spine
				check(t, j, api.OK)
				for i, lower := range []func(*api.Job){
					func(j *api.Job) { j.H-- }, func(j *api.Job) { j.Foot--; j.Bleed = 0 }, func(j *api.Job) { j.Head--; j.Bleed = 0 }, func(j *api.Job) { j.Spine-- },
				} {
					k := j
					lower(&k)
					if Check(k) != api.ErrStair {
						t.Fatalf("%d: Check(%+v) = %d", i, brief(k), Check(k))
					}
				}
			}
		}
	}
}

// closely: a job whose block, of 3 by 2 panels of 13 by 14 (or 39 by 28), is just
// as wide and as high as the Region of a sheet of w by h.
func closely(t *testing.T, style, quarter, w, h int) api.Job {
	t.Helper()
	j := roomy(api.Perfect, named(t, "F12-1"), 100)
	j.W, j.H, j.Bleed = 10, 7, 1
	j.Spine, j.Face, j.Foot, j.Head = 1, 2, 4, 3
	j.Side, j.Grip, j.Tail = 7, 30, 11
	j.StairWide, j.Style, j.Quarter, j.SheetW, j.SheetH = 0, style, quarter, w, h
	return j
}

// P23.1: a block just as wide, or as high, as the Region, and one too great,
// by each style and Quarter.
func TestFit(t *testing.T) {
	for _, e := range []struct{ style, quarter, w, h int }{
		{1, 0, 53, 69}, {2, 0, 53, 88}, {3, 0, 92, 69}, {4, 0, 53, 116},
		{1, 1, 42, 80}, {2, 1, 42, 99}, {3, 1, 70, 80}, {4, 1, 42, 138},
		{1, 2, 53, 69}, {2, 2, 53, 88}, {3, 2, 92, 69}, {4, 2, 53, 116},
		{1, 3, 42, 80}, {2, 3, 42, 99}, {3, 3, 70, 80}, {4, 3, 42, 138},
	} {
		check(t, closely(t, e.style, e.quarter, e.w, e.h), api.OK)
		check(t, closely(t, e.style, e.quarter, e.w-1, e.h), api.ErrFit)
		check(t, closely(t, e.style, e.quarter, e.w, e.h-1), api.ErrFit)
		check(t, closely(t, e.style, e.quarter, e.w+1, e.h+1), api.OK)
		check(t, closely(t, e.style, e.quarter, 1, 1), api.ErrFit)
		for _, more := range []func(*api.Job){
			func(j *api.Job) { j.W++ }, func(j *api.Job) { j.H++ }, func(j *api.Job) { j.Spine++ }, func(j *api.Job) { j.Face++ },
			func(j *api.Job) { j.Foot++ }, func(j *api.Job) { j.Head++ }, func(j *api.Job) { j.Side++ }, func(j *api.Job) { j.Grip++ },
			func(j *api.Job) { j.Folds = named(t, "F24-2") }, func(j *api.Job) { j.Folds = named(t, "F24-1") }, func(j *api.Job) { j.Binding = api.ComeGo },
		} {
			j := closely(t, e.style, e.quarter, e.w, e.h)
			more(&j)
			check(t, j, api.ErrFit)
		}
	}
}

// P23.1: the block of each signature has to fit: that of all but the last one,
// that of the last one alone; what is no signature's need not.
func TestFitOfEachSignature(t *testing.T) {
	for _, e := range []struct {
		binding, pages, w, h int
		folds                string
		last                 []string
		wrong                bool
	}{
		// Two panels wide and high; the last one is two by one, or three by one.
		{api.Perfect, 20, 2, 2, "F8-1", []string{"F4-1"}, false},
		{api.Perfect, 20, 2, 1, "F8-1", []string{"F4-1"}, true},
		{api.Perfect, 4, 2, 1, "F8-1", []string{"F4-1"}, false},
		{api.Perfect, 1, 2, 1, "F8-1", []string{"F4-1"}, false},
		{api.Perfect, 5, 2, 1, "F8-1", []string{"F4-1"}, true},
		{api.Perfect, 4, 1, 1, "F8-1", []string{"F4-1"}, true},
		{api.Perfect, 9, 2, 1, "F8-1", []string{"F4-1"}, true},
		{api.Perfect, 22, 2, 2, "F8-1", []string{"F6-1"}, true},
		{api.Perfect, 22, 3, 2, "F8-1", []string{"F6-1"}, false},
		{api.Perfect, 6, 3, 1, "F8-1", []string{"F6-1"}, false},
		{api.Perfect, 14, 3, 1, "F8-1", []string{"F6-1"}, true},
		{api.Perfect, 24, 2, 2, "F8-1", []string{"F6-1"}, false},
		{api.Perfect, 23, 2, 2, "F8-1", []string{"F6-1"}, false},
		{api.Perfect, 18, 2, 2, "F8-1", []string{"F6-1", "F4-1", "F2-1"}, false},
		{api.Perfect, 22, 2, 2, "F8-1", []string{"F4-1", "F6-1"}, true},
		{api.Perfect, 99_998, 2, 2, "F8-1", []string{"F6-1"}, true},
		{api.Perfect, 99_999, 2, 2, "F8-1", []string{"F6-1"}, false},
		{api.Perfect, 100_000, 1, 9, "F8-1", nil, true},
		// Two panels wide, four high; the last one is four by one.
		{api.Saddle, 24, 2, 4, "F16-2", []string{"F8-2"}, true},
		{api.Saddle, 24, 4, 4, "F16-2", []string{"F8-2"}, false},
		{api.Saddle, 25, 2, 4, "F16-2", []string{"F8-2"}, false},
		{api.Saddle, 8, 4, 1, "F16-2", []string{"F8-2"}, false},
		{api.Saddle, 40, 4, 1, "F16-2", []string{"F8-2"}, true},
		{api.Saddle, 20, 2, 4, "F16-2", []string{"F8-2", "F4-1"}, false},
		// Of two that are as great the first one is taken.
		{api.Saddle, 24, 2, 4, "F16-2", []string{"F8-1", "F8-2"}, false},
		{api.Saddle, 24, 2, 4, "F16-2", []string{"F8-2", "F8-1"}, true},
		// There are none to choose from.
		{api.ComeGo, 4, 2, 3, "F8-1", nil, true},
		{api.ComeGo, 4, 2, 4, "F8-1", nil, false},
		{api.Stack, 1, 2, 4, "4x2", nil, true},
		{api.Stack, 1, 4, 2, "4x2", nil, false},
	} {
		j := roomy(e.binding, plain(4, 2), e.pages)
		if e.binding != api.Stack {
			j.Folds = named(t, e.folds)
		}
		j.Last, j.Spine, j.StairWide = e.last, 0, 0
		j.Side, j.Grip, j.Tail, j.SheetW, j.SheetH = 0, 0, 0, 15_300*e.w, 22_000*e.h
		checkIf(t, j, e.wrong, api.ErrFit)
		// The usual job's sheet, turned: both numbers change places.
		j.Quarter, j.SheetW, j.SheetH = 1, j.SheetH, j.SheetW
		checkIf(t, j, e.wrong, api.ErrFit)
	}
}

// fault: what makes a job wrong, whatever else is wrong with it.
type fault struct {
	errno api.Errno
	lay   func(j *api.Job)
}

// faults: several of each error that a job so bound may have.
func faults(binding int) []fault {
	l := []fault{
		{api.ErrForm, func(j *api.Job) { j.Title = "a\x1f" }},
		{api.ErrForm, func(j *api.Job) { j.Title = strings.Repeat("a", 61) }},
		{api.ErrRange, func(j *api.Job) { j.MarkLen = -1 }},
		{api.ErrRange, func(j *api.Job) { j.Pages = 0 }},
		{api.ErrRange, func(j *api.Job) { j.Den = 0 }},
		{api.ErrRange, func(j *api.Job) { j.Quarter = 4 }},
		{api.ErrRange, func(j *api.Job) { j.StairWrap = 1_001 }},
		{api.ErrFold, func(j *api.Job) { j.Folds.Cols = 65 }},
		{api.ErrFold, func(j *api.Job) { j.Folds.Rows = 0 }},
		{api.ErrFold, func(j *api.Job) {
			j.Folds.Steps = append(j.Folds.Steps[:len(j.Folds.Steps):len(j.Folds.Steps)], api.Step{Side: 5})
		}},
		{api.ErrLast, func(j *api.Job) { j.Last = []string{"F9-1"} }},
		{api.ErrLast, func(j *api.Job) { j.Last = []string{"F4-1", "F128-1"} }},
		{api.ErrLast, func(j *api.Job) { j.Last = make([]string, 5) }},
		{api.ErrBleed, func(j *api.Job) { j.Bleed = 501 }},
		{api.ErrBleed, func(j *api.Job) { j.Head = 0 }},
		{api.ErrBleed, func(j *api.Job) { j.Foot = 299 }},
		{api.ErrFit, func(j *api.Job) { j.SheetW = 1 }},
		{api.ErrFit, func(j *api.Job) { j.SheetH = 30_000 }},
		{api.ErrFit, func(j *api.Job) { j.Side = 5_000_000 }},
		{api.ErrFit, func(j *api.Job) { j.Grip = 4_990_000 }},
	}
	if binding == api.Saddle {
		l = append(l,
			fault{api.ErrSpine, func(j *api.Job) { j.Spine = 1 }},
			fault{api.ErrSpine, func(j *api.Job) { j.Folds, _ = scheme.Find("F12-1") }},
			fault{api.ErrCreep, func(j *api.Job) { j.Caliper, j.Num = 100_000, 1_000 }},
			fault{api.ErrCreep, func(j *api.Job) { j.Caliper, j.Face = 10_000, 300 }})
	}
	if binding == api.Perfect {
		l = append(l,
			fault{api.ErrStair, func(j *api.Job) { j.StairWide = 301 }},
			fault{api.ErrStair, func(j *api.Job) { j.StairStep = 0 }},
			fault{api.ErrStair, func(j *api.Job) { j.StairAt = 5_000_000 }},
			fault{api.ErrStair, func(j *api.Job) { j.StairStep, j.StairWrap = 50, 1_000 }})
	}
	slices.SortStableFunc(l, func(a, b fault) int { return int(a.errno) - int(b.errno) })
	return l
}

// whole: a job with nothing wrong, so bound.
func whole(t *testing.T, binding int) api.Job {
	t.Helper()
	folds := named(t, "F8-1")
	if binding == api.Stack {
		folds.Steps = nil
	}
	j := roomy(binding, folds, 100)
	check(t, j, api.OK)
	return j
}

// P23.1: each of the errors alone, and two at once, of which the first one is
// told. (No job has both of ErrSpine, or ErrCreep, and ErrStair: the former
// are of jobs bound by Saddle, the latter of those bound by Perfect.)
func TestEachErrorAndEachTwo(t *testing.T) {
	pairs := map[[2]api.Errno]int{}
	for _, binding := range bindings {
		l := faults(binding)
		for i, first := range l {
			j := whole(t, binding)
			first.lay(&j)
			check(t, j, first.errno)
			pairs[[2]api.Errno{first.errno, first.errno}]++
			for _, other := range l[i+1:] {
				j := whole(t, binding)
				other.lay(&j)
				check(t, j, other.errno)
				first.lay(&j)
				check(t, j, first.errno)
				pairs[[2]api.Errno{first.errno, other.errno}]++
			}
		}
	}
	all := []api.Errno{api.ErrForm, api.ErrRange, api.ErrFold, api.ErrSpine, api.ErrLast, api.ErrBleed, api.ErrCreep, api.ErrStair, api.ErrFit}
	for i, a := range all {
		for _, b := range all[i:] {
			apart := b == api.ErrStair && (a == api.ErrSpine || a == api.ErrCreep)
			if n := pairs[[2]api.Errno{a, b}]; (n > 0) == apart {
				t.Fatalf("%d jobs with both %d and %d", n, a, b)
			}
		}
	}
}

// P23.1: of any errors at once the first one is told.
func TestAnyErrorsAtOnce(t *testing.T) {
	for _, binding := range bindings {
		var one []fault
		for _, f := range faults(binding) {
			if len(one) == 0 || one[len(one)-1].errno != f.errno {
				one = append(one, f)
			}
		}
		for set := range 1 << len(one) {
			j, first := whole(t, binding), api.OK
			for i := len(one) - 1; i >= 0; i-- {
				if set>>i&1 == 1 {
					one[i].lay(&j)
					first = one[i].errno
				}
			}
			check(t, j, first)
		}
	}
}

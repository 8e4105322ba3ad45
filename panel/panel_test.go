package panel

import (
	"math"
	"testing"

	"gatherum/api"
	"gatherum/bounds"
)

const (
	lowest  = math.MinInt
	highest = math.MaxInt
)

// wrongs: numbers that no panel and no copy has; some of them have small
// products with others, if these go round.
var wrongs = [...]int{-5_000_001, 5_000_001, -1 << 31, 1 << 31, 1 << 32, 1<<32 + 1, -1 << 32, 1 - 1<<32, 1 << 62, 1<<62 + 1, -1 << 62,
	highest/2 + 1, highest - 1, highest, lowest/2 - 1, lowest + 1, lowest}

// flips: the four ways in which a leaf may be flipped; on the leaf that it is
// nothing hangs.
var flips = [...]api.Panel{{}, {Leaf: 3, FlipX: true}, {Leaf: highest, FlipY: true}, {Leaf: -1, FlipX: true, FlipY: true}}

// sides: a recto, and a verso.
var sides = [...]bool{true, false}

// uneven: a job whose margins are all unlike; a panel is 153 wide, 1027 high.
func uneven() api.Job {
	j := bounds.Usual()
	j.W, j.H, j.Spine, j.Face, j.Foot, j.Head, j.Bleed = 100, 1000, 3, 50, 7, 20, 2
	j.Box = api.Point{X: 11, Y: -13}
	return j
}

// plain: a scheme with so many columns and rows, and no steps.
func plain(cols, rows int) api.Scheme {
	return api.Scheme{Cols: cols, Rows: rows}
}

func checkSize(t *testing.T, j api.Job, w, h int) {
	t.Helper()
	if a, b := Size(j); a != w || b != h {
		t.Fatalf("Size(%+v) = %d, %d; meant: %d, %d", j, a, b, w, h)
	}
}

func checkBlock(t *testing.T, j api.Job, s api.Scheme, copies, w, h int) {
	t.Helper()
	if a, b := Block(j, s, copies); a != w || b != h {
		t.Fatalf("Block(%+v, %+v, %d) = %d, %d; meant: %d, %d", j, s, copies, a, b, w, h)
	}
}

func checkBox(t *testing.T, j api.Job, s api.Scheme, copy, panel int, meant api.Rect) {
	t.Helper()
	if r := Box(j, s, copy, panel); r != meant {
		t.Fatalf("Box(%+v, %+v, %d, %d) = %v; meant: %v", j, s, copy, panel, r, meant)
	}
}

func checkLies(t *testing.T, j api.Job, s api.Scheme, copy, panel int, p api.Panel, meant api.Place) {
	t.Helper()
	if a := Lies(j, s, copy, panel, p); a != meant {
		t.Fatalf("Lies(%+v, %+v, %d, %d, %+v) = %v; meant: %v", j, s, copy, panel, p, a, meant)
	}
}

// checkNone: s has no such panel, or a block no such copy.
func checkNone(t *testing.T, j api.Job, s api.Scheme, copy, panel int) {
	t.Helper()
	checkBox(t, j, s, copy, panel, api.Rect{})
	for _, p := range flips {
		checkLies(t, j, s, copy, panel, p, api.Place{})
	}
}

func checkReader(t *testing.T, j api.Job, recto bool, meant api.Place) {
	t.Helper()
	if a := Reader(j, recto); a != meant {
		t.Fatalf("Reader(%+v, %v) = %v; meant: %v", j, recto, a, meant)
	}
}

func checkTrim(t *testing.T, j api.Job, recto bool, meant api.Rect) {
	t.Helper()
	if r := Trim(j, recto); r != meant {
		t.Fatalf("Trim(%+v, %v) = %v; meant: %v", j, recto, r, meant)
	}
}

func checkClip(t *testing.T, j api.Job, recto bool, meant api.Rect) {
	t.Helper()
	if r := Clip(j, recto); r != meant {
		t.Fatalf("Clip(%+v, %v) = %v; meant: %v", j, recto, r, meant)
	}
}

func checkSource(t *testing.T, j api.Job, recto bool, creep int, meant api.Place) {
	t.Helper()
	if a := Source(j, recto, creep); a != meant {
		t.Fatalf("Source(%+v, %v, %d) = %v; meant: %v", j, recto, creep, a, meant)
	}
}

// P20.2: the chapter's example: without a flip a panel's lower left corner
// comes to 0 0.
func TestExample(t *testing.T) {
	j := bounds.Usual()
	checkLies(t, j, j.Folds, 0, 0, api.Panel{}, api.Place{})
	checkLies(t, j, j.Folds, 0, 1, api.Panel{}, api.Place{X: -153_000})
	checkLies(t, j, j.Folds, 0, 2, api.Panel{}, api.Place{Y: -220_000})
	checkLies(t, j, j.Folds, 0, 3, api.Panel{}, api.Place{X: -153_000, Y: -220_000})
	checkLies(t, j, j.Folds, 1, 0, api.Panel{}, api.Place{Y: -440_000})
	checkLies(t, j, j.Folds, 1, 3, api.Panel{}, api.Place{X: -153_000, Y: -660_000})
}

// P20.1, P20.2: the usual job, whole.
func TestTheUsualJob(t *testing.T) {
	j := bounds.Usual()
	checkSize(t, j, 153_000, 220_000)
	checkBlock(t, j, j.Folds, 1, 306_000, 440_000)
	checkBlock(t, j, j.Folds, 2, 306_000, 880_000)
	checkBox(t, j, j.Folds, 0, 0, api.Rect{X1: 153_000, Y1: 220_000})
	checkBox(t, j, j.Folds, 0, 1, api.Rect{X0: 153_000, X1: 306_000, Y1: 220_000})
	checkBox(t, j, j.Folds, 0, 2, api.Rect{Y0: 220_000, X1: 153_000, Y1: 440_000})
	checkBox(t, j, j.Folds, 0, 3, api.Rect{X0: 153_000, Y0: 220_000, X1: 306_000, Y1: 440_000})
	checkReader(t, j, true, api.Place{})
	checkReader(t, j, false, api.Place{Turn: 4, X: 153_000})
	checkTrim(t, j, true, api.Rect{Y0: 5_000, X1: 148_000, Y1: 215_000})
	checkTrim(t, j, false, api.Rect{X0: 5_000, Y0: 5_000, X1: 153_000, Y1: 215_000})
	checkClip(t, j, true, api.Rect{Y0: 2_000, X1: 151_000, Y1: 218_000})
	checkClip(t, j, false, api.Rect{X0: 2_000, Y0: 2_000, X1: 153_000, Y1: 218_000})
	checkSource(t, j, true, 0, api.Place{Y: 5_000})
	checkSource(t, j, true, 300, api.Place{X: -300, Y: 5_000})
	checkSource(t, j, false, 0, api.Place{X: 5_000, Y: 5_000})
	checkSource(t, j, false, 300, api.Place{X: 5_300, Y: 5_000})
}

// P20.1: a panel's size, of margins that are all unlike, each of which is 0 in
// turn.
func TestSize(t *testing.T) {
	checkSize(t, uneven(), 153, 1027)
	for _, e := range []struct {
		set  func(*api.Job)
		w, h int
	}{
		{func(j *api.Job) { j.W = 0 }, 53, 1027}, {func(j *api.Job) { j.Spine = 0 }, 150, 1027}, {func(j *api.Job) { j.Face = 0 }, 103, 1027},
		{func(j *api.Job) { j.H = 0 }, 153, 27}, {func(j *api.Job) { j.Foot = 0 }, 153, 1020}, {func(j *api.Job) { j.Head = 0 }, 153, 1007},
		{func(j *api.Job) { j.Bleed = 0 }, 153, 1027}, {func(j *api.Job) { j.Bleed = 50 }, 153, 1027},
		{func(j *api.Job) { j.W, j.H = 1, 1 }, 54, 28}, {func(j *api.Job) { j.W, j.H = 5_000_000, 5_000_000 }, 5_000_053, 5_000_027},
		{func(j *api.Job) { *j = api.Job{} }, 0, 0}, {func(j *api.Job) { j.W = -60 }, -7, 1027}, {func(j *api.Job) { j.Head = -2_000 }, 153, -993},
	} {
		j := uneven()
		e.set(&j)
		checkSize(t, j, e.w, e.h)
	}
}

// P20.1: blocks of one panel, of one row, of one column and of many of both;
// no copy, one copy and two.
func TestBlock(t *testing.T) {
	for _, e := range []struct{ cols, rows, w, h int }{
		{1, 1, 153, 1027}, {2, 1, 306, 1027}, {1, 2, 153, 2054}, {3, 2, 459, 2054}, {2, 3, 306, 3081}, {8, 8, 1224, 8216},
		{64, 1, 9792, 1027}, {1, 64, 153, 65_728}, {64, 64, 9792, 65_728}, {0, 1, 0, 1027}, {1, 0, 153, 0}, {0, 0, 0, 0}, {65, 66, 9945, 67_782}, {-1, 1, -153, 1027}, {1, -1, 153, -1027},
	} {
		for _, copies := range []int{0, 1, 2, 3, -1, 64} {
			checkBlock(t, uneven(), plain(e.cols, e.rows), copies, e.w, copies*e.h)
		}
	}
}

// P20.1: panels are counted from 0 at the left and below, row by row.
func TestBox(t *testing.T) {
	s := plain(3, 2)
	for panel, meant := range []api.Rect{
		{X0: 0, Y0: 0, X1: 153, Y1: 1027}, {X0: 153, Y0: 0, X1: 306, Y1: 1027}, {X0: 306, Y0: 0, X1: 459, Y1: 1027},
		{X0: 0, Y0: 1027, X1: 153, Y1: 2054}, {X0: 153, Y0: 1027, X1: 306, Y1: 2054}, {X0: 306, Y0: 1027, X1: 459, Y1: 2054},
	} {
		checkBox(t, uneven(), s, 0, panel, meant)
		meant.Y0 += 2054
		meant.Y1 += 2054
		checkBox(t, uneven(), s, 1, panel, meant)
	}
	checkBox(t, uneven(), plain(1, 1), 0, 0, api.Rect{X1: 153, Y1: 1027})
	checkBox(t, uneven(), plain(1, 1), 1, 0, api.Rect{Y0: 1027, X1: 153, Y1: 2054})
	checkBox(t, uneven(), plain(4, 1), 0, 3, api.Rect{X0: 459, X1: 612, Y1: 1027})
	checkBox(t, uneven(), plain(4, 1), 1, 3, api.Rect{X0: 459, Y0: 1027, X1: 612, Y1: 2054})
	checkBox(t, uneven(), plain(1, 4), 0, 3, api.Rect{Y0: 3081, X1: 153, Y1: 4108})
	checkBox(t, uneven(), plain(1, 4), 1, 3, api.Rect{Y0: 7189, X1: 153, Y1: 8216})
	checkBox(t, uneven(), plain(64, 64), 0, 4095, api.Rect{X0: 9639, Y0: 64_701, X1: 9792, Y1: 65_728})
	checkBox(t, uneven(), plain(64, 64), 1, 4095, api.Rect{X0: 9639, Y0: 130_429, X1: 9792, Y1: 131_456})
}

// P20.2: a leaf lies with its lower left corner at 0 0, mirrored as it was
// flipped.
func TestLies(t *testing.T) {
	s := plain(3, 2)
	for _, e := range []struct {
		copy, panel int
		meant       [4]api.Place
	}{
		{0, 0, [4]api.Place{{}, {Turn: 4, X: 153}, {Turn: 6, Y: 1027}, {Turn: 2, X: 153, Y: 1027}}},
		{0, 1, [4]api.Place{{X: -153}, {Turn: 4, X: 306}, {Turn: 6, X: -153, Y: 1027}, {Turn: 2, X: 306, Y: 1027}}},
		{0, 5, [4]api.Place{{X: -306, Y: -1027}, {Turn: 4, X: 459, Y: -1027}, {Turn: 6, X: -306, Y: 2054}, {Turn: 2, X: 459, Y: 2054}}},
		{1, 0, [4]api.Place{{Y: -2054}, {Turn: 4, X: 153, Y: -2054}, {Turn: 6, Y: 3081}, {Turn: 2, X: 153, Y: 3081}}},
		{1, 5, [4]api.Place{{X: -306, Y: -3081}, {Turn: 4, X: 459, Y: -3081}, {Turn: 6, X: -306, Y: 4108}, {Turn: 2, X: 459, Y: 4108}}},
	} {
		for i, p := range flips {
			checkLies(t, uneven(), s, e.copy, e.panel, p, e.meant[i])
		}
	}
}

// P20.1, P20.2: the first panel and the last one, and those beyond; copies -1,
// 0, 1 and 2.
func TestNoSuchPanelOrCopy(t *testing.T) {
	j := uneven()
	for _, s := range []api.Scheme{j.Folds, plain(1, 1), plain(4, 1), plain(1, 4), plain(3, 2), plain(2, 3), plain(64, 64), plain(1, 64), plain(64, 1)} {
		n := s.Cols * s.Rows
		for copy := -2; copy <= 3; copy++ {
			for _, panel := range []int{-2, -1, 0, n - 1, n, n + 1, 2*n - 1, 2 * n} {
				has := copy >= 0 && copy <= 1 && panel >= 0 && panel < n
				if !has {
					checkNone(t, j, s, copy, panel)
				} else if Box(j, s, copy, panel) == (api.Rect{}) || Lies(j, s, copy, panel, flips[1]) == (api.Place{}) {
					t.Fatalf("panel %d, copy %d of %+v: none", panel, copy, s)
				}
			}
			for _, w := range wrongs {
				checkNone(t, j, s, copy, w)
			}
		}
		for _, w := range wrongs {
			checkNone(t, j, s, w, 0)
			checkNone(t, j, s, w, n-1)
		}
	}
}

// P20.1, P20.2: copies are told of any job, however it is bound.
func TestBindingsChangeNothing(t *testing.T) {
	for binding := -1; binding <= 5; binding++ {
		j := uneven()
		j.Binding = binding
		checkBlock(t, j, plain(3, 2), 1, 459, 2054)
		checkBlock(t, j, plain(3, 2), 2, 459, 4108)
		checkBox(t, j, plain(3, 2), 1, 4, api.Rect{X0: 153, Y0: 3081, X1: 306, Y1: 4108})
		checkLies(t, j, plain(3, 2), 1, 4, api.Panel{}, api.Place{X: -153, Y: -3081})
	}
}

// P20.2: who reads sees a verso turned over.
func TestReader(t *testing.T) {
	checkReader(t, uneven(), true, api.Place{})
	checkReader(t, uneven(), false, api.Place{Turn: 4, X: 153})
	checkReader(t, api.Job{}, false, api.Place{Turn: 4})
}

// P20.2: the trim stands beside the spine of a recto, beside the face of a
// verso.
func TestTrim(t *testing.T) {
	checkTrim(t, uneven(), true, api.Rect{X0: 3, Y0: 7, X1: 103, Y1: 1007})
	checkTrim(t, uneven(), false, api.Rect{X0: 50, Y0: 7, X1: 150, Y1: 1007})
	for _, bleed := range append(wrongs[:], 0, 1) {
		j := uneven()
		j.Bleed = bleed
		checkTrim(t, j, true, api.Rect{X0: 3, Y0: 7, X1: 103, Y1: 1007})
		checkTrim(t, j, false, api.Rect{X0: 50, Y0: 7, X1: 150, Y1: 1007})
	}
}

// P20.2: no Bleed, one within all margins, as great as each of them, and
// greater: it is not cut off.
func TestClip(t *testing.T) {
	for _, bleed := range []int{0, 1, 2, 3, 7, 20, 50, 51, 5_000_000, -1, -200} {
		j := uneven()
		j.Bleed = bleed
		checkClip(t, j, true, api.Rect{X0: 3, Y0: 7 - bleed, X1: 103 + bleed, Y1: 1007 + bleed})
		checkClip(t, j, false, api.Rect{X0: 50 - bleed, Y0: 7 - bleed, X1: 150, Y1: 1007 + bleed})
	}
	j := uneven()
	j.Bleed = 7
	checkClip(t, j, true, api.Rect{X0: 3, Y0: 0, X1: 110, Y1: 1014})
	checkClip(t, j, false, api.Rect{X0: 43, Y0: 0, X1: 150, Y1: 1014})
	j.Bleed = 50
	checkClip(t, j, true, api.Rect{X0: 3, Y0: -43, X1: 153, Y1: 1057})
	checkClip(t, j, false, api.Rect{X0: 0, Y0: -43, X1: 150, Y1: 1057})
}

// P20.2: a page's trim, which begins at 11 -13, comes to 3 7, and 50 7; creep
// above 0 goes to the spine, creep below 0 away from it.
func TestSource(t *testing.T) {
	for _, creep := range []int{0, 1, 5, 8, 300, -1, -8, -300, 2_502_300_000_000} {
		checkSource(t, uneven(), true, creep, api.Place{X: -8 - creep, Y: 20})
		checkSource(t, uneven(), false, creep, api.Place{X: 39 + creep, Y: 20})
	}
	j := uneven()
	j.Box = api.Point{X: -5_000_000, Y: 5_000_000}
	checkSource(t, j, true, 10, api.Place{X: 4_999_993, Y: -4_999_993})
	checkSource(t, j, false, 10, api.Place{X: 5_000_060, Y: -4_999_993})
}

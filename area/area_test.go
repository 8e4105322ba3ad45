package area

import (
	"math"
	"slices"
	"testing"

	"gatherum/api"
	"gatherum/bounds"
	"gatherum/place"
	"gatherum/scheme"
)

const (
	lowest  = math.MinInt
	highest = math.MaxInt
)

// styles: all there are, in order.
var styles = [...]int{api.Sheetwise, api.Perfecting, api.WorkTurn, api.WorkTumble}

// limits: from what to what each number of a job may be, in order.
var limits = [...][2]int{
	{1, 100_000}, {-5_000_000, 5_000_000}, {-5_000_000, 5_000_000}, {1, 5_000_000}, {1, 5_000_000},
	{0, 5_000_000}, {0, 5_000_000}, {0, 5_000_000}, {0, 5_000_000}, {0, 5_000_000},
	{1, 4}, {1, 4}, {1, 5_000_000}, {1, 5_000_000}, {0, 5_000_000}, {0, 5_000_000}, {0, 5_000_000},
	{0, 100_000}, {0, 1_000}, {1, 1_000}, {0, 3}, {0, 5_000_000}, {0, 5_000_000}, {0, 5_000_000},
	{0, 5_000_000}, {0, 5_000_000}, {1, 1_000}, {0, 5_000_000},
}

// noSides: what no scheme may have as its Cols, or Rows; some are one only in
// what a lesser kind of number would keep of them.
var noSides = [...]int{0, 65, 66, 128, -1, -2, -64, -65, 256, 257, 1<<16 + 2, 1 << 31, 1<<32 + 3, -1 << 32, 3 - 1<<32, 1 << 62, 1<<62 + 2, -1 << 62, lowest, lowest + 3, highest}

// noPlates: what is no side of any sheet.
var noPlates = [...]int{0, 3, 4, -1, -2, 5, 257, 258, -254, 1<<32 + 1, 1<<32 + 2, 1 << 62, lowest, lowest + 1, lowest + 2, highest}

// plain: so many panels, never folded.
func plain(cols, rows int) api.Scheme {
	return api.Scheme{Cols: cols, Rows: rows}
}

// uneven: a job whose panels are 13 by 14, on a sheet whose edges are all
// unlike: a block of 3 by 2 panels is 39 by 28.
func uneven(style, quarter, sheetW, sheetH int) api.Job {
	j := bounds.Usual()
	j.W, j.H, j.Bleed = 10, 7, 1
	j.Spine, j.Face, j.Foot, j.Head = 1, 2, 4, 3
	j.Side, j.Grip, j.Tail = 7, 30, 11
	j.Binding, j.Style, j.Quarter, j.SheetW, j.SheetH = api.Perfect, style, quarter, sheetW, sheetH
	return j
}

func checkOuter(t *testing.T, j api.Job, s api.Scheme, width, height int) {
	t.Helper()
	if w, h := Outer(j, s); w != width || h != height {
		t.Fatalf("Outer(%+v, %+v) = %d, %d; meant: %d, %d", j, s, w, h, width, height)
	}
}

func checkFits(t *testing.T, j api.Job, s api.Scheme, meant bool) {
	t.Helper()
	if ok := Fits(j, s); ok != meant {
		t.Fatalf("Fits(%+v, %+v) = %v", j, s, ok)
	}
}

func checkPlaces(t *testing.T, j api.Job, s api.Scheme, at, back api.Place) {
	t.Helper()
	if a := At(j, s); a != at {
		t.Fatalf("At(%+v, %+v) = %v; meant: %v", j, s, a, at)
	}
	if a := Back(j, s); a != back {
		t.Fatalf("Back(%+v, %+v) = %v; meant: %v", j, s, a, back)
	}
}

func checkBlocks(t *testing.T, j api.Job, s api.Scheme, side int, meant ...api.Rect) {
	t.Helper()
	if l := Blocks(j, s, side); !slices.Equal(l, meant) {
		t.Fatalf("Blocks(%+v, %+v, %d) = %v; meant: %v", j, s, side, l, meant)
	}
}

// checkNothing: of what may not be all is 0, false, zero, nothing.
func checkNothing(t *testing.T, j api.Job, s api.Scheme) {
	t.Helper()
	checkOuter(t, j, s, 0, 0)
	checkFits(t, j, s, false)
	checkPlaces(t, j, s, api.Place{}, api.Place{})
	for side := range 4 {
		checkBlocks(t, j, s, side)
	}
}

// checkThere: there is a block, wherever it lies.
func checkThere(t *testing.T, j api.Job, s api.Scheme) {
	t.Helper()
	if w, h := Outer(j, s); w < 1 || h < 1 {
		t.Fatalf("Outer(%+v, %+v) = %d, %d", j, s, w, h)
	}
	if At(j, s) == (api.Place{}) || Back(j, s) == (api.Place{}) || len(Blocks(j, s, 1)) == 0 {
		t.Fatalf("%+v, %+v: no block", j, s)
	}
}

// P22.1, P22.2: the usual job, by each style, and each Quarter.
func TestTheUsualJob(t *testing.T) {
	for _, e := range []struct {
		style, quarter int
		fits           bool
		at, back       api.Place
		front, behind  api.Rect
	}{
		{1, 0, true, api.Place{Turn: 0, X: 167_000, Y: 232_000}, api.Place{Turn: 4, X: 473_000, Y: 232_000}, api.Rect{X0: 167_000, Y0: 232_000, X1: 473_000, Y1: 672_000}, api.Rect{X0: 167_000, Y0: 232_000, X1: 473_000, Y1: 672_000}},
		{1, 1, true, api.Place{Turn: 1, X: 540_000, Y: 299_000}, api.Place{Turn: 7, X: 100_000, Y: 299_000}, api.Rect{X0: 100_000, Y0: 299_000, X1: 540_000, Y1: 605_000}, api.Rect{X0: 100_000, Y0: 299_000, X1: 540_000, Y1: 605_000}},
		{1, 2, true, api.Place{Turn: 2, X: 473_000, Y: 672_000}, api.Place{Turn: 6, X: 167_000, Y: 672_000}, api.Rect{X0: 167_000, Y0: 232_000, X1: 473_000, Y1: 672_000}, api.Rect{X0: 167_000, Y0: 232_000, X1: 473_000, Y1: 672_000}},
		{1, 3, true, api.Place{Turn: 3, X: 100_000, Y: 605_000}, api.Place{Turn: 5, X: 540_000, Y: 605_000}, api.Rect{X0: 100_000, Y0: 299_000, X1: 540_000, Y1: 605_000}, api.Rect{X0: 100_000, Y0: 299_000, X1: 540_000, Y1: 605_000}},
		{2, 0, true, api.Place{Turn: 0, X: 167_000, Y: 230_000}, api.Place{Turn: 6, X: 167_000, Y: 670_000}, api.Rect{X0: 167_000, Y0: 230_000, X1: 473_000, Y1: 670_000}, api.Rect{X0: 167_000, Y0: 230_000, X1: 473_000, Y1: 670_000}},
		{2, 1, true, api.Place{Turn: 1, X: 540_000, Y: 297_000}, api.Place{Turn: 5, X: 540_000, Y: 603_000}, api.Rect{X0: 100_000, Y0: 297_000, X1: 540_000, Y1: 603_000}, api.Rect{X0: 100_000, Y0: 297_000, X1: 540_000, Y1: 603_000}},
		{2, 2, true, api.Place{Turn: 2, X: 473_000, Y: 670_000}, api.Place{Turn: 4, X: 473_000, Y: 230_000}, api.Rect{X0: 167_000, Y0: 230_000, X1: 473_000, Y1: 670_000}, api.Rect{X0: 167_000, Y0: 230_000, X1: 473_000, Y1: 670_000}},
		{2, 3, true, api.Place{Turn: 3, X: 100_000, Y: 603_000}, api.Place{Turn: 7, X: 100_000, Y: 297_000}, api.Rect{X0: 100_000, Y0: 297_000, X1: 540_000, Y1: 603_000}, api.Rect{X0: 100_000, Y0: 297_000, X1: 540_000, Y1: 603_000}},
		{3, 0, true, api.Place{Turn: 0, X: 12_000, Y: 232_000}, api.Place{Turn: 4, X: 628_000, Y: 232_000}, api.Rect{X0: 12_000, Y0: 232_000, X1: 318_000, Y1: 672_000}, api.Rect{X0: 322_000, Y0: 232_000, X1: 628_000, Y1: 672_000}},
		{3, 1, false, api.Place{Turn: 1, X: 385_000, Y: 299_000}, api.Place{Turn: 7, X: 255_000, Y: 299_000}, api.Rect{X0: -55_000, Y0: 299_000, X1: 385_000, Y1: 605_000}, api.Rect{X0: 255_000, Y0: 299_000, X1: 695_000, Y1: 605_000}},
		{3, 2, true, api.Place{Turn: 2, X: 318_000, Y: 672_000}, api.Place{Turn: 6, X: 322_000, Y: 672_000}, api.Rect{X0: 12_000, Y0: 232_000, X1: 318_000, Y1: 672_000}, api.Rect{X0: 322_000, Y0: 232_000, X1: 628_000, Y1: 672_000}},
		{3, 3, false, api.Place{Turn: 3, X: -55_000, Y: 605_000}, api.Place{Turn: 5, X: 695_000, Y: 605_000}, api.Rect{X0: -55_000, Y0: 299_000, X1: 385_000, Y1: 605_000}, api.Rect{X0: 255_000, Y0: 299_000, X1: 695_000, Y1: 605_000}},
		{4, 0, false, api.Place{Turn: 0, X: 167_000, Y: 11_000}, api.Place{Turn: 6, X: 167_000, Y: 889_000}, api.Rect{X0: 167_000, Y0: 11_000, X1: 473_000, Y1: 451_000}, api.Rect{X0: 167_000, Y0: 449_000, X1: 473_000, Y1: 889_000}},
		{4, 1, true, api.Place{Turn: 1, X: 540_000, Y: 78_000}, api.Place{Turn: 5, X: 540_000, Y: 822_000}, api.Rect{X0: 100_000, Y0: 78_000, X1: 540_000, Y1: 384_000}, api.Rect{X0: 100_000, Y0: 516_000, X1: 540_000, Y1: 822_000}},
		{4, 2, false, api.Place{Turn: 2, X: 473_000, Y: 451_000}, api.Place{Turn: 4, X: 473_000, Y: 449_000}, api.Rect{X0: 167_000, Y0: 11_000, X1: 473_000, Y1: 451_000}, api.Rect{X0: 167_000, Y0: 449_000, X1: 473_000, Y1: 889_000}},
		{4, 3, true, api.Place{Turn: 3, X: 100_000, Y: 384_000}, api.Place{Turn: 7, X: 100_000, Y: 516_000}, api.Rect{X0: 100_000, Y0: 78_000, X1: 540_000, Y1: 384_000}, api.Rect{X0: 100_000, Y0: 516_000, X1: 540_000, Y1: 822_000}},
	} {
		j := bounds.Usual()
		j.Style, j.Quarter = e.style, e.quarter
		if e.quarter%2 == 0 {
			checkOuter(t, j, j.Folds, 306_000, 440_000)
		} else {
			checkOuter(t, j, j.Folds, 440_000, 306_000)
		}
		checkFits(t, j, j.Folds, e.fits)
		checkPlaces(t, j, j.Folds, e.at, e.back)
		if e.style <= 2 {
			checkBlocks(t, j, j.Folds, 1, e.front)
			checkBlocks(t, j, j.Folds, 2, e.behind)
		} else {
			checkBlocks(t, j, j.Folds, 1, e.front, e.behind)
			checkBlocks(t, j, j.Folds, 2)
		}
	}
}

// P22.2: the chapter's example, and the other corners: by which Quarter the
// block's first corner comes to be which one of the rectangle on the front.
func TestExample(t *testing.T) {
	for quarter, name := range []string{"lower left", "lower right", "upper right", "upper left"} {
		j := uneven(api.Sheetwise, quarter, 101, 203)
		r := Blocks(j, plain(3, 2), 1)[0]
		meant := []api.Point{{X: r.X0, Y: r.Y0}, {X: r.X1, Y: r.Y0}, {X: r.X1, Y: r.Y1}, {X: r.X0, Y: r.Y1}}[quarter]
		if p := place.Do(At(j, plain(3, 2)), api.Point{}); p != meant {
			t.Fatalf("Quarter %d: 0 0 comes to %v of %v; meant: the %s corner", quarter, p, r, name)
		}
	}
}

// P22.1: just as great as the Region fits; wider or higher by one doesn't.
func TestFitsJust(t *testing.T) {
	for _, e := range []struct{ style, quarter, w, h int }{
		{1, 0, 53, 69}, {2, 0, 53, 88}, {3, 0, 92, 69}, {4, 0, 53, 116},
		{1, 1, 42, 80}, {2, 1, 42, 99}, {3, 1, 70, 80}, {4, 1, 42, 138},
		{1, 2, 53, 69}, {2, 2, 53, 88}, {3, 2, 92, 69}, {4, 2, 53, 116},
		{1, 3, 42, 80}, {2, 3, 42, 99}, {3, 3, 70, 80}, {4, 3, 42, 138},
	} {
		w, h := 39, 28
		if e.quarter%2 == 1 {
			w, h = h, w
		}
		at := func(x, y int) api.Rect { return api.Rect{X0: x, Y0: y, X1: x + w, Y1: y + h} }
		for _, d := range []struct {
			more, higher int
			fits         bool
			front        api.Rect
		}{
			{0, 0, true, at(7, 30)}, {-1, 0, false, at(6, 30)}, {0, -1, false, at(7, 29)}, {-1, -1, false, at(6, 29)},
		} {
			j := uneven(e.style, e.quarter, e.w+d.more, e.h+d.higher)
			checkOuter(t, j, plain(3, 2), w, h)
			checkFits(t, j, plain(3, 2), d.fits)
			if r := Blocks(j, plain(3, 2), 1)[0]; r != d.front {
				t.Fatalf("%+v: the block lies at %v; meant: %v", j, r, d.front)
			}
		}
	}
}

// P22.1: one column, or row, more than fits.
func TestOnePanelMore(t *testing.T) {
	for _, e := range []struct {
		cols, rows int
		fits       bool
	}{{3, 2, true}, {4, 2, false}, {3, 3, false}, {2, 2, true}, {3, 1, true}, {1, 1, true}, {1, 3, false}, {4, 1, false}, {64, 64, false}} {
		j := uneven(api.Sheetwise, 0, 53, 69)
		checkOuter(t, j, plain(e.cols, e.rows), e.cols*13, e.rows*14)
		checkFits(t, j, plain(e.cols, e.rows), e.fits)
	}
}

// P22.2: half of what is left is rounded down, of odd and of even numbers,
// and where less than nothing is left; across, and upwards.
func TestHalfOfWhatIsLeft(t *testing.T) {
	for i, half := range []int{-4, -3, -3, -2, -2, -1, -1, 0, 0, 1, 1, 2, 2, 3, 3} {
		left := i - 7
		for quarter := range 4 {
			w, h := 39, 28
			if quarter%2 == 1 {
				w, h = h, w
			}
			for _, l := range [][2]int{{left, 0}, {0, left}, {left, left}} {
				x, y := 7, 30
				if l[0] != 0 {
					x += half
				}
				if l[1] != 0 {
					y += half
				}
				j := uneven(api.Sheetwise, quarter, w+14+l[0], h+41+l[1])
				checkFits(t, j, plain(3, 2), left >= 0)
				checkBlocks(t, j, plain(3, 2), 1, api.Rect{X0: x, Y0: y, X1: x + w, Y1: y + h})
			}
		}
	}
}

// P22.2: on an odd sheet the back's block lies otherwise than the front's, by
// what the half was rounded.
func TestBackOfOddSheets(t *testing.T) {
	j := uneven(api.Sheetwise, 0, 54, 70)
	checkBlocks(t, j, plain(3, 2), 1, api.Rect{X0: 7, Y0: 30, X1: 46, Y1: 58})
	checkBlocks(t, j, plain(3, 2), 2, api.Rect{X0: 8, Y0: 30, X1: 47, Y1: 58})
	checkPlaces(t, j, plain(3, 2), api.Place{X: 7, Y: 30}, api.Place{Turn: 4, X: 47, Y: 30})
	j = uneven(api.Perfecting, 0, 54, 89)
	checkBlocks(t, j, plain(3, 2), 1, api.Rect{X0: 7, Y0: 30, X1: 46, Y1: 58})
	checkBlocks(t, j, plain(3, 2), 2, api.Rect{X0: 7, Y0: 31, X1: 46, Y1: 59})
	checkPlaces(t, j, plain(3, 2), api.Place{X: 7, Y: 30}, api.Place{Turn: 6, X: 7, Y: 59})
}

// P22.1: two copies by ComeGo, one by any other binding, whatever else the job
// says: that its folds are not right, or its last ones, or that it can't be
// bound so.
func TestCopies(t *testing.T) {
	right, _ := scheme.Find("F6-1")
	for _, folds := range []api.Scheme{right, {}, plain(3, 2), plain(65, 1), {Cols: lowest, Rows: highest, Steps: make([]api.Step, 9)}} {
		for _, last := range [][]string{nil, {"F4-1"}, {"F128-1", "", "\xff", "F4-1", "F4-1"}} {
			for _, e := range []struct{ binding, height int }{{api.Saddle, 28}, {api.Perfect, 28}, {api.Stack, 28}, {api.ComeGo, 56}} {
				j := uneven(api.Sheetwise, 0, 53, 69)
				j.Binding, j.Folds, j.Last = e.binding, folds, last
				checkOuter(t, j, plain(3, 2), 39, e.height)
				checkFits(t, j, plain(3, 2), e.height == 28)
				checkBlocks(t, j, plain(3, 2), 1, api.Rect{X0: 7, Y0: 44 - e.height/2, X1: 46, Y1: 44 + e.height/2})
				j.Quarter = 3
				checkOuter(t, j, plain(3, 2), e.height, 39)
			}
		}
	}
	j := uneven(api.Perfecting, 1, 70, 99)
	j.Binding = api.ComeGo
	checkFits(t, j, plain(3, 2), true)
	checkPlaces(t, j, plain(3, 2), api.Place{Turn: 1, X: 63, Y: 30}, api.Place{Turn: 5, X: 63, Y: 69})
	j.SheetW--
	checkFits(t, j, plain(3, 2), false)
}

// P22.2: sides 0 to 3, and others, by each style: the back plate where there
// is one, both blocks on a plate that prints both sides, the front's first.
func TestSides(t *testing.T) {
	front := api.Rect{X0: 38, Y0: 93, X1: 77, Y1: 121}
	for _, e := range []struct {
		style    int
		one, two []api.Rect
	}{
		{1, []api.Rect{front}, []api.Rect{{X0: 39, Y0: 93, X1: 78, Y1: 121}}},
		{2, []api.Rect{{X0: 38, Y0: 83, X1: 77, Y1: 111}}, []api.Rect{{X0: 38, Y0: 84, X1: 77, Y1: 112}}},
		{3, []api.Rect{{X0: 13, Y0: 93, X1: 52, Y1: 121}, {X0: 64, Y0: 93, X1: 103, Y1: 121}}, nil},
		{4, []api.Rect{{X0: 38, Y0: 49, X1: 77, Y1: 77}, {X0: 38, Y0: 118, X1: 77, Y1: 146}}, nil},
	} {
		j := uneven(e.style, 0, 116, 195)
		if e.style == api.Sheetwise || e.style == api.WorkTurn {
			j.SheetH = 196
		}
		checkBlocks(t, j, plain(3, 2), 1, e.one...)
		checkBlocks(t, j, plain(3, 2), 2, e.two...)
		for _, side := range noPlates {
			checkBlocks(t, j, plain(3, 2), side)
		}
	}
}

// P22.2: where a block is too great it is told where it lies all the same,
// both blocks, too, though they lie upon one another, or off the sheet.
func TestTooGreat(t *testing.T) {
	j := uneven(api.WorkTurn, 0, 20, 10)
	checkFits(t, j, plain(3, 2), false)
	checkBlocks(t, j, plain(3, 2), 1, api.Rect{X0: -11, Y0: 0, X1: 28, Y1: 28}, api.Rect{X0: -8, Y0: 0, X1: 31, Y1: 28})
	j.Style = api.WorkTumble
	checkFits(t, j, plain(3, 2), false)
	checkBlocks(t, j, plain(3, 2), 1, api.Rect{X0: -10, Y0: -9, X1: 29, Y1: 19}, api.Rect{X0: -10, Y0: -9, X1: 29, Y1: 19})
	// A Region whose edges stand the wrong way round has no room for anything.
	j = uneven(api.Sheetwise, 0, 10, 10)
	checkFits(t, j, plain(1, 1), false)
	checkBlocks(t, j, plain(1, 1), 1, api.Rect{X0: -2, Y0: 7, X1: 11, Y1: 21})
	// The greatest block on the least sheet.
	for i, n := range limits {
		j = bounds.Set(j, i, n[1])
	}
	j.Style, j.Quarter, j.SheetW, j.SheetH = api.Sheetwise, 0, 1, 1
	checkOuter(t, j, plain(64, 64), 960_000_000, 1_920_000_000)
	checkFits(t, j, plain(64, 64), false)
	checkPlaces(t, j, plain(64, 64), api.Place{X: -480_000_000, Y: -960_000_000}, api.Place{Turn: 4, X: 480_000_001, Y: -960_000_000})
	j.Quarter = 1
	checkOuter(t, j, plain(64, 64), 1_920_000_000, 960_000_000)
	checkPlaces(t, j, plain(64, 64), api.Place{Turn: 1, X: 960_000_000, Y: -480_000_000}, api.Place{Turn: 7, X: -959_999_999, Y: -480_000_000})
}

// P22.1, P22.2: Cols and Rows of 1 and of 64 may be, together, too, though no
// such scheme be right; what is less or more may not.
func TestColsAndRows(t *testing.T) {
	for _, style := range styles {
		j := uneven(style, 0, 1000, 2000)
		for _, e := range [][2]int{{1, 1}, {1, 64}, {64, 1}, {64, 64}, {2, 63}, {63, 2}} {
			s := plain(e[0], e[1])
			checkThere(t, j, s)
			checkOuter(t, j, s, 13*e[0], 14*e[1])
		}
		for _, n := range noSides {
			for _, other := range []int{1, 2, 64} {
				checkNothing(t, j, plain(n, other))
				checkNothing(t, j, plain(other, n))
			}
			checkNothing(t, j, plain(n, n))
			for _, m := range noSides {
				checkNothing(t, j, plain(n, m))
			}
		}
		checkNothing(t, j, api.Scheme{})
	}
}

// P22.1, P22.2: steps change nothing, of whatever kind, and however many.
func TestSteps(t *testing.T) {
	for _, style := range styles {
		j := uneven(style, 1, 101, 203)
		w, h := Outer(j, plain(3, 2))
		at, back, l := At(j, plain(3, 2)), Back(j, plain(3, 2)), Blocks(j, plain(3, 2), 1)
		right, _ := scheme.Find("F12-1")
		for _, steps := range [][]api.Step{{}, right.Steps, right.Steps[:1], {{Side: 1, N: 2}}, {{}}, {{Side: 5, N: 65, Under: true}}, {{Side: lowest, N: highest}}, make([]api.Step, 7), make([]api.Step, 999)} {
			s := api.Scheme{Cols: 3, Rows: 2, Steps: steps}
			checkOuter(t, j, s, w, h)
			checkFits(t, j, s, Fits(j, plain(3, 2)))
			checkPlaces(t, j, s, at, back)
			checkBlocks(t, j, s, 1, l...)
		}
	}
}

// P22.1, P22.2: each number of the job at its least, and its greatest; one
// beyond either; and the least and greatest ints.
func TestNumbersOfTheJob(t *testing.T) {
	if len(limits) != bounds.Count() {
		t.Fatalf("%d limits", len(limits))
	}
	for _, style := range styles {
		j := uneven(style, 1, 101, 203)
		for i, n := range limits {
			checkThere(t, bounds.Set(j, i, n[0]), plain(3, 2))
			checkThere(t, bounds.Set(j, i, n[1]), plain(3, 2))
			for _, wrong := range []int{n[0] - 1, n[1] + 1, lowest, highest, n[0] + 1<<32, n[1] - 1<<62} {
				checkNothing(t, bounds.Set(j, i, wrong), plain(3, 2))
			}
		}
	}
	checkNothing(t, api.Job{}, plain(3, 2))
	checkNothing(t, api.Job{}, api.Scheme{})
}

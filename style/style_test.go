package style

import (
	"math"
	"testing"

	"gatherum/api"
	"gatherum/bounds"
	"gatherum/place"
)

const (
	lowest  = math.MinInt
	highest = math.MaxInt
)

// styles: all there are, in order.
var styles = [...]int{api.Sheetwise, api.Perfecting, api.WorkTurn, api.WorkTumble}

// wrongs: numbers that no style has; some differ from one only in what a
// lesser kind of number would lose.
var wrongs = [...]int{0, 5, -1, -2, -3, -4, 6, 7, 8, 9, 257, 259, -255, -252, 1 << 31, -1 << 31, 1 << 32, 1<<32 + 1, 1<<32 + 4, 3 - 1<<32,
	1 << 62, 1<<62 + 2, -1 << 62, 4 - 1<<62, highest - 1, highest, lowest + 1, lowest + 2, lowest + 4, lowest}

// halves: a sheet's width, or height; how far in its edges are, and so where
// what may be printed ends; and where that of one half ends.
var halves = [...]struct{ whole, edge, end, half int }{
	{1, 0, 1, 0}, {2, 0, 2, 1}, {3, 0, 3, 1}, {99, 0, 99, 49}, {100, 0, 100, 50}, {101, 0, 101, 50}, {4_999_999, 3, 4_999_996, 2_499_999}, {5_000_000, 3, 4_999_997, 2_500_000},
	{1, 1, 0, 0}, {1, 2, -1, -1}, {2, 1, 1, 1}, {2, 2, 0, 0}, {3, 1, 2, 1}, {3, 2, 1, 1}, {3, 3, 0, 0},
	{100, 1, 99, 50}, {100, 30, 70, 50}, {100, 49, 51, 50}, {100, 50, 50, 50}, {100, 51, 49, 49}, {100, 60, 40, 40}, {100, 100, 0, 0}, {100, 5_000_000, -4_999_900, -4_999_900},
	{101, 49, 52, 50}, {101, 50, 51, 50}, {101, 51, 50, 50}, {101, 52, 49, 49}, {101, 102, -1, -1},
}

// sheet: a job with such a sheet, and the usual job's other numbers.
func sheet(style, w, h, side, grip, tail int) api.Job {
	j := bounds.Usual()
	j.Style, j.SheetW, j.SheetH, j.Side, j.Grip, j.Tail = style, w, h, side, grip, tail
	return j
}

// uneven: a sheet of odd sides, whose edges are all unlike.
func uneven(style int) api.Job {
	return sheet(style, 1001, 2003, 7, 30, 11)
}

func checkFlip(t *testing.T, j api.Job, meant api.Place) {
	t.Helper()
	if a := Flip(j); a != meant {
		t.Fatalf("Flip(%+v) = %v; meant: %v", j, a, meant)
	}
}

func checkBoth(t *testing.T, j api.Job, area, region api.Rect) {
	t.Helper()
	if r := Area(j); r != area {
		t.Fatalf("Area(%+v) = %v; meant: %v", j, r, area)
	}
	if r := Region(j); r != region {
		t.Fatalf("Region(%+v) = %v; meant: %v", j, r, region)
	}
}

// checkSeen: a point of the front is seen there from the back.
func checkSeen(t *testing.T, j api.Job, front, back api.Point) {
	t.Helper()
	if p := place.Do(Flip(j), front); p != back {
		t.Fatalf("%v of %+v is seen at %v from the back; meant: %v", front, j, p, back)
	}
}

// P21.1: two plates, or one; none of no style.
func TestPlates(t *testing.T) {
	for _, e := range []struct{ style, plates int }{
		{api.Sheetwise, 2}, {api.Perfecting, 2}, {api.WorkTurn, 1}, {api.WorkTumble, 1}, {1, 2}, {2, 2}, {3, 1}, {4, 1}, {0, 0}, {5, 0},
	} {
		if n := Plates(e.style); n != e.plates {
			t.Fatalf("Plates(%d) = %d; meant: %d", e.style, n, e.plates)
		}
	}
	for style := -1000; style <= 1000; style++ {
		if n := Plates(style); n != 0 && (style < 1 || style > 4) {
			t.Fatalf("Plates(%d) = %d; meant: 0", style, n)
		}
	}
}

// P21.1, P21.2: of no style all is zero, whatever the sheet.
func TestNoStyle(t *testing.T) {
	for _, style := range wrongs {
		if n := Plates(style); n != 0 {
			t.Fatalf("Plates(%d) = %d; meant: 0", style, n)
		}
		for _, j := range []api.Job{uneven(style), sheet(style, 640_000, 900_000, 10_000, 12_000, 8_000), sheet(style, 1, 1, 0, 0, 0), sheet(style, lowest, highest, highest, lowest, 1), {Style: style}} {
			checkFlip(t, j, api.Place{})
			checkBoth(t, j, api.Rect{}, api.Rect{})
		}
	}
}

// P21.1: the chapter's example.
func TestExample(t *testing.T) {
	j := sheet(api.WorkTurn, 100, 77, 5, 6, 4)
	checkSeen(t, j, api.Point{X: 30}, api.Point{X: 70})
	checkSeen(t, j, api.Point{X: 30, Y: 12}, api.Point{X: 70, Y: 12})
	checkSeen(t, j, api.Point{X: 70, Y: 12}, api.Point{X: 30, Y: 12})
}

// P21.1: left and right change places by Sheetwise and WorkTurn, below and
// above by Perfecting and WorkTumble.
func TestFlip(t *testing.T) {
	for i, meant := range []api.Place{{Turn: 4, X: 1001}, {Turn: 6, Y: 2003}, {Turn: 4, X: 1001}, {Turn: 6, Y: 2003}} {
		checkFlip(t, uneven(styles[i]), meant)
	}
	for _, e := range []struct{ style, x, y, backX, backY int }{
		{api.Sheetwise, 0, 0, 1001, 0}, {api.Sheetwise, 1001, 2003, 0, 2003}, {api.Sheetwise, 500, 40, 501, 40}, {api.Sheetwise, -3, -4, 1004, -4},
		{api.WorkTurn, 0, 0, 1001, 0}, {api.WorkTurn, 1001, 2003, 0, 2003}, {api.WorkTurn, 500, 40, 501, 40}, {api.WorkTurn, -3, -4, 1004, -4},
		{api.Perfecting, 0, 0, 0, 2003}, {api.Perfecting, 1001, 2003, 1001, 0}, {api.Perfecting, 40, 1001, 40, 1002}, {api.Perfecting, -3, -4, -3, 2007},
		{api.WorkTumble, 0, 0, 0, 2003}, {api.WorkTumble, 1001, 2003, 1001, 0}, {api.WorkTumble, 40, 1001, 40, 1002}, {api.WorkTumble, -3, -4, -3, 2007},
	} {
		checkSeen(t, uneven(e.style), api.Point{X: e.x, Y: e.y}, api.Point{X: e.backX, Y: e.backY})
	}
	checkSeen(t, sheet(api.Sheetwise, 1, 1, 0, 0, 0), api.Point{X: 1, Y: 1}, api.Point{X: 0, Y: 1})
	checkSeen(t, sheet(api.WorkTumble, 1, 1, 0, 0, 0), api.Point{X: 1, Y: 1}, api.Point{X: 1, Y: 0})
}

// P21.2: the usual job, by each style.
func TestTheUsualJob(t *testing.T) {
	j := bounds.Usual()
	upright := api.Rect{X0: 10_000, Y0: 12_000, X1: 630_000, Y1: 892_000}
	checkBoth(t, j, upright, upright)
	checkFlip(t, j, api.Place{Turn: 4, X: 640_000})
	j.Style = api.WorkTurn
	checkBoth(t, j, upright, api.Rect{X0: 10_000, Y0: 12_000, X1: 320_000, Y1: 892_000})
	checkFlip(t, j, api.Place{Turn: 4, X: 640_000})
	over := api.Rect{X0: 10_000, Y0: 12_000, X1: 630_000, Y1: 888_000}
	j.Style = api.Perfecting
	checkBoth(t, j, over, over)
	checkFlip(t, j, api.Place{Turn: 6, Y: 900_000})
	j.Style = api.WorkTumble
	checkBoth(t, j, over, api.Rect{X0: 10_000, Y0: 12_000, X1: 630_000, Y1: 450_000})
	checkFlip(t, j, api.Place{Turn: 6, Y: 900_000})
}

// P21.2: Grip above Tail, Tail above Grip, both the same, and either 0: where
// below and above change places, both edges are as far in as the greater one.
func TestGripAndTail(t *testing.T) {
	for _, e := range []struct{ grip, tail, most int }{{30, 11, 30}, {11, 30, 30}, {20, 20, 20}, {0, 13, 13}, {13, 0, 13}, {0, 0, 0}, {1, 0, 1}, {29, 30, 30}} {
		upright := api.Rect{X0: 7, Y0: e.grip, X1: 994, Y1: 2003 - e.tail}
		over := api.Rect{X0: 7, Y0: e.most, X1: 994, Y1: 2003 - e.most}
		checkBoth(t, sheet(api.Sheetwise, 1001, 2003, 7, e.grip, e.tail), upright, upright)
		checkBoth(t, sheet(api.Perfecting, 1001, 2003, 7, e.grip, e.tail), over, over)
		half := upright
		half.X1 = 500
		checkBoth(t, sheet(api.WorkTurn, 1001, 2003, 7, e.grip, e.tail), upright, half)
		half = over
		half.Y1 = 1001
		checkBoth(t, sheet(api.WorkTumble, 1001, 2003, 7, e.grip, e.tail), over, half)
	}
}

// P21.2: half of the sheet is rounded down; where Side is so great that the
// Area ends ahead of half, the Region ends there, too, though that be ahead of
// its own left edge.
func TestTurnHalves(t *testing.T) {
	for _, e := range halves {
		area := api.Rect{X0: e.edge, Y0: 6, X1: e.end, Y1: 73}
		checkBoth(t, sheet(api.WorkTurn, e.whole, 77, e.edge, 6, 4), area, api.Rect{X0: e.edge, Y0: 6, X1: e.half, Y1: 73})
		checkBoth(t, sheet(api.Sheetwise, e.whole, 77, e.edge, 6, 4), area, area)
		area.Y1 = 71
		checkBoth(t, sheet(api.Perfecting, e.whole, 77, e.edge, 6, 4), area, area)
		checkBoth(t, sheet(api.WorkTumble, e.whole, 77, e.edge, 6, 4), area, api.Rect{X0: e.edge, Y0: 6, X1: e.end, Y1: 38})
	}
}

// P21.2: the same of Grip, and of Tail, by WorkTumble.
func TestTumbleHalves(t *testing.T) {
	for _, e := range halves {
		for _, other := range []int{0, e.edge / 2, e.edge} {
			area := api.Rect{X0: 5, Y0: e.edge, X1: 72, Y1: e.end}
			region := api.Rect{X0: 5, Y0: e.edge, X1: 72, Y1: e.half}
			checkBoth(t, sheet(api.WorkTumble, 77, e.whole, 5, e.edge, other), area, region)
			checkBoth(t, sheet(api.WorkTumble, 77, e.whole, 5, other, e.edge), area, region)
			checkBoth(t, sheet(api.Perfecting, 77, e.whole, 5, e.edge, other), area, area)
			checkBoth(t, sheet(api.Perfecting, 77, e.whole, 5, other, e.edge), area, area)
			area = api.Rect{X0: 5, Y0: other, X1: 72, Y1: e.end}
			checkBoth(t, sheet(api.Sheetwise, 77, e.whole, 5, other, e.edge), area, area)
			checkBoth(t, sheet(api.WorkTurn, 77, e.whole, 5, other, e.edge), area, api.Rect{X0: 5, Y0: other, X1: 38, Y1: e.end})
		}
	}
}

// P5: half of a number below 0 is rounded down, too.
func TestHalfBelowZero(t *testing.T) {
	for _, e := range []struct{ whole, half int }{
		{-1, -1}, {-2, -1}, {-3, -2}, {-4, -2}, {-7, -4}, {-8, -4}, {-5_000_001, -2_500_001},
		{lowest, lowest / 2}, {lowest + 1, lowest / 2}, {lowest + 2, lowest/2 + 1}, {lowest + 3, lowest/2 + 1},
	} {
		// From so far to the left an Area of any such sheet ends behind half.
		far := e.whole - 9
		turn := sheet(api.WorkTurn, e.whole, 50, far, 6, 4)
		checkBoth(t, turn, api.Rect{X0: far, Y0: 6, X1: 9, Y1: 46}, api.Rect{X0: far, Y0: 6, X1: e.half, Y1: 46})
		if far > e.whole {
			continue
		}
		tumble := sheet(api.WorkTumble, 50, e.whole, 5, far, far-1)
		checkBoth(t, tumble, api.Rect{X0: 5, Y0: far, X1: 45, Y1: 9}, api.Rect{X0: 5, Y0: far, X1: 45, Y1: e.half})
	}
}

// P5: sums that go round, by hand.
func TestSumsGoRound(t *testing.T) {
	for _, e := range []struct{ w, side, right, half int }{
		{lowest, 1, highest, lowest / 2}, {lowest, highest, 1, lowest / 2}, {lowest, lowest, 0, lowest / 2}, {lowest, 0, lowest, lowest},
		{highest, -1, lowest, lowest}, {highest, lowest, -1, -1}, {highest, highest, 0, 0}, {highest, 0, highest, highest / 2},
		{0, lowest, lowest, lowest}, {0, highest, -highest, -highest}, {1, lowest, lowest + 1, lowest + 1}, {-2, highest, highest, -1}, {-1, lowest, highest, -1},
	} {
		area := api.Rect{X0: e.side, Y0: 6, X1: e.right, Y1: 46}
		checkBoth(t, sheet(api.WorkTurn, e.w, 50, e.side, 6, 4), area, api.Rect{X0: e.side, Y0: 6, X1: e.half, Y1: 46})
		checkBoth(t, sheet(api.Sheetwise, e.w, 50, e.side, 6, 4), area, area)
		area = api.Rect{X0: 5, Y0: e.side, X1: 45, Y1: e.right}
		checkBoth(t, sheet(api.WorkTumble, 50, e.w, 5, e.side, e.side), area, api.Rect{X0: 5, Y0: e.side, X1: 45, Y1: e.half})
		checkBoth(t, sheet(api.WorkTumble, 50, e.w, 5, e.side, lowest), area, api.Rect{X0: 5, Y0: e.side, X1: 45, Y1: e.half})
		checkBoth(t, sheet(api.Perfecting, 50, e.w, 5, lowest, e.side), area, area)
		area.Y0 = 3
		checkBoth(t, sheet(api.Sheetwise, 50, e.w, 5, 3, e.side), area, area)
		checkBoth(t, sheet(api.WorkTurn, 50, e.w, 5, 3, e.side), area, api.Rect{X0: 5, Y0: 3, X1: 25, Y1: e.right})
	}
	checkBoth(t, sheet(api.Perfecting, 50, 0, 5, lowest, highest), api.Rect{X0: 5, Y0: highest, X1: 45, Y1: -highest}, api.Rect{X0: 5, Y0: highest, X1: 45, Y1: -highest})
	checkFlip(t, sheet(api.WorkTurn, lowest, highest, 0, 0, 0), api.Place{Turn: 4, X: lowest})
	checkFlip(t, sheet(api.WorkTumble, lowest, highest, 0, 0, 0), api.Place{Turn: 6, Y: highest})
	checkSeen(t, sheet(api.Sheetwise, lowest, 1, 0, 0, 0), api.Point{X: 1, Y: 2}, api.Point{X: highest, Y: 2})
	checkSeen(t, sheet(api.Perfecting, 1, highest, 0, 0, 0), api.Point{X: 1, Y: -1}, api.Point{X: 1, Y: lowest})
}

package box

import (
	"math"
	"slices"
	"testing"

	"gatherum/api"
)

const (
	least = math.MinInt
	most  = math.MaxInt
)

func rect(x0, y0, x1, y1 int) api.Rect { return api.Rect{X0: x0, Y0: y0, X1: x1, Y1: y1} }

func at(x, y int) api.Point { return api.Point{X: x, Y: y} }

// emptyOnes: empty in x alone, in y alone, in both, by no size or by one below 0.
func emptyOnes() []api.Rect {
	return []api.Rect{
		{},
		rect(3, 0, 3, 5), rect(4, 0, 3, 5), rect(most, 0, least, 5), rect(least, 0, least, 5),
		rect(0, 3, 5, 3), rect(0, 4, 5, 3), rect(0, most, 5, least), rect(0, most, 5, most),
		rect(3, 3, 3, 3), rect(4, 4, 3, 3), rect(9, 3, -9, 3), rect(3, 9, 3, -9),
		rect(most, most, least, least), rect(least, least, least, least), rect(most, most, most, most),
		rect(most, least, least, most), rect(least, most, most, least),
	}
}

// filledOnes: with points inside, up to both ends of the ints; between 0 and 1
// there are points, too.
func filledOnes() []api.Rect {
	return []api.Rect{
		rect(0, 0, 1, 1), rect(0, 0, 4, 4), rect(-5, -7, 0, 0), rect(-3, 2, 4, 9), rect(2, -3, 9, 4),
		rect(least, least, most, most), rect(least, 0, most, 1), rect(0, least, 1, most),
		rect(least, least, least+1, least+1), rect(most-1, most-1, most, most),
	}
}

// P4.1: from x to x and w, from y to y and h; sums go round.
func TestOf(t *testing.T) {
	for _, r := range []struct {
		x, y, w, h int
		meant      api.Rect
	}{
		{0, 0, 0, 0, api.Rect{}},
		{1, 2, 30, 40, rect(1, 2, 31, 42)},
		{-1, -2, 3, 5, rect(-1, -2, 2, 3)},
		{5, 6, -2, -7, rect(5, 6, 3, -1)},
		{most, 0, 1, 1, rect(most, 0, least, 1)},
		{0, most, 1, 2, rect(0, most, 1, least+1)},
		{least, 3, -1, 4, rect(least, 3, most, 7)},
		{3, least, 4, least, rect(3, least, 7, 0)},
		{most, most, most, most, rect(most, most, -2, -2)},
	} {
		if got := Of(r.x, r.y, r.w, r.h); got != r.meant {
			t.Fatalf("Of(%d, %d, %d, %d) = %v; meant: %v", r.x, r.y, r.w, r.h, got, r.meant)
		}
	}
}

// P4.1: X1 less X0, Y1 less Y0; differences go round.
func TestSize(t *testing.T) {
	for _, r := range []struct {
		r    api.Rect
		w, h int
	}{
		{api.Rect{}, 0, 0},
		{rect(1, 2, 31, 42), 30, 40},
		{rect(-1, -2, 2, 3), 3, 5},
		{rect(5, 6, 3, -1), -2, -7},
		{rect(least, 0, most, 1), -1, 1},
		{rect(0, least, 1, most), 1, -1},
		{rect(most, 7, least, 9), 1, 2},
		{rect(1, least, 2, 0), 1, least},
		{rect(0, 0, most, least), most, least},
	} {
		if w, h := Size(r.r); w != r.w || h != r.h {
			t.Fatalf("Size(%v) = %d, %d; meant: %d, %d", r.r, w, h, r.w, r.h)
		}
	}
}

// P4.1: a rectangle is the one of its lower left corner and of its size, also
// where that goes round.
func TestOfSize(t *testing.T) {
	for _, r := range append(emptyOnes(), filledOnes()...) {
		w, h := Size(r)
		if got := Of(r.X0, r.Y0, w, h); got != r {
			t.Fatalf("Of the size of %v is %v", r, got)
		}
	}
}

// P4.1: empty, if X0 is not below X1, or Y0 not below Y1.
func TestEmpty(t *testing.T) {
	for _, r := range emptyOnes() {
		if !Empty(r) {
			t.Fatalf("Empty(%v) is false", r)
		}
	}
	for _, r := range filledOnes() {
		if Empty(r) {
			t.Fatalf("Empty(%v) is true", r)
		}
	}
}

// P4.1: all four numbers count, also those of empty rectangles.
func TestSame(t *testing.T) {
	all := append(emptyOnes(), filledOnes()...)
	for i, a := range all {
		for j, b := range all {
			if Same(a, b) != (i == j) {
				t.Fatalf("Same(%v, %v) = %v", a, b, Same(a, b))
			}
		}
		for _, b := range []api.Rect{
			rect(a.X0+1, a.Y0, a.X1, a.Y1), rect(a.X0, a.Y0+1, a.X1, a.Y1),
			rect(a.X0, a.Y0, a.X1+1, a.Y1), rect(a.X0, a.Y0, a.X1, a.Y1+1),
		} {
			if Same(a, b) || Same(b, a) {
				t.Fatalf("Same(%v, %v)", a, b)
			}
		}
	}
}

// pairs: what two rectangles come to, either one being the first.
var pairs = []struct {
	a, b, meet, hull api.Rect
}{
	{rect(0, 0, 4, 4), rect(2, 3, 9, 9), rect(2, 3, 4, 4), rect(0, 0, 9, 9)},
	{rect(0, 3, 4, 9), rect(2, 0, 9, 4), rect(2, 3, 4, 4), rect(0, 0, 9, 9)},
	{rect(-4, -4, 0, 0), rect(-1, -2, 5, 6), rect(-1, -2, 0, 0), rect(-4, -4, 5, 6)},
	// Crossed like two bars.
	{rect(0, 2, 9, 3), rect(4, 0, 6, 8), rect(4, 2, 6, 3), rect(0, 0, 9, 8)},
	// Apart in x alone, in y alone, in both.
	{rect(0, 0, 2, 5), rect(3, 1, 6, 4), api.Rect{}, rect(0, 0, 6, 5)},
	{rect(0, 0, 5, 2), rect(1, 3, 4, 6), api.Rect{}, rect(0, 0, 5, 6)},
	{rect(0, 0, 2, 2), rect(3, 3, 6, 6), api.Rect{}, rect(0, 0, 6, 6)},
	// Touching at a side, at a part of it, at a corner.
	{rect(0, 0, 3, 3), rect(3, 0, 6, 3), api.Rect{}, rect(0, 0, 6, 3)},
	{rect(0, 0, 3, 3), rect(0, 3, 3, 6), api.Rect{}, rect(0, 0, 3, 6)},
	{rect(0, 0, 3, 3), rect(3, 1, 6, 2), api.Rect{}, rect(0, 0, 6, 3)},
	{rect(0, 0, 3, 3), rect(3, 3, 6, 6), api.Rect{}, rect(0, 0, 6, 6)},
	{rect(0, 3, 3, 6), rect(3, 0, 6, 3), api.Rect{}, rect(0, 0, 6, 6)},
	// One, one within the other, with sides in common.
	{rect(1, 2, 3, 4), rect(1, 2, 3, 4), rect(1, 2, 3, 4), rect(1, 2, 3, 4)},
	{rect(0, 0, 9, 9), rect(3, 4, 5, 6), rect(3, 4, 5, 6), rect(0, 0, 9, 9)},
	{rect(0, 0, 9, 9), rect(0, 4, 5, 9), rect(0, 4, 5, 9), rect(0, 0, 9, 9)},
	{rect(0, 0, 9, 9), rect(0, 3, 9, 6), rect(0, 3, 9, 6), rect(0, 0, 9, 9)},
	// Up to the ends of the ints.
	{rect(least, least, most, most), rect(3, 4, 5, 6), rect(3, 4, 5, 6), rect(least, least, most, most)},
	{rect(least, least, 0, 0), rect(0, 0, most, most), api.Rect{}, rect(least, least, most, most)},
	{rect(least, least, 1, 1), rect(0, 0, most, most), rect(0, 0, 1, 1), rect(least, least, most, most)},
	{rect(least, 0, most, 1), rect(0, least, 1, most), rect(0, 0, 1, 1), rect(least, least, most, most)},
	// One of them empty: beside, within, turned about.
	{rect(0, 0, 4, 4), rect(9, 9, 9, 9), api.Rect{}, rect(0, 0, 4, 4)},
	{rect(0, 0, 4, 4), rect(2, -5, 2, 5), api.Rect{}, rect(0, 0, 4, 4)},
	{rect(0, 0, 4, 4), rect(-5, 2, 5, 2), api.Rect{}, rect(0, 0, 4, 4)},
	{rect(0, 0, 4, 4), rect(3, 1, 2, 2), api.Rect{}, rect(0, 0, 4, 4)},
	{rect(0, 0, 4, 4), rect(1, 3, 2, 2), api.Rect{}, rect(0, 0, 4, 4)},
	{rect(0, 0, 4, 4), rect(3, 3, 2, 2), api.Rect{}, rect(0, 0, 4, 4)},
	{rect(3, 4, 5, 6), api.Rect{}, api.Rect{}, rect(3, 4, 5, 6)},
	{rect(least, least, most, most), rect(most, most, least, least), api.Rect{}, rect(least, least, most, most)},
}

// P4.1, P4.2: touching is apart; without a point of both Meet is zero.
func TestPairs(t *testing.T) {
	for _, r := range pairs {
		for _, p := range [][2]api.Rect{{r.a, r.b}, {r.b, r.a}} {
			if m := Meet(p[0], p[1]); m != r.meet {
				t.Fatalf("Meet%v = %v; meant: %v", p, m, r.meet)
			}
			if h := Hull(p[0], p[1]); h != r.hull {
				t.Fatalf("Hull%v = %v; meant: %v", p, h, r.hull)
			}
			apart := r.meet == api.Rect{}
			if Apart(p[0], p[1]) != apart {
				t.Fatalf("Apart%v isn't %v", p, apart)
			}
		}
	}
}

// P4.1: within, also with sides in common; not, if one side stands out.
func TestWithin(t *testing.T) {
	for _, r := range []struct {
		a, b   api.Rect
		within bool
	}{
		{rect(3, 4, 5, 6), rect(0, 0, 9, 9), true},
		{rect(0, 0, 9, 9), rect(0, 0, 9, 9), true},
		{rect(0, 4, 5, 9), rect(0, 0, 9, 9), true},
		{rect(0, 0, 9, 9), rect(3, 4, 5, 6), false},
		{rect(-1, 0, 9, 9), rect(0, 0, 9, 9), false},
		{rect(0, -1, 9, 9), rect(0, 0, 9, 9), false},
		{rect(0, 0, 10, 9), rect(0, 0, 9, 9), false},
		{rect(0, 0, 9, 10), rect(0, 0, 9, 9), false},
		{rect(0, 2, 9, 3), rect(4, 0, 6, 8), false},
		{rect(0, 0, 3, 3), rect(3, 0, 6, 3), false},
		{rect(3, 4, 5, 6), rect(least, least, most, most), true},
		{rect(least, least, most, most), rect(least, least, most, most), true},
		{rect(least, least, most, most), rect(least+1, least, most, most), false},
		{rect(least, least, most, most), rect(least, least, most, most-1), false},
	} {
		if Within(r.a, r.b) != r.within {
			t.Fatalf("Within(%v, %v) isn't %v", r.a, r.b, r.within)
		}
	}
}

// P4.1, P4.2: an empty rectangle is within each one and apart from each one;
// only empty ones are within it.
func TestEmptyBesideOthers(t *testing.T) {
	for _, e := range emptyOnes() {
		for _, a := range filledOnes() {
			if !Within(e, a) || Within(a, e) {
				t.Fatalf("the empty %v and %v: %v, %v", e, a, Within(e, a), Within(a, e))
			}
			if !Apart(e, a) || !Apart(a, e) || Meet(e, a) != (api.Rect{}) || Meet(a, e) != (api.Rect{}) {
				t.Fatalf("the empty %v and %v are not apart", e, a)
			}
			if Hull(e, a) != a || Hull(a, e) != a || Hull(e, a, e) != a {
				t.Fatalf("the empty %v widens %v", e, a)
			}
		}
		for _, o := range emptyOnes() {
			if !Within(e, o) || !Apart(e, o) || Meet(e, o) != (api.Rect{}) || Hull(e, o) != (api.Rect{}) {
				t.Fatalf("%v and %v, both empty", e, o)
			}
		}
	}
}

// P4.2: a hull of none, of one, of more, of some or only of empty ones.
func TestHull(t *testing.T) {
	if h := Hull(); h != (api.Rect{}) {
		t.Fatalf("Hull() = %v", h)
	}
	if h := Hull(emptyOnes()...); h != (api.Rect{}) {
		t.Fatalf("the hull of empty ones is %v", h)
	}
	for _, r := range []struct {
		l     []api.Rect
		meant api.Rect
	}{
		{nil, api.Rect{}},
		{[]api.Rect{}, api.Rect{}},
		{[]api.Rect{rect(4, 4, 3, 3)}, api.Rect{}},
		{[]api.Rect{rect(3, 4, 5, 6)}, rect(3, 4, 5, 6)},
		// Neither 0 0 nor an empty one's numbers are part of it.
		{[]api.Rect{rect(3, 4, 5, 6), rect(7, 8, 9, 10)}, rect(3, 4, 9, 10)},
		{[]api.Rect{rect(-9, -8, -5, -4), rect(-3, -7, -2, -6)}, rect(-9, -8, -2, -4)},
		{[]api.Rect{rect(0, 0, 0, 9), rect(3, 4, 5, 6), rect(99, 2, 99, 3), rect(4, 3, 9, 5), rect(1, 99, 2, 98)},
			rect(3, 3, 9, 6)},
		// Each side is another one's, whatever their order.
		{[]api.Rect{rect(0, 2, 3, 3), rect(2, 0, 3, 3), rect(2, 2, 7, 3), rect(2, 2, 3, 8)}, rect(0, 0, 7, 8)},
		{[]api.Rect{rect(2, 2, 3, 8), rect(2, 2, 7, 3), rect(2, 0, 3, 3), rect(0, 2, 3, 3)}, rect(0, 0, 7, 8)},
		{[]api.Rect{rect(least, 0, least+1, 1), rect(0, most-1, 1, most)}, rect(least, 0, 1, most)},
	} {
		kept := slices.Clone(r.l)
		if h := Hull(r.l...); h != r.meant {
			t.Fatalf("Hull(%v) = %v; meant: %v", r.l, h, r.meant)
		}
		if !slices.Equal(r.l, kept) {
			t.Fatalf("Hull changed %v into %v", kept, r.l)
		}
	}
}

// P4.2: each side by its own number, outwards; sums and differences go round.
func TestGrow(t *testing.T) {
	for _, r := range []struct {
		r                        api.Rect
		left, bottom, right, top int
		meant                    api.Rect
	}{
		{rect(10, 20, 30, 40), 1, 2, 3, 4, rect(9, 18, 33, 44)},
		{rect(10, 20, 30, 40), -1, -2, -3, -4, rect(11, 22, 27, 36)},
		{rect(10, 20, 30, 40), 0, 0, 0, 0, rect(10, 20, 30, 40)},
		{api.Rect{}, 1, 2, 3, 4, rect(-1, -2, 3, 4)},
		{rect(5, 5, 5, 5), -3, -3, -3, -3, rect(8, 8, 2, 2)},
		{rect(least, least, most, most), 1, 2, 1, 2, rect(most, most-1, least, least+1)},
		{rect(0, 0, 0, 0), least, least, least, least, rect(least, least, least, least)},
		{rect(-1, -1, 1, 1), most, least, most, least, rect(least, most, least, least+1)},
	} {
		if got := Grow(r.r, r.left, r.bottom, r.right, r.top); got != r.meant {
			t.Fatalf("Grow(%v, %d, %d, %d, %d) = %v; meant: %v", r.r, r.left, r.bottom, r.right, r.top, got, r.meant)
		}
	}
}

// P4.2: x to the right, y upwards; sums go round.
func TestShift(t *testing.T) {
	for _, r := range []struct {
		r     api.Rect
		x, y  int
		meant api.Rect
	}{
		{rect(10, 20, 30, 40), 1, 2, rect(11, 22, 31, 42)},
		{rect(10, 20, 30, 40), -11, -22, rect(-1, -2, 19, 18)},
		{rect(10, 20, 30, 40), 0, 0, rect(10, 20, 30, 40)},
		{rect(4, 9, 3, 9), 5, 0, rect(9, 9, 8, 9)},
		{api.Rect{}, 7, 8, rect(7, 8, 7, 8)},
		{rect(0, 0, most, most), 1, 2, rect(1, 2, least, least+1)},
		{rect(least, least, 0, 0), -1, -2, rect(most, most-1, -1, -2)},
		{rect(-1, 0, 0, 1), least, most, rect(most, most, least, least)},
	} {
		if got := Shift(r.r, r.x, r.y); got != r.meant {
			t.Fatalf("Shift(%v, %d, %d) = %v; meant: %v", r.r, r.x, r.y, got, r.meant)
		}
	}
}

// P4.3: cut only strictly between the ends, by x if upright, else by y.
func TestSplit(t *testing.T) {
	r, all := rect(0, 10, 4, 16), rect(least, least, most, most)
	for _, c := range []struct {
		r       api.Rect
		upright bool
		at      int
		meant   []api.Rect
	}{
		{r, true, 1, []api.Rect{rect(0, 10, 1, 16), rect(1, 10, 4, 16)}},
		{r, true, 3, []api.Rect{rect(0, 10, 3, 16), rect(3, 10, 4, 16)}},
		{r, false, 11, []api.Rect{rect(0, 10, 4, 11), rect(0, 11, 4, 16)}},
		{r, false, 15, []api.Rect{rect(0, 10, 4, 15), rect(0, 15, 4, 16)}},
		// At an end, and outside, also where the other way would cut.
		{r, true, 0, []api.Rect{r}},
		{r, true, 4, []api.Rect{r}},
		{r, true, -1, []api.Rect{r}},
		{r, true, 5, []api.Rect{r}},
		{r, true, 12, []api.Rect{r}},
		{r, false, 10, []api.Rect{r}},
		{r, false, 16, []api.Rect{r}},
		{r, false, 9, []api.Rect{r}},
		{r, false, 17, []api.Rect{r}},
		{r, false, 2, []api.Rect{r}},
		{r, true, least, []api.Rect{r}},
		{r, true, most, []api.Rect{r}},
		{r, false, least, []api.Rect{r}},
		{r, false, most, []api.Rect{r}},
		// Nothing is between 0 and 1 at which it could be cut.
		{rect(0, 0, 1, 1), true, 0, []api.Rect{rect(0, 0, 1, 1)}},
		{rect(0, 0, 1, 1), false, 1, []api.Rect{rect(0, 0, 1, 1)}},
		// Up to the ends of the ints.
		{all, true, least, []api.Rect{all}},
		{all, false, most, []api.Rect{all}},
		{all, true, least + 1, []api.Rect{rect(least, least, least+1, most), rect(least+1, least, most, most)}},
		{all, false, most - 1, []api.Rect{rect(least, least, most, most-1), rect(least, most-1, most, most)}},
	} {
		if l := Split(c.r, c.upright, c.at); !slices.Equal(l, c.meant) {
			t.Fatalf("Split(%v, %v, %d) = %v; meant: %v", c.r, c.upright, c.at, l, c.meant)
		}
	}
}

// P4.3: of an empty rectangle there is nothing, also where it is empty only
// the other way than it is cut.
func TestSplitOfEmpty(t *testing.T) {
	for _, r := range emptyOnes() {
		for _, n := range []int{r.X0, r.X1, r.Y0, r.Y1, 0, 1, 3, 4, least, most} {
			if l := Split(r, true, n); len(l) != 0 {
				t.Fatalf("Split(%v, true, %d) = %v", r, n, l)
			}
			if l := Split(r, false, n); len(l) != 0 {
				t.Fatalf("Split(%v, false, %d) = %v", r, n, l)
			}
		}
	}
}

// P4.3: all four corners of any rectangle, an empty one too, in their order;
// gone through again they are the same.
func TestCorners(t *testing.T) {
	for _, r := range append(emptyOnes(), append(filledOnes(), rect(1, 2, 3, 4))...) {
		meant := []api.Point{at(r.X0, r.Y0), at(r.X1, r.Y0), at(r.X1, r.Y1), at(r.X0, r.Y1)}
		seq := Corners(r)
		for range 3 {
			if l := slices.Collect(seq); !slices.Equal(l, meant) {
				t.Fatalf("the corners of %v are %v; meant: %v", r, l, meant)
			}
		}
	}
}

// P4.3: no corner comes behind the last one that is wanted; a walk that was
// left begins anew, also within another one.
func TestCornersAreLeft(t *testing.T) {
	meant := []api.Point{at(1, 2), at(3, 2), at(3, 4), at(1, 4)}
	seq := Corners(rect(1, 2, 3, 4))
	for n := 1; n <= 4; n++ {
		var l []api.Point
		seq(func(p api.Point) bool {
			l = append(l, p)
			return len(l) < n
		})
		if !slices.Equal(l, meant[:n]) {
			t.Fatalf("of %d corners that are wanted come %v", n, l)
		}
	}
	var pairs []api.Point
	for p := range seq {
		for q := range seq {
			pairs = append(pairs, p, q)
		}
	}
	for i, p := range pairs {
		k := i / 8
		if i%2 == 1 {
			k = i / 2 % 4
		}
		if p != meant[k] {
			t.Fatalf("walk within walk: %v", pairs)
		}
	}
	if len(pairs) != 32 {
		t.Fatalf("walk within walk: %d points", len(pairs))
	}
}

// P2: answers share no memory, so that changing one changes no other.
func TestAnswersAreNew(t *testing.T) {
	for _, n := range []int{2, 9} {
		one, other := Split(rect(0, 0, 4, 4), true, n), Split(rect(0, 0, 4, 4), true, n)
		kept := slices.Clone(other)
		for i := range one {
			one[i] = rect(9, 9, 9, 9)
		}
		if !slices.Equal(other, kept) {
			t.Fatalf("an answer of Split became %v", other)
		}
	}
	l := []api.Rect{rect(1, 2, 3, 4)}
	h := Hull(l...)
	l[0] = rect(9, 9, 9, 9)
	if h != rect(1, 2, 3, 4) {
		t.Fatalf("an answer of Hull became %v", h)
	}
}

// A field is rising numbers; what is inside of a rectangle whose sides are
// among them is told by the cells between them that it covers, one bit each.
type field [5]int

// fields: one with cells of one size, one up to the ends of the ints.
func fields() []field {
	return []field{{-2, -1, 0, 1, 2}, {least, least + 1, 0, most - 1, most}}
}

type seen struct {
	r     api.Rect
	cells uint
}

func (f field) all() []seen {
	var l []seen
	for _, x0 := range f {
		for _, y0 := range f {
			for _, x1 := range f {
				for _, y1 := range f {
					r := rect(x0, y0, x1, y1)
					l = append(l, seen{r, f.cells(r)})
				}
			}
		}
	}
	return l
}

func (f field) cells(r api.Rect) uint {
	c := uint(0)
	for i, x := range f[:4] {
		for j, y := range f[:4] {
			if r.X0 <= x && x < r.X1 && r.Y0 <= y && y < r.Y1 {
				c |= 1 << (4*i + j)
			}
		}
	}
	return c
}

// hull: of all rectangles that cover the cells, that with the fewest cells.
func (f field) hull(cells uint) api.Rect {
	if cells == 0 {
		return api.Rect{}
	}
	x0, y0, x1, y1 := 4, 4, 0, 0
	for i := range 4 {
		for j := range 4 {
			if cells&(1<<(4*i+j)) != 0 {
				x0, y0, x1, y1 = min(x0, i), min(y0, j), max(x1, i+1), max(y1, j+1)
			}
		}
	}
	return rect(f[x0], f[y0], f[x1], f[y1])
}

// P4.1, P4.2: all pairs of rectangles of a field, held against their cells.
func TestAllPairs(t *testing.T) {
	for _, f := range fields() {
		all := f.all()
		for i, a := range all {
			if Empty(a.r) != (a.cells == 0) {
				t.Fatalf("Empty(%v) = %v", a.r, Empty(a.r))
			}
			for j, b := range all {
				checkPair(t, f, a, b)
				if Same(a.r, b.r) != (i == j) {
					t.Fatalf("Same(%v, %v) = %v", a.r, b.r, Same(a.r, b.r))
				}
			}
		}
	}
}

func checkPair(t *testing.T, f field, a, b seen) {
	t.Helper()
	if m := Meet(a.r, b.r); m != f.hull(a.cells&b.cells) {
		t.Fatalf("Meet(%v, %v) = %v", a.r, b.r, m)
	}
	if h := Hull(a.r, b.r); h != f.hull(a.cells|b.cells) {
		t.Fatalf("Hull(%v, %v) = %v", a.r, b.r, h)
	}
	if Within(a.r, b.r) != (a.cells&^b.cells == 0) {
		t.Fatalf("Within(%v, %v) = %v", a.r, b.r, Within(a.r, b.r))
	}
	if Apart(a.r, b.r) != (a.cells&b.cells == 0) {
		t.Fatalf("Apart(%v, %v) = %v", a.r, b.r, Apart(a.r, b.r))
	}
}

// P4.2: hulls of three, in the order that they come in.
func TestHullsOfThree(t *testing.T) {
	for _, f := range fields() {
		all := f.all()
		for i, a := range all {
			for j, b := range all {
				c := all[(31*i+7*j+3)%len(all)]
				if h := Hull(a.r, b.r, c.r); h != f.hull(a.cells|b.cells|c.cells) {
					t.Fatalf("Hull(%v, %v, %v) = %v", a.r, b.r, c.r, h)
				}
			}
		}
	}
}

// P4.3: all rectangles of a field, cut both ways at each of its numbers: the
// parts have each cell once, the first one those ahead.
func TestAllSplits(t *testing.T) {
	for _, f := range fields() {
		for _, a := range f.all() {
			for _, n := range f {
				checkSplit(t, f, a, true, n, f.cells(rect(least, least, n, most)))
				checkSplit(t, f, a, false, n, f.cells(rect(least, least, most, n)))
			}
		}
	}
}

func checkSplit(t *testing.T, f field, a seen, upright bool, n int, ahead uint) {
	t.Helper()
	var meant []api.Rect
	for _, c := range []uint{a.cells & ahead, a.cells &^ ahead} {
		if c != 0 {
			meant = append(meant, f.hull(c))
		}
	}
	if l := Split(a.r, upright, n); !slices.Equal(l, meant) {
		t.Fatalf("Split(%v, %v, %d) = %v; meant: %v", a.r, upright, n, l, meant)
	}
}

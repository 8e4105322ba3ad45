package place

import (
	"math"
	"testing"

	"gatherum/api"
	"gatherum/turn"
)

const (
	least = math.MinInt
	most  = math.MaxInt
)

func at(x, y int) api.Point { return api.Point{X: x, Y: y} }

func rect(x0, y0, x1, y1 int) api.Rect { return api.Rect{X0: x0, Y0: y0, X1: x1, Y1: y1} }

func put(t, x, y int) api.Place { return api.Place{Turn: t, X: x, Y: y} }

// eight: the first four numbers of the matrix of each turn, written out.
var eight = [8][4]int{
	{1, 0, 0, 1}, {0, 1, -1, 0}, {-1, 0, 0, -1}, {0, -1, 1, 0},
	{-1, 0, 0, 1}, {0, -1, -1, 0}, {1, 0, 0, -1}, {0, 1, 1, 0},
}

// odd: turns of any size, each beside the one from 0 to 7 as which it counts.
func odd() map[int]int {
	m := map[int]int{
		least: 0, least + 1: 1, least + 6: 6, least + 7: 7, most: 7, most - 1: 6, most - 7: 0,
		1<<32 + 3: 3, -1<<32 - 1: 7, 1<<62 + 5: 5, 1000003: 3, -1000003: 5,
	}
	for n := -24; n < 24; n++ {
		m[n] = (n + 24) % 8
	}
	return m
}

// ways: to all sides, along an axis, none, and up to both ends of the ints.
func ways() []api.Point {
	return []api.Point{
		{}, at(5, 0), at(-5, 0), at(0, 7), at(0, -7), at(10, 20), at(-10, 20), at(10, -20), at(-10, -20),
		at(1<<40, -1<<41), at(least, most), at(most, least), at(least, least), at(most, most), at(-most, 3), at(3, least+1),
	}
}

// points: such as no two turns bring to one place, and those at both ends of
// the ints.
func points() []api.Point {
	var l []api.Point
	ns := []int{0, 1, -2, 3, -300, 1 << 40, most, -most, least}
	for _, x := range ns {
		for _, y := range ns {
			l = append(l, at(x, y))
		}
	}
	return l
}

// places: each of the eight turns with each way.
func places() []api.Place {
	var l []api.Place
	for n := range 8 {
		for _, w := range ways() {
			l = append(l, put(n, w.X, w.Y))
		}
	}
	return l
}

// oddPlaces: turns of any size, with some ways.
func oddPlaces() []api.Place {
	var l []api.Place
	for n := range odd() {
		for _, w := range []api.Point{{}, at(10, -20), at(least, most), at(3, least+1)} {
			l = append(l, put(n, w.X, w.Y))
		}
	}
	return l
}

// rects: ordinary ones, empty ones, ones whose corners stand the other way
// round in x, in y, in both, and ones up to both ends of the ints.
func rects() []api.Rect {
	return []api.Rect{
		{}, rect(1, 2, 4, 9), rect(-4, -9, -1, -2), rect(-3, -5, 7, 11),
		rect(3, 2, 3, 9), rect(1, 2, 4, 2), rect(5, 5, 5, 5),
		rect(4, 2, 1, 9), rect(1, 9, 4, 2), rect(4, 9, 1, 2),
		rect(least, least, most, most), rect(most, most, least, least), rect(least, 0, most, 1),
		rect(0, most, 1, least), rect(least, least, least, least), rect(least, 0, 0, least), rect(most-1, -1, most, 1),
	}
}

// brought: where a brings p, by the table; products and sums go round.
func brought(a api.Place, p api.Point) api.Point {
	m := eight[((a.Turn%8)+8)%8]
	return at(m[0]*p.X+m[2]*p.Y+a.X, m[1]*p.X+m[3]*p.Y+a.Y)
}

// among: is n a turn from 0 to 7?
func among(n int) bool { return n >= 0 && n < 8 }

// P6.1: each turn, and then the way: not the way ahead of the turn.
func TestDo(t *testing.T) {
	for n, meant := range []api.Point{
		at(12, 23), at(7, 22), at(8, 17), at(13, 18),
		at(8, 23), at(7, 18), at(12, 17), at(13, 22),
	} {
		if p := Do(put(n, 10, 20), at(2, 3)); p != meant {
			t.Fatalf("Do(%d 10 20, 2 3) = %v; meant: %v", n, p, meant)
		}
	}
}

// P6.1: ways to all sides are gone as they are told.
func TestDoGoesToAllSides(t *testing.T) {
	for _, r := range []struct {
		a        api.Place
		p, meant api.Point
	}{
		{api.Place{}, at(2, 3), at(2, 3)},
		{put(0, 5, 0), at(2, 3), at(7, 3)},
		{put(0, -5, 0), at(2, 3), at(-3, 3)},
		{put(0, 0, 7), at(2, 3), at(2, 10)},
		{put(0, 0, -7), at(2, 3), at(2, -4)},
		{put(1, -5, 7), at(2, 3), at(-8, 9)},
		{put(6, -5, -7), at(0, 0), at(-5, -7)},
		{put(-1, 1, 1), at(2, 3), at(4, 3)},
		{put(-5, 1, 1), at(2, 3), at(4, -1)},
		{put(8, 1, 1), at(2, 3), at(3, 4)},
		{put(12, 1, 1), at(2, 3), at(-1, 4)},
	} {
		if p := Do(r.a, r.p); p != r.meant {
			t.Fatalf("Do(%v, %v) = %v; meant: %v", r.a, r.p, p, r.meant)
		}
	}
}

// P6.1: sums go round, and the least int, turned round, stays.
func TestDoAtTheEnds(t *testing.T) {
	for _, r := range []struct {
		a        api.Place
		p, meant api.Point
	}{
		{put(0, 1, -1), at(most, least), at(least, most)},
		{put(0, most, least), at(most, least), at(-2, 0)},
		{put(2, -1, 1), at(least, most), at(most, -most+1)},
		{put(4, least, 0), at(least, 5), at(0, 5)},
		{put(1, least, most), at(1, least), at(0, least)},
		{put(least, 0, 0), at(least, most), at(least, most)},
		{put(most, 1, 0), at(least, most), at(least, least)},
	} {
		if p := Do(r.a, r.p); p != r.meant {
			t.Fatalf("Do(%v, %v) = %v; meant: %v", r.a, r.p, p, r.meant)
		}
	}
}

// P6.1: the same, of all places and points, with turns of any size.
func TestDoOfAll(t *testing.T) {
	for _, a := range append(places(), oddPlaces()...) {
		for _, p := range points() {
			if got, meant := Do(a, p), brought(a, p); got != meant {
				t.Fatalf("Do(%v, %v) = %v; meant: %v", a, p, got, meant)
			}
		}
	}
}

// P6.1: where a rectangle comes by each turn, its sides named anew.
func TestBox(t *testing.T) {
	for n, meant := range []api.Rect{
		rect(11, 22, 14, 29), rect(1, 21, 8, 24), rect(6, 11, 9, 18), rect(12, 16, 19, 19),
		rect(6, 22, 9, 29), rect(1, 16, 8, 19), rect(11, 11, 14, 18), rect(12, 21, 19, 24),
	} {
		a := put(n, 10, 20)
		for _, r := range []api.Rect{rect(1, 2, 4, 9), rect(4, 2, 1, 9), rect(1, 9, 4, 2), rect(4, 9, 1, 2)} {
			if got := Box(a, r); got != meant {
				t.Fatalf("Box(%v, %v) = %v; meant: %v", a, r, got, meant)
			}
		}
	}
}

// P6.1: an empty rectangle is brought as any other; corners that stand the
// other way round are put right even where nothing is turned.
func TestBoxOfEmpty(t *testing.T) {
	for _, r := range []struct {
		a        api.Place
		r, meant api.Rect
	}{
		{api.Place{}, api.Rect{}, api.Rect{}},
		{put(5, 3, -4), api.Rect{}, rect(3, -4, 3, -4)},
		{put(1, 0, 0), rect(3, 2, 3, 9), rect(-9, 3, -2, 3)},
		{put(0, 1, 1), rect(1, 2, 4, 2), rect(2, 3, 5, 3)},
		{api.Place{}, rect(4, 9, 1, 2), rect(1, 2, 4, 9)},
		{api.Place{}, rect(4, 2, 1, 9), rect(1, 2, 4, 9)},
		{api.Place{}, rect(1, 9, 4, 2), rect(1, 2, 4, 9)},
	} {
		if got := Box(r.a, r.r); got != r.meant {
			t.Fatalf("Box(%v, %v) = %v; meant: %v", r.a, r.r, got, r.meant)
		}
	}
}

// P6.1: the lesser one and the greater one are taken of sums that went round.
func TestBoxAtTheEnds(t *testing.T) {
	for _, r := range []struct {
		a        api.Place
		r, meant api.Rect
	}{
		{put(0, 1, 0), rect(0, 0, most, 4), rect(least, 0, 1, 4)},
		{put(0, 0, -1), rect(0, least, 4, 0), rect(0, -1, 4, most)},
		{put(2, 0, 0), rect(least, least, most, most), rect(least, least, -most, -most)},
		{put(4, -1, 0), rect(least, 0, 0, 4), rect(-1, 0, most, 4)},
		{put(3, least, most), rect(1, least, 2, 0), rect(least, most-2, 0, most-1)},
		{put(0, most, least), rect(most, least, most, least), rect(-2, 0, -2, 0)},
	} {
		if got := Box(r.a, r.r); got != r.meant {
			t.Fatalf("Box(%v, %v) = %v; meant: %v", r.a, r.r, got, r.meant)
		}
	}
}

// P6.1: the same, of all places and rectangles, with turns of any size.
func TestBoxOfAll(t *testing.T) {
	for _, a := range append(places(), oddPlaces()...) {
		for _, r := range rects() {
			p, q := brought(a, at(r.X0, r.Y0)), brought(a, at(r.X1, r.Y1))
			meant := rect(p.X, p.Y, q.X, q.Y)
			if q.X < p.X {
				meant.X0, meant.X1 = q.X, p.X
			}
			if q.Y < p.Y {
				meant.Y0, meant.Y1 = q.Y, p.Y
			}
			if got := Box(a, r); got != meant {
				t.Fatalf("Box(%v, %v) = %v; meant: %v", a, r, got, meant)
			}
		}
	}
}

// P6.1: a's way is turned by b, b's is not.
func TestThen(t *testing.T) {
	for _, r := range []struct{ a, b, meant api.Place }{
		{api.Place{}, api.Place{}, api.Place{}},
		{put(0, 1, 2), put(0, 10, 20), put(0, 11, 22)},
		{put(1, 0, 0), put(0, 5, 0), put(1, 5, 0)},
		{put(0, 5, 0), put(1, 0, 0), put(1, 0, 5)},
		{put(1, 1, 2), put(4, 10, 20), put(7, 9, 22)},
		{put(4, 1, 2), put(1, 10, 20), put(5, 8, 21)},
		{put(6, -1, 2), put(7, 10, -20), put(1, 12, -21)},
		{put(-7, 1, 2), put(12, 10, 20), put(7, 9, 22)},
		{put(8, 1, 2), put(-8, 10, 20), put(0, 11, 22)},
		{put(0, most, least), put(0, 1, -1), put(0, least, most)},
		{put(3, least, most), put(2, least, -1), put(1, 0, least)},
		{put(least, most, most), put(most, most, least), put(7, -2, -1)},
	} {
		if got := Then(r.a, r.b); got != r.meant {
			t.Fatalf("Then(%v, %v) = %v; meant: %v", r.a, r.b, got, r.meant)
		}
	}
}

// checkThen: of a, and then b: turn's own Then, and where points come (P6.1,
// P6.3).
func checkThen(t *testing.T, a, b api.Place) {
	t.Helper()
	c := Then(a, b)
	if c.Turn != turn.Then(a.Turn, b.Turn) || !among(c.Turn) {
		t.Fatalf("Then(%v, %v) = %v", a, b, c)
	}
	for _, p := range []api.Point{{}, at(2, 3), at(-300, 1), at(least, most), at(most, least)} {
		if got, meant := Do(c, p), brought(b, brought(a, p)); got != meant {
			t.Fatalf("Then(%v, %v) brings %v to %v; meant: %v", a, b, p, got, meant)
		}
	}
}

// P6.1, P6.3: Then does the one, and then the other one, of all pairs of
// turns and ways; each pair's Back undoes it.
func TestThenOfAll(t *testing.T) {
	for _, a := range places() {
		for _, b := range places() {
			checkThen(t, a, b)
			if got, meant := Back(Then(a, b)), Then(Back(b), Back(a)); got != meant {
				t.Fatalf("back of %v, %v: %v; meant: %v", a, b, got, meant)
			}
		}
	}
}

// P6.1, P6.3: the same, of turns of any size.
func TestThenOfOdd(t *testing.T) {
	for _, a := range oddPlaces() {
		for _, b := range oddPlaces() {
			checkThen(t, a, b)
		}
	}
}

// P6.3: of three it is one whether the first two or the last two are taken
// together.
func TestThrees(t *testing.T) {
	for a := range 8 {
		for b := range 8 {
			for c := range 8 {
				x, y, z := put(a, 1, -20), put(b, most, 300), put(c, -4000, least)
				if left, right := Then(Then(x, y), z), Then(x, Then(y, z)); left != right {
					t.Fatalf("%v, %v, %v: %v and %v", x, y, z, left, right)
				}
			}
		}
	}
}

// P6.1: what undoes each turn with a way behind it.
func TestBack(t *testing.T) {
	for n, meant := range []api.Place{
		put(0, -10, -20), put(3, -20, 10), put(2, 10, 20), put(1, 20, -10),
		put(4, 10, -20), put(5, 20, 10), put(6, -10, 20), put(7, -20, -10),
	} {
		for _, like := range []int{n, n - 8, n + 8, n + least, n + 1<<62} {
			if got := Back(put(like, 10, 20)); got != meant {
				t.Fatalf("Back(%d 10 20) = %v; meant: %v", like, got, meant)
			}
		}
	}
}

// P6.1: the least int's way back is itself.
func TestBackAtTheEnds(t *testing.T) {
	for _, r := range []struct{ a, meant api.Place }{
		{put(0, least, most), put(0, least, -most)},
		{put(1, least, most), put(3, -most, least)},
		{put(4, most, least), put(4, most, least)},
		{put(least, least, least), put(0, least, least)},
		{put(most, least, 1), put(7, -1, least)},
	} {
		if got := Back(r.a); got != r.meant {
			t.Fatalf("Back(%v) = %v; meant: %v", r.a, got, r.meant)
		}
	}
}

// P6.1, P6.3: Back undoes, from both sides, and is undone; its Turn is from 0
// to 7.
func TestBackUndoes(t *testing.T) {
	for _, a := range append(places(), oddPlaces()...) {
		b := Back(a)
		if !among(b.Turn) {
			t.Fatalf("Back(%v) = %v", a, b)
		}
		if Then(a, b) != (api.Place{}) || Then(b, a) != (api.Place{}) {
			t.Fatalf("%v and its Back: %v, %v", a, Then(a, b), Then(b, a))
		}
		if among(a.Turn) && Back(b) != a {
			t.Fatalf("back of %v, the Back of %v: %v", b, a, Back(b))
		}
		for _, p := range points() {
			if Do(b, Do(a, p)) != p || Do(a, Do(b, p)) != p {
				t.Fatalf("Back(%v) = %v doesn't bring %v back", a, b, p)
			}
		}
	}
}

// P6.3: Back brings a rectangle whose corners stand right back, as long as no
// sum goes round.
func TestBackOfBox(t *testing.T) {
	for n := range 8 {
		for _, r := range []api.Rect{{}, rect(1, 2, 4, 9), rect(-3, -5, 7, 11), rect(3, 2, 3, 9)} {
			a := put(n, -10, 20)
			if got := Box(Back(a), Box(a, r)); got != r {
				t.Fatalf("%v, there and back by %v: %v", r, a, got)
			}
		}
	}
}

// P6.1: no turn, and the way as it is told.
func TestMove(t *testing.T) {
	for _, w := range append(ways(), points()...) {
		a := Move(w.X, w.Y)
		if a != put(0, w.X, w.Y) {
			t.Fatalf("Move(%d, %d) = %v", w.X, w.Y, a)
		}
		for _, p := range points() {
			if got := Do(a, p); got != at(p.X+w.X, p.Y+w.Y) {
				t.Fatalf("Move(%d, %d) brings %v to %v", w.X, w.Y, p, got)
			}
		}
	}
}

// sums: ordinary ones, and both ends of the ints.
func sums() []int {
	return []int{0, 1, -1, 10, -300, 1 << 40, most, most - 1, -most, least}
}

// P6.1: x y comes to sum less x, y, and to x, sum less y.
func TestFlips(t *testing.T) {
	for _, s := range sums() {
		for _, p := range points() {
			if got := Do(FlipX(s), p); got != at(s-p.X, p.Y) {
				t.Fatalf("FlipX(%d) brings %v to %v", s, p, got)
			}
			if got := Do(FlipY(s), p); got != at(p.X, s-p.Y) {
				t.Fatalf("FlipY(%d) brings %v to %v", s, p, got)
			}
		}
	}
}

// P6.1: the one place that does so, of those with a Turn from 0 to 7; each
// undoes itself.
func TestFlipsAsPlaces(t *testing.T) {
	for _, s := range sums() {
		x, y := FlipX(s), FlipY(s)
		if x != put(4, s, 0) || y != put(6, 0, s) {
			t.Fatalf("FlipX(%d), FlipY(%d) = %v, %v", s, s, x, y)
		}
		if Back(x) != x || Back(y) != y {
			t.Fatalf("Back of FlipX(%d), FlipY(%d): %v, %v", s, s, Back(x), Back(y))
		}
	}
}

// P6.1: at the ends: a sum less a number goes round.
func TestFlipsAtTheEnds(t *testing.T) {
	for _, r := range []struct {
		a        api.Place
		p, meant api.Point
	}{
		{FlipX(least), at(1, least), at(most, least)},
		{FlipX(most), at(least, 7), at(-1, 7)},
		{FlipX(0), at(least, 7), at(least, 7)},
		{FlipY(least), at(least, 1), at(least, most)},
		{FlipY(most), at(7, -1), at(7, least)},
		{FlipY(least), at(7, least), at(7, 0)},
	} {
		if p := Do(r.a, r.p); p != r.meant {
			t.Fatalf("Do(%v, %v) = %v; meant: %v", r.a, r.p, p, r.meant)
		}
	}
}

// matrix: that of a, by the table.
func matrix(a api.Place) [6]int {
	m := eight[((a.Turn%8)+8)%8]
	return [6]int{m[0], m[1], m[2], m[3], a.X, a.Y}
}

// P6.2: each turn's numbers in their order, and the way behind them; turns of
// any size count modulo 8.
func TestMatrix(t *testing.T) {
	for _, a := range append(places(), oddPlaces()...) {
		if got := Matrix(a); got != matrix(a) {
			t.Fatalf("Matrix(%v) = %v; meant: %v", a, got, matrix(a))
		}
	}
	if got := Matrix(put(1, 10, 20)); got != [6]int{0, 1, -1, 0, 10, 20} {
		t.Fatalf("Matrix(1 10 20) = %v", got)
	}
}

// P6.2: x y comes to a x and c y and e, b x and d y and f.
func TestMatrixIsSeen(t *testing.T) {
	for _, a := range append(places(), oddPlaces()...) {
		m := Matrix(a)
		for _, p := range points() {
			meant := at(m[0]*p.X+m[2]*p.Y+m[4], m[1]*p.X+m[3]*p.Y+m[5])
			if got := Do(a, p); got != meant {
				t.Fatalf("%v brings %v to %v; by its Matrix: %v", a, p, got, meant)
			}
		}
	}
}

func checkOf(t *testing.T, m [6]int, meant api.Place, is bool) {
	t.Helper()
	if a, ok := Of(m); a != meant || ok != is {
		t.Fatalf("Of(%v) = %v, %v; meant: %v, %v", m, a, ok, meant, is)
	}
}

// P6.2: the place whose Matrix it is, with a Turn from 0 to 7.
func TestOf(t *testing.T) {
	for _, a := range places() {
		checkOf(t, matrix(a), a, true)
		checkOf(t, Matrix(a), a, true)
	}
	for _, a := range oddPlaces() {
		checkOf(t, Matrix(a), put(odd()[a.Turn], a.X, a.Y), true)
	}
}

// P6.2: what is no place's Matrix is none, and the place beside is zero (P4).
func TestOfWrongArrays(t *testing.T) {
	for _, m := range [][6]int{
		{}, {0, 0, 0, 0, 10, 20}, {1, 1, 1, 1}, {-1, -1, -1, -1, 5, 5},
		{1, 1, 0, 0}, {0, 0, 1, 1}, {1, 0, 1, 0}, {0, 1, 0, 1}, {1, -1, 0, 0}, {-1, 0, 1, 0, 3, 4},
		{1, 0, 0, 0}, {0, 1, 0, 0}, {0, 0, 1, 0}, {0, 0, 0, -1, 1, 1},
		{1, 1, 0, 1}, {1, 0, 1, 1}, {0, 1, 1, 1}, {1, 1, -1, 0}, {1, 1, -1, 1},
		{2, 0, 0, 2}, {1, 0, 0, 2}, {-2, 0, 0, 1}, {0, 2, -2, 0}, {0, 1, -3, 0, 7, 7},
		{9, 0, 0, 1}, {1 << 32, 0, 0, 1}, {1<<32 + 1, 0, 0, 1, 10, 20}, {255, 0, 0, 1},
		{least, 0, 0, least}, {most, 0, 0, most}, {0, least, most, 0}, {1, least, 0, 1, least, most}, {1, 0, most, 1},
	} {
		checkOf(t, m, api.Place{}, false)
	}
}

// P6.2: of all arrays whose first four numbers are from -2 to 2, or at the
// ends of the ints, just the eight are found.
func TestOfAllSmallArrays(t *testing.T) {
	ns := []int{least, -2, -1, 0, 1, 2, most}
	found := 0
	for i := range len(ns) * len(ns) * len(ns) * len(ns) {
		four := [4]int{ns[i%7], ns[i/7%7], ns[i/49%7], ns[i/343]}
		meant, is := api.Place{}, false
		for n, m := range eight {
			if m == four {
				meant, is = put(n, least, 20), true
				found++
			}
		}
		checkOf(t, [6]int{four[0], four[1], four[2], four[3], least, 20}, meant, is)
	}
	if found != 8 {
		t.Fatalf("%d of the eight were gone through", found)
	}
}

// P6.1: the chapter's example.
func TestExample(t *testing.T) {
	if p := Do(FlipX(10), at(2, 3)); p != at(8, 3) {
		t.Fatalf("FlipX of 10: 2 3 to %v", p)
	}
}

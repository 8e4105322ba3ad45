package grid

import (
	"math"
	"slices"
	"testing"

	"gatherum/api"
)

const (
	least = math.MinInt
	most  = math.MaxInt
)

// sizes: columns and rows of ordinary grids, of the least and of the greatest.
func sizes() [][2]int {
	return [][2]int{{1, 1}, {2, 1}, {1, 2}, {2, 2}, {3, 2}, {2, 3}, {4, 5}, {7, 3}, {1, 64}, {64, 1}, {64, 63}, {64, 64}}
}

// smallSizes: of which all parts may be asked.
func smallSizes() [][2]int {
	return [][2]int{{1, 1}, {2, 1}, {1, 2}, {3, 2}, {2, 3}, {4, 4}, {5, 3}}
}

// mark: a thing that tells its place, and is never zero.
func mark(col, row int) int { return 1000 + 100*row + col }

func fresh[T any](t *testing.T, cols, rows int) *Grid[T] {
	t.Helper()
	g := New[T](cols, rows)
	if g == nil {
		t.Fatalf("New(%d, %d) = nil", cols, rows)
	}
	return g
}

// marked: a grid whose things tell their places.
func marked(t *testing.T, cols, rows int) *Grid[int] {
	t.Helper()
	g := fresh[int](t, cols, rows)
	for row := range rows {
		for col := range cols {
			if !g.Set(col, row, mark(col, row)) {
				t.Fatalf("%d by %d: Set(%d, %d) = false", cols, rows, col, row)
			}
		}
	}
	return g
}

// told: a place, and the thing there.
type told[T any] struct {
	at api.Point
	x  T
}

// walk: all that a walk tells.
func walk[T any](g *Grid[T]) []told[T] {
	var l []told[T]
	for at, x := range g.All() {
		l = append(l, told[T]{at, x})
	}
	return l
}

// meantWalk: what a walk of a grid of that size ought to tell.
func meantWalk(cols, rows int, thing func(col, row int) int) []told[int] {
	var l []told[int]
	for row := range rows {
		for col := range cols {
			l = append(l, told[int]{api.Point{X: col, Y: row}, thing(col, row)})
		}
	}
	return l
}

// checkGrid: its size, and each thing, by At and by All; no more beside them.
func checkGrid(t *testing.T, name string, g *Grid[int], cols, rows int, thing func(col, row int) int) {
	t.Helper()
	if g == nil || g.Cols() != cols || g.Rows() != rows {
		t.Fatalf("%s: %v, %d by %d; meant: %d by %d", name, g, g.Cols(), g.Rows(), cols, rows)
	}
	for row := -1; row <= rows; row++ {
		for col := -1; col <= cols; col++ {
			meant, is := 0, col >= 0 && col < cols && row >= 0 && row < rows
			if is {
				meant = thing(col, row)
			}
			if x, ok := g.At(col, row); x != meant || ok != is {
				t.Fatalf("%s: At(%d, %d) = %d, %v; meant: %d, %v", name, col, row, x, ok, meant, is)
			}
		}
	}
	if l := walk(g); !slices.Equal(l, meantWalk(cols, rows, thing)) {
		t.Fatalf("%s: All tells %v", name, l)
	}
}

func zero(col, row int) int { return 0 }

// outside: places just outside on each side and corner, and at the ends of
// the ints, also such that a place reckoned from them would be within.
func outside(cols, rows int) []api.Point {
	l := []api.Point{
		{X: -1, Y: 0}, {X: 0, Y: -1}, {X: cols, Y: 0}, {X: 0, Y: rows},
		{X: -1, Y: -1}, {X: cols, Y: rows}, {X: -1, Y: rows}, {X: cols, Y: -1},
		{X: cols - 1, Y: rows}, {X: cols, Y: rows - 1}, {X: -1, Y: rows - 1}, {X: cols - 1, Y: -1},
		{X: -cols, Y: 1}, {X: cols, Y: -1}, {X: 2 * cols, Y: -1}, {X: cols * rows, Y: 0}, {X: 0, Y: cols * rows},
		{X: 1 << 32, Y: 0}, {X: 0, Y: 1 << 32}, {X: -1 << 32, Y: 0}, {X: 0, Y: 1 << 62}, {X: 0, Y: least / 64 * 2},
		{X: 256, Y: 0}, {X: 0, Y: 256}, {X: 65536, Y: 65536},
	}
	for _, end := range []int{least, least + 1, -most + 1, most - 1, most} {
		l = append(l, api.Point{X: end}, api.Point{Y: end}, api.Point{X: end, Y: end}, api.Point{X: cols - 1, Y: end},
			api.Point{X: end, Y: rows - 1}, api.Point{X: end, Y: -1 - end})
	}
	return l
}

// P7.1: zero things, as many as are asked for.
func TestNew(t *testing.T) {
	for _, s := range sizes() {
		checkGrid(t, "new", New[int](s[0], s[1]), s[0], s[1], zero)
	}
}

// P7.1: all sizes from 1 to 64 are had, and no others.
func TestNewOfAllSides(t *testing.T) {
	ns := []int{least, least + 1, -1 << 32, -65, 1 << 32, 1<<32 + 1, 1 << 62, most - 1, most, 128, 256, 257, 65537}
	for n := -3; n <= 70; n++ {
		ns = append(ns, n)
	}
	for _, cols := range ns {
		for _, rows := range ns {
			g := New[byte](cols, rows)
			is := cols >= 1 && cols <= 64 && rows >= 1 && rows <= 64
			if is != (g != nil) {
				t.Fatalf("New(%d, %d) = %v", cols, rows, g)
			}
			if is && (g.Cols() != cols || g.Rows() != rows) {
				t.Fatalf("New(%d, %d) is %d by %d", cols, rows, g.Cols(), g.Rows())
			}
		}
	}
}

// P7.1: the limit is api's.
func TestNewAtTheLimit(t *testing.T) {
	const n = api.MaxSide
	if New[int](n, n) == nil || New[int](n+1, 1) != nil || New[int](1, n+1) != nil {
		t.Fatalf("sides of %d, and of one more", n)
	}
}

// P7.1: two new grids have nothing together (P2).
func TestNewSharesNothing(t *testing.T) {
	a, b := fresh[int](t, 2, 2), fresh[int](t, 2, 2)
	a.Set(1, 1, 5)
	checkGrid(t, "the other one", b, 2, 2, zero)
}

// P7.1: columns are counted from the left, rows from below, both from 0 on.
func TestSetAndAt(t *testing.T) {
	for _, s := range sizes() {
		checkGrid(t, "set", marked(t, s[0], s[1]), s[0], s[1], mark)
	}
}

// P7.1: one thing that is set changes no other one, at any place.
func TestSetOne(t *testing.T) {
	for _, s := range smallSizes() {
		for row := range s[1] {
			for col := range s[0] {
				g := marked(t, s[0], s[1])
				if !g.Set(col, row, -7) {
					t.Fatalf("%d by %d: Set(%d, %d) = false", s[0], s[1], col, row)
				}
				checkGrid(t, "one set", g, s[0], s[1], func(c, r int) int {
					if c == col && r == row {
						return -7
					}
					return mark(c, r)
				})
			}
		}
	}
}

// P7.1: the last thing that was laid at a place stands there, a zero one too.
func TestSetTwice(t *testing.T) {
	g := fresh[int](t, 3, 2)
	for _, x := range []int{4, 9, 9, least, most, 0, 5} {
		if ok := g.Set(2, 1, x); !ok {
			t.Fatalf("Set(2, 1, %d) = false", x)
		}
		if got, ok := g.At(2, 1); got != x || !ok {
			t.Fatalf("At(2, 1) = %d, %v; meant: %d", got, ok, x)
		}
	}
}

// P7.1: outside there is nothing, and nothing can be laid.
func TestOutside(t *testing.T) {
	for _, s := range sizes() {
		g := marked(t, s[0], s[1])
		for _, p := range outside(s[0], s[1]) {
			if x, ok := g.At(p.X, p.Y); x != 0 || ok {
				t.Fatalf("%d by %d: At(%d, %d) = %d, %v", s[0], s[1], p.X, p.Y, x, ok)
			}
			if g.Set(p.X, p.Y, -1) {
				t.Fatalf("%d by %d: Set(%d, %d) = true", s[0], s[1], p.X, p.Y)
			}
		}
		checkGrid(t, "set outside", g, s[0], s[1], mark)
	}
}

// P7.1: the order of a walk, written out.
func TestAll(t *testing.T) {
	g := fresh[string](t, 3, 2)
	g.Set(0, 0, "a")
	g.Set(2, 0, "c")
	g.Set(1, 1, "e")
	meant := []told[string]{
		{api.Point{X: 0, Y: 0}, "a"}, {api.Point{X: 1, Y: 0}, ""}, {api.Point{X: 2, Y: 0}, "c"},
		{api.Point{X: 0, Y: 1}, ""}, {api.Point{X: 1, Y: 1}, "e"}, {api.Point{X: 2, Y: 1}, ""},
	}
	if l := walk(g); !slices.Equal(l, meant) {
		t.Fatalf("All tells %v; meant: %v", l, meant)
	}
}

// P7.1: a walk is left at its first, at a middle and at its last thing, and
// no more is told then; gone through again, it begins anew (P2).
func TestAllIsLeft(t *testing.T) {
	for _, s := range [][2]int{{1, 1}, {3, 2}, {2, 5}, {64, 64}} {
		seq := marked(t, s[0], s[1]).All()
		whole := meantWalk(s[0], s[1], mark)
		for _, wanted := range []int{1, len(whole)/2 + 1, len(whole), 1, len(whole)} {
			var l []told[int]
			seq(func(at api.Point, x int) bool {
				l = append(l, told[int]{at, x})
				return len(l) < wanted
			})
			if !slices.Equal(l, whole[:min(wanted, len(whole))]) {
				t.Fatalf("%d by %d, left at %d: %v", s[0], s[1], wanted, l)
			}
		}
	}
}

// P7.1: one sequence, gone through within itself.
func TestAllWithinAll(t *testing.T) {
	g := marked(t, 3, 2)
	seq, n := g.All(), 0
	for p, x := range seq {
		for q, y := range seq {
			if y == x && p != q {
				t.Fatalf("%d at %v and %v", x, p, q)
			}
			n++
		}
	}
	if n != 36 {
		t.Fatalf("%d pairs", n)
	}
}

// P2: a walk tells what there was when it began, whatever is set while it
// goes on; the next one of the same sequence tells what was set.
func TestSetWhileAWalkGoesOn(t *testing.T) {
	g := marked(t, 3, 2)
	seq := g.All()
	var l []told[int]
	for at, x := range seq {
		l = append(l, told[int]{at, x})
		for i := range 6 {
			g.Set(i%3, i/3, -x)
		}
	}
	if !slices.Equal(l, meantWalk(3, 2, mark)) {
		t.Fatalf("the walk tells %v", l)
	}
	l = nil
	for at, x := range seq {
		l = append(l, told[int]{at, x})
	}
	if !slices.Equal(l, meantWalk(3, 2, func(int, int) int { return -mark(2, 1) })) {
		t.Fatalf("the next walk tells %v", l)
	}
}

// P2: what is set between the asking for a sequence and the walk is told.
func TestSetAheadOfAWalk(t *testing.T) {
	g := fresh[int](t, 4, 5)
	seq := g.All()
	for at := range seq {
		g.Set(at.X, at.Y, mark(at.X, at.Y))
	}
	var l []told[int]
	for at, x := range seq {
		l = append(l, told[int]{at, x})
	}
	if !slices.Equal(l, meantWalk(4, 5, mark)) {
		t.Fatalf("the walk tells %v", l)
	}
}

// P2: two walks that began at different times each tell what there was then.
func TestTwoWalksWithASetBetween(t *testing.T) {
	g := fresh[int](t, 2, 1)
	seq := g.All()
	var outer, inner []int
	for at, x := range seq {
		outer = append(outer, x)
		g.Set(1, 0, 10+at.X)
		for _, y := range seq {
			inner = append(inner, y)
		}
	}
	if !slices.Equal(outer, []int{0, 0}) || !slices.Equal(inner, []int{0, 10, 0, 11}) {
		t.Fatalf("the walks tell %v and %v", outer, inner)
	}
}

// P7.2: a part at each corner, in the middle, of one thing, and the whole.
func TestPart(t *testing.T) {
	g := marked(t, 5, 4)
	for _, r := range [][4]int{
		{0, 0, 2, 2}, {3, 0, 2, 1}, {0, 2, 1, 2}, {3, 3, 2, 1}, {1, 1, 3, 2}, {2, 1, 1, 1},
		{0, 0, 1, 1}, {4, 3, 1, 1}, {0, 1, 5, 2}, {1, 0, 2, 4}, {0, 0, 5, 4},
	} {
		p := g.Part(r[0], r[1], r[2], r[3])
		checkGrid(t, "part", p, r[2], r[3], func(c, w int) int { return mark(c+r[0], w+r[1]) })
	}
}

// P7.2: all parts of small grids, and all that are not there.
func TestPartOfAll(t *testing.T) {
	for _, s := range smallSizes() {
		g := marked(t, s[0], s[1])
		for col := -2; col <= s[0]+1; col++ {
			for cols := -2; cols <= s[0]+2; cols++ {
				for row := -2; row <= s[1]+1; row++ {
					for rows := -2; rows <= s[1]+2; rows++ {
						checkPart(t, g, col, row, cols, rows)
					}
				}
			}
		}
		checkGrid(t, "parted", g, s[0], s[1], mark)
	}
}

func checkPart(t *testing.T, g *Grid[int], col, row, cols, rows int) {
	t.Helper()
	p := g.Part(col, row, cols, rows)
	is := col >= 0 && row >= 0 && cols > 0 && rows > 0 && col+cols <= g.Cols() && row+rows <= g.Rows()
	if is {
		checkGrid(t, "part", p, cols, rows, func(c, r int) int { return mark(c+col, r+row) })
	} else if p != nil {
		t.Fatalf("%d by %d: Part(%d, %d, %d, %d) = %v", g.Cols(), g.Rows(), col, row, cols, rows, p)
	}
}

// P7.2: of the greatest grid: the whole, its corners, and one place more.
func TestPartOfTheGreatest(t *testing.T) {
	g := marked(t, 64, 64)
	for _, r := range [][4]int{{0, 0, 64, 64}, {63, 63, 1, 1}, {0, 63, 64, 1}, {63, 0, 1, 64}, {1, 2, 63, 62}} {
		checkPart(t, g, r[0], r[1], r[2], r[3])
	}
	for _, r := range [][4]int{
		{0, 0, 65, 64}, {0, 0, 64, 65}, {1, 0, 64, 64}, {0, 1, 64, 64}, {-1, 0, 64, 64}, {0, -1, 64, 64},
		{-1, 0, 65, 64}, {0, -1, 64, 65}, {64, 0, 1, 1}, {0, 64, 1, 1}, {64, 64, 0, 0},
	} {
		checkPart(t, g, r[0], r[1], r[2], r[3])
	}
}

// P7.2: numbers at the ends of the ints, also such that the sum of two goes
// round to a number within.
func TestPartAtTheEnds(t *testing.T) {
	ends := []int{least, least + 1, least + 2, -most, -1, 0, 1, 2, 3, 1 << 32, 1<<32 + 1, 1 << 62, most - 2, most - 1, most}
	g := marked(t, 3, 2)
	for _, a := range ends {
		for _, n := range ends {
			if p := g.Part(a, 0, n, 1); (p != nil) != (a >= 0 && a < 3 && n > 0 && n <= 3-a) {
				t.Fatalf("Part(%d, 0, %d, 1) = %v", a, n, p)
			}
			if p := g.Part(0, a, 1, n); (p != nil) != (a >= 0 && a < 2 && n > 0 && n <= 2-a) {
				t.Fatalf("Part(0, %d, 1, %d) = %v", a, n, p)
			}
			if p := g.Part(a, a, n, n); (p != nil) != (a >= 0 && a < 2 && n > 0 && n <= 2-a) {
				t.Fatalf("Part(%d, %d, %d, %d) = %v", a, a, n, n, p)
			}
		}
	}
}

// P7.2: a part of a part.
func TestPartOfPart(t *testing.T) {
	p := marked(t, 6, 5).Part(1, 2, 4, 3).Part(2, 1, 2, 2)
	checkGrid(t, "part of a part", p, 2, 2, func(c, r int) int { return mark(c+3, r+3) })
}

// P7.2: left and right changed about, or below and above; twice, as it was.
func TestMirror(t *testing.T) {
	for _, s := range sizes() {
		cols, rows := s[0], s[1]
		g := marked(t, cols, rows)
		sideways, over := g.Mirror(true), g.Mirror(false)
		checkGrid(t, "upright", sideways, cols, rows, func(c, r int) int { return mark(cols-1-c, r) })
		checkGrid(t, "level", over, cols, rows, func(c, r int) int { return mark(c, rows-1-r) })
		checkGrid(t, "upright, twice", sideways.Mirror(true), cols, rows, mark)
		checkGrid(t, "level, twice", over.Mirror(false), cols, rows, mark)
		both := func(c, r int) int { return mark(cols-1-c, rows-1-r) }
		checkGrid(t, "upright, then level", sideways.Mirror(false), cols, rows, both)
		checkGrid(t, "level, then upright", over.Mirror(true), cols, rows, both)
		checkGrid(t, "mirrored", g, cols, rows, mark)
	}
}

// P7.2: the mirror, written out.
func TestMirrorOfTexts(t *testing.T) {
	g := fresh[string](t, 3, 2)
	for i, x := range []string{"a", "b", "c", "d", "e", "f"} {
		g.Set(i%3, i/3, x)
	}
	for upright, meant := range map[bool]string{true: "cbafed", false: "defabc"} {
		got := ""
		for _, x := range g.Mirror(upright).All() {
			got += x
		}
		if got != meant {
			t.Fatalf("Mirror(%v): %s; meant: %s", upright, got, meant)
		}
	}
}

// P7.2, P2: a part or a mirrored grid is one of its own: what is changed in it
// leaves the grid as it was, and the other way round.
func TestGridsOfTheirOwn(t *testing.T) {
	for _, s := range [][2]int{{1, 1}, {1, 4}, {4, 1}, {3, 2}, {64, 64}} {
		for name, of := range map[string]func(*Grid[int]) *Grid[int]{
			"whole part": func(g *Grid[int]) *Grid[int] { return g.Part(0, 0, g.Cols(), g.Rows()) },
			"first row":  func(g *Grid[int]) *Grid[int] { return g.Part(0, 0, g.Cols(), 1) },
			"upright":    func(g *Grid[int]) *Grid[int] { return g.Mirror(true) },
			"level":      func(g *Grid[int]) *Grid[int] { return g.Mirror(false) },
		} {
			g := marked(t, s[0], s[1])
			changed, kept, again := of(g), of(g), of(g)
			fill(changed, -1)
			checkGrid(t, name+" changed", g, s[0], s[1], mark)
			checkSame(t, name+", another one changed", kept, again)
			fill(g, -2)
			checkSame(t, name+", the grid changed", kept, of(marked(t, s[0], s[1])))
			checkGrid(t, name, changed, changed.Cols(), changed.Rows(), func(int, int) int { return -1 })
		}
	}
}

func fill(g *Grid[int], x int) {
	for row := range g.Rows() {
		for col := range g.Cols() {
			g.Set(col, row, x)
		}
	}
}

func checkSame(t *testing.T, name string, a, b *Grid[int]) {
	t.Helper()
	if a.Cols() != b.Cols() || a.Rows() != b.Rows() || !slices.Equal(walk(a), walk(b)) {
		t.Fatalf("%s: %v; meant: %v", name, walk(a), walk(b))
	}
}

// P2: a grid that is changed while its part or mirror is walked, and the
// other way round, is told as it was.
func TestWalkOfAPartWhileTheGridIsSet(t *testing.T) {
	g := marked(t, 4, 3)
	p, n := g.Part(1, 1, 2, 2), 0
	for at, x := range p.All() {
		fill(g, -1)
		if x != mark(at.X+1, at.Y+1) {
			t.Fatalf("%d at %v", x, at)
		}
		n++
	}
	if n != 4 {
		t.Fatalf("%d things", n)
	}
}

// P2: things are kept as they are: what a list's elements are is not copied.
func TestThingsAreKeptAsTheyAre(t *testing.T) {
	list := []int{1, 2, 3}
	g := fresh[[]int](t, 2, 1)
	g.Set(1, 0, list)
	for name, h := range map[string]*Grid[[]int]{"the grid": g, "a part": g.Part(1, 0, 1, 1), "mirrored": g.Mirror(true)} {
		x, ok := h.At(0, 0)
		if h == g {
			x, ok = h.At(1, 0)
		}
		if !ok || len(x) != 3 || &x[0] != &list[0] {
			t.Fatalf("%s: %v, %v", name, x, ok)
		}
	}
}

// P7.1: of functions, pointers, anys and things without a size, too.
func TestOtherTypes(t *testing.T) {
	f := fresh[func() int](t, 1, 2)
	f.Set(0, 1, func() int { return 7 })
	if x, ok := f.Mirror(false).At(0, 0); !ok || x == nil || x() != 7 {
		t.Fatal("of functions")
	}
	if x, ok := f.At(0, 0); !ok || x != nil {
		t.Fatal("of functions, a zero one")
	}
	a := fresh[any](t, 2, 1)
	a.Set(0, 0, "x")
	if x, ok := a.Mirror(true).At(1, 0); !ok || x != "x" {
		t.Fatal("of anys")
	}
	if x, ok := a.Mirror(true).At(0, 0); !ok || x != nil {
		t.Fatal("of anys, a zero one")
	}
	e := fresh[struct{}](t, 64, 64)
	if l := walk(e.Part(1, 1, 63, 63)); len(l) != 63*63 || l[63].at != (api.Point{X: 0, Y: 1}) {
		t.Fatal("of things without a size")
	}
	g := fresh[*Grid[int]](t, 1, 1)
	g.Set(0, 0, marked(t, 2, 2))
	x, _ := g.At(0, 0)
	checkGrid(t, "within another one", x, 2, 2, mark)
}

// P7.2: of nil: 0, zero things, false, nothing, nil.
func TestNil(t *testing.T) {
	var g *Grid[string]
	if g.Cols() != 0 || g.Rows() != 0 {
		t.Fatalf("%d by %d", g.Cols(), g.Rows())
	}
	for _, p := range append(outside(1, 1), api.Point{}) {
		if x, ok := g.At(p.X, p.Y); x != "" || ok {
			t.Fatalf("At(%d, %d) = %q, %v", p.X, p.Y, x, ok)
		}
		if g.Set(p.X, p.Y, "a") {
			t.Fatalf("Set(%d, %d) = true", p.X, p.Y)
		}
		for _, n := range []int{least, -1, 0, 1, 64, most} {
			if g.Part(p.X, p.Y, n, n) != nil {
				t.Fatalf("Part(%d, %d, %d, %d) is one", p.X, p.Y, n, n)
			}
		}
	}
	if g.Mirror(true) != nil || g.Mirror(false) != nil {
		t.Fatal("a mirrored one")
	}
}

// P7.2, P2: the sequence of a nil grid is not nil, and has nothing.
func TestAllOfNil(t *testing.T) {
	var g *Grid[string]
	seq := g.All()
	if seq == nil {
		t.Fatal("no sequence")
	}
	for range 2 {
		for at, x := range seq {
			t.Fatalf("%q at %v", x, at)
		}
	}
}

// P7.2: what answers nil is answered to as any other nil grid.
func TestNilOfCalls(t *testing.T) {
	g := marked(t, 3, 2)
	for _, none := range []*Grid[int]{New[int](0, 1), New[int](1, 65), g.Part(3, 0, 1, 1), g.Part(0, 0, 0, 1).Mirror(true)} {
		if none != nil || none.Cols() != 0 || none.Rows() != 0 || none.Set(0, 0, 1) || len(walk(none)) != 0 || none.Part(0, 0, 1, 1) != nil {
			t.Fatalf("%v", none)
		}
	}
}

// P1: a grid that New did not make has no place.
func TestZeroGrid(t *testing.T) {
	var g Grid[int]
	if _, ok := g.At(0, 0); ok || g.Set(0, 0, 1) || g.Cols() != 0 || g.Rows() != 0 || len(walk(&g)) != 0 {
		t.Fatal("a place")
	}
	if g.Part(0, 0, 1, 1) != nil || g.Mirror(true) != nil || g.Mirror(false) != nil {
		t.Fatal("a grid of it")
	}
}

package spine

import (
	"math"
	"slices"
	"strconv"
	"strings"
	"testing"

	"gatherum/api"
	"gatherum/scheme"
)

const (
	least = math.MinInt
	most  = math.MaxInt
)

func of(cols, rows int, l ...api.Step) api.Scheme {
	return api.Scheme{Cols: cols, Rows: rows, Steps: l}
}

func fromLeft(n int) api.Step   { return api.Step{Side: api.Left, N: n} }
func fromRight(n int) api.Step  { return api.Step{Side: api.Right, N: n} }
func fromBottom(n int) api.Step { return api.Step{Side: api.Bottom, N: n} }
func fromTop(n int) api.Step    { return api.Step{Side: api.Top, N: n} }

func below(s api.Step) api.Step {
	s.Under = true
	return s
}

// find: the scheme of that name in the catalogue.
func find(t *testing.T, name string) api.Scheme {
	t.Helper()
	s, ok := scheme.Find(name)
	if !ok {
		t.Fatalf("no scheme %s", name)
	}
	return s
}

// known: the schemes of the catalogue.
func known(t *testing.T) []api.Scheme {
	t.Helper()
	var l []api.Scheme
	for _, name := range scheme.Names() {
		l = append(l, find(t, name))
	}
	if len(l) != 21 {
		t.Fatalf("%d schemes", len(l))
	}
	return l
}

// some: a scheme that a failure may show whole.
func some(s api.Scheme) api.Scheme {
	s.Steps = s.Steps[:min(len(s.Steps), 9)]
	return s
}

// pair is two leaves, the lesser number first.
type pair struct{ a, b int }

func checkEdge(t *testing.T, s api.Scheme, a, b, meant int) {
	t.Helper()
	if e := Edge(s, a, b); e != meant {
		t.Fatalf("Edge(%v, %d, %d) = %d; meant: %d", some(s), a, b, e, meant)
	}
	if e := Edge(s, b, a); e != meant {
		t.Fatalf("Edge(%v, %d, %d) = %d; meant: %d", some(s), b, a, e, meant)
	}
}

func checkNests(t *testing.T, s api.Scheme, meant bool) {
	t.Helper()
	if Nests(s) != meant {
		t.Fatalf("Nests(%v) = %v", some(s), !meant)
	}
}

// checkOpen: meant are the numbers of leaves open at Left, Right, Bottom, Top.
func checkOpen(t *testing.T, s api.Scheme, meant [4]int) {
	t.Helper()
	for i, n := range meant {
		if o := Open(s, api.Left+i); o != n {
			t.Fatalf("Open(%v, %d) = %d; meant: %d", some(s), api.Left+i, o, n)
		}
	}
	for _, edge := range []int{0, 5} {
		if o := Open(s, edge); o != 0 {
			t.Fatalf("Open(%v, %d) = %d", some(s), edge, o)
		}
	}
}

// read: what a text such as "1-2L 0-1B" tells: leaves 1 and 2 hang together at
// Left, 0 and 1 at Bottom.
func read(t *testing.T, text string) map[pair]int {
	t.Helper()
	m := map[pair]int{}
	for _, word := range strings.Fields(text) {
		left, right, _ := strings.Cut(word[:len(word)-1], "-")
		a, err1 := strconv.Atoi(left)
		b, err2 := strconv.Atoi(right)
		edge := 1 + strings.Index("LRBT", word[len(word)-1:])
		if err1 != nil || err2 != nil || edge == 0 || a >= b || m[pair{a, b}] != 0 {
			t.Fatalf("%s tells nothing", word)
		}
		m[pair{a, b}] = edge
	}
	return m
}

// checkPairs: of every two numbers at and around those of the leaves, the
// edges that are meant, and no other ones.
func checkPairs(t *testing.T, s api.Scheme, leaves int, meant map[pair]int) {
	t.Helper()
	met := 0
	for a := -2; a < leaves+2; a++ {
		for b := a; b < leaves+2; b++ {
			checkEdge(t, s, a, b, meant[pair{a, b}])
			if meant[pair{a, b}] != 0 {
				met++
			}
		}
	}
	if met != len(meant) {
		t.Fatalf("%v: %v names leaves that are none", some(s), meant)
	}
}

// checkBlock: of a scheme of so many leaves, which of them hang together (as
// read reads it), how many are open at each edge, and whether it nests.
func checkBlock(t *testing.T, s api.Scheme, leaves int, hang string, open [4]int, nests bool) {
	t.Helper()
	checkPairs(t, s, leaves, read(t, hang))
	checkOpen(t, s, open)
	checkNests(t, s, nests)
}

// checkNothing: of a scheme that is not right.
func checkNothing(t *testing.T, s api.Scheme) {
	t.Helper()
	for _, p := range []pair{{0, 0}, {0, 1}, {0, 3}, {1, 2}, {2, 3}, {0, 63}, {-1, 0}, {least, most}} {
		checkEdge(t, s, p.a, p.b, 0)
	}
	checkOpen(t, s, [4]int{})
	checkNests(t, s, false)
}

// creases folds s otherwise than the program does, and follows the lines
// between panels rather than which way panels are flipped: told is of each
// leaf, from above, by sides, the number of the line at that edge of it; 0
// where nothing was ever beside it.
func creases(s api.Scheme) [][5]int {
	// x and y are the middle of a panel, in halves of one.
	type laid struct {
		x, y int
		at   [5]int
	}
	var heap []laid
	for n := range s.Cols * s.Rows {
		p := laid{x: 2*(n%s.Cols) + 1, y: 2*(n/s.Cols) + 1}
		// A line's number is that of the panel at its left, or beneath it.
		if p.x > 1 {
			p.at[api.Left] = n
		}
		if p.x < 2*s.Cols-1 {
			p.at[api.Right] = n + 1
		}
		if p.y > 1 {
			p.at[api.Bottom] = 100 + n - s.Cols
		}
		if p.y < 2*s.Rows-1 {
			p.at[api.Top] = 100 + n
		}
		heap = append(heap, p)
	}
	x0, y0, x1, y1 := 0, 0, 2*s.Cols, 2*s.Rows
	for _, f := range s.Steps {
		line := map[int]int{api.Left: x0 + 2*f.N, api.Right: x1 - 2*f.N, api.Bottom: y0 + 2*f.N, api.Top: y1 - 2*f.N}[f.Side]
		var turned, stay []laid
		for _, p := range heap {
			gone := f.Side == api.Left && p.x < line || f.Side == api.Right && p.x > line ||
				f.Side == api.Bottom && p.y < line || f.Side == api.Top && p.y > line
			if !gone {
				stay = append(stay, p)
				continue
			}
			if f.Side == api.Left || f.Side == api.Right {
				p.x = 2*line - p.x
				p.at[api.Left], p.at[api.Right] = p.at[api.Right], p.at[api.Left]
			} else {
				p.y = 2*line - p.y
				p.at[api.Bottom], p.at[api.Top] = p.at[api.Top], p.at[api.Bottom]
			}
			turned = append([]laid{p}, turned...)
		}
		switch f.Side {
		case api.Left:
			x0 = line
		case api.Right:
			x1 = line
		case api.Bottom:
			y0 = line
		case api.Top:
			y1 = line
		}
		if f.Under {
			heap = append(stay, turned...)
		} else {
			heap = append(turned, stay...)
		}
	}
	var l [][5]int
	for _, p := range heap {
		l = append(l, p.at)
	}
	return l
}

// hanging: which of the leaves that creases tells have a line together, and at
// which edge; how many have none at an edge; and whether they nest.
func hanging(t *testing.T, leaves [][5]int) (map[pair]int, [4]int, bool) {
	t.Helper()
	m := map[pair]int{}
	var open [4]int
	ends := map[int]int{}
	for a, at := range leaves {
		for edge := api.Left; edge <= api.Top; edge++ {
			if at[edge] == 0 {
				open[edge-1]++
				continue
			}
			ends[at[edge]]++
			for b, other := range leaves[a+1:] {
				if other[edge] == at[edge] {
					m[pair{a, a + 1 + b}] = edge
				}
			}
		}
	}
	for line, n := range ends {
		if n != 2 {
			t.Fatalf("line %d is at %d leaves", line, n)
		}
	}
	if len(m) != len(ends) {
		t.Fatalf("%d lines, %d pairs", len(ends), len(m))
	}
	nests := len(leaves)%2 == 0
	for k := range len(leaves) / 2 {
		nests = nests && m[pair{k, len(leaves) - 1 - k}] == api.Left
	}
	return m, open, nests
}

// checkCreases: all that is asked of a right scheme, as its lines tell it.
func checkCreases(t *testing.T, s api.Scheme) {
	t.Helper()
	leaves := creases(s)
	m, open, nests := hanging(t, leaves)
	checkPairs(t, s, len(leaves), m)
	checkOpen(t, s, open)
	checkNests(t, s, nests)
	if nests && Open(s, api.Left) != 0 {
		t.Fatalf("%v nests, and has leaves open at Left", some(s))
	}
}

// checkSomeCreases: likewise, but few leaves that don't hang together.
func checkSomeCreases(t *testing.T, s api.Scheme) {
	t.Helper()
	leaves := creases(s)
	m, open, nests := hanging(t, leaves)
	for p, edge := range m {
		checkEdge(t, s, p.a, p.b, edge)
	}
	for k := range leaves {
		for _, b := range []int{len(leaves) - 1 - k, k + 2} {
			checkEdge(t, s, k, b, m[pair{min(k, b), max(k, b)}])
		}
	}
	checkOpen(t, s, open)
	checkNests(t, s, nests)
}

// P14.1: the chapter's example.
func TestExample(t *testing.T) {
	checkNests(t, find(t, "F8-1"), true)
	checkNests(t, find(t, "F6-1"), false)
}

// P14.1: one panel and no step: nothing hangs together; an even number is
// asked for, so it does not nest.
func TestOnePanel(t *testing.T) {
	for _, s := range []api.Scheme{of(1, 1), {Cols: 1, Rows: 1, Steps: []api.Step{}}} {
		checkBlock(t, s, 1, "", [4]int{1, 1, 1, 1}, false)
	}
}

// P14.1: one fold of each side, over and under.
func TestOneFold(t *testing.T) {
	checkBlock(t, of(2, 1, fromLeft(1)), 2, "0-1L", [4]int{0, 2, 2, 2}, true)
	checkBlock(t, of(2, 1, below(fromLeft(1))), 2, "0-1L", [4]int{0, 2, 2, 2}, true)
	checkBlock(t, of(2, 1, fromRight(1)), 2, "0-1R", [4]int{2, 0, 2, 2}, false)
	checkBlock(t, of(2, 1, below(fromRight(1))), 2, "0-1R", [4]int{2, 0, 2, 2}, false)
	checkBlock(t, of(1, 2, fromBottom(1)), 2, "0-1B", [4]int{2, 2, 0, 2}, false)
	checkBlock(t, of(1, 2, below(fromBottom(1))), 2, "0-1B", [4]int{2, 2, 0, 2}, false)
	checkBlock(t, of(1, 2, fromTop(1)), 2, "0-1T", [4]int{2, 2, 2, 0}, false)
	checkBlock(t, of(1, 2, below(fromTop(1))), 2, "0-1T", [4]int{2, 2, 2, 0}, false)
}

// P14.1: three panels: an odd number never nests, though the first and the
// last leaf hang together at Left.
func TestThreePanels(t *testing.T) {
	checkBlock(t, find(t, "F6-1"), 3, "0-2L 1-2R", [4]int{1, 1, 3, 3}, false)
	checkBlock(t, find(t, "F6-2"), 3, "1-2L 0-1R", [4]int{1, 1, 3, 3}, false)
	checkBlock(t, of(3, 1, fromRight(1), below(fromLeft(1))), 3, "1-2L 0-1R", [4]int{1, 1, 3, 3}, false)
	checkBlock(t, of(3, 1, fromLeft(1), fromLeft(1)), 3, "0-1R 0-2L", [4]int{1, 1, 3, 3}, false)
	checkBlock(t, of(3, 1, fromRight(1), fromRight(1)), 3, "0-2R 0-1L", [4]int{1, 1, 3, 3}, false)
	checkBlock(t, of(1, 3, fromTop(1), fromBottom(1)), 3, "0-2B 1-2T", [4]int{3, 3, 1, 1}, false)
	checkBlock(t, of(1, 3, fromBottom(1), fromTop(1)), 3, "1-2B 0-2T", [4]int{3, 3, 1, 1}, false)
	checkBlock(t, of(1, 3, fromBottom(1), fromBottom(1)), 3, "0-1T 0-2B", [4]int{3, 3, 1, 1}, false)
}

// P14.1: four panels in one row, or one column.
func TestFourInLine(t *testing.T) {
	checkBlock(t, find(t, "F8-2"), 4, "1-2L 0-1R 0-3L", [4]int{0, 2, 4, 4}, true)
	checkBlock(t, find(t, "F8-3"), 4, "0-1R 0-2L 2-3R", [4]int{2, 0, 4, 4}, false)
	checkBlock(t, of(4, 1, fromLeft(2), fromRight(1)), 4, "1-2R 2-3L 0-3R", [4]int{2, 0, 4, 4}, false)
	checkBlock(t, of(4, 1, fromRight(2), fromLeft(1)), 4, "0-3L 2-3R 1-2L", [4]int{0, 2, 4, 4}, true)
	checkBlock(t, of(4, 1, below(fromRight(2)), below(fromRight(1))), 4, "0-3R 2-3L 1-2R", [4]int{2, 0, 4, 4}, false)
	checkBlock(t, of(1, 4, fromBottom(2), fromBottom(1)), 4, "1-2B 0-1T 0-3B", [4]int{4, 4, 0, 2}, false)
	checkBlock(t, of(1, 4, fromTop(2), fromBottom(1)), 4, "0-3B 2-3T 1-2B", [4]int{4, 4, 0, 2}, false)
	checkBlock(t, of(1, 4, below(fromTop(2)), fromTop(1)), 4, "1-2T 0-1B 0-3T", [4]int{4, 4, 2, 0}, false)
}

// P14.1: four panels, two beside two.
func TestTwoByTwo(t *testing.T) {
	checkBlock(t, find(t, "F8-1"), 4, "1-2L 0-3L 0-1B 2-3B", [4]int{0, 4, 0, 4}, true)
	// The other way round all pairs hang together, but at Bottom.
	checkBlock(t, of(2, 2, fromLeft(1), fromBottom(1)), 4, "0-1L 2-3L 1-2B 0-3B", [4]int{0, 4, 0, 4}, false)
	checkBlock(t, of(2, 2, fromTop(1), fromLeft(1)), 4, "0-3L 1-2L 0-1T 2-3T", [4]int{0, 4, 4, 0}, true)
	checkBlock(t, of(2, 2, fromTop(1), fromRight(1)), 4, "0-3R 1-2R 2-3T 0-1T", [4]int{4, 0, 4, 0}, false)
	checkBlock(t, of(2, 2, fromRight(1), fromTop(1)), 4, "2-3R 0-1R 0-3T 1-2T", [4]int{4, 0, 4, 0}, false)
	checkBlock(t, of(2, 2, below(fromBottom(1)), fromLeft(1)), 4, "0-3L 1-2L 0-1B 2-3B", [4]int{0, 4, 0, 4}, true)
	checkBlock(t, of(2, 2, fromBottom(1), below(fromLeft(1))), 4, "0-3L 1-2L 2-3B 0-1B", [4]int{0, 4, 0, 4}, true)
	checkBlock(t, of(2, 2, below(fromRight(1)), below(fromTop(1))), 4, "0-1R 2-3R 0-3T 1-2T", [4]int{4, 0, 4, 0}, false)
}

// P14.1: more panels, some of which are inner ones: a row's last panel isn't
// beside the next row's first one.
func TestBlocksOfMore(t *testing.T) {
	// The outer pairs hang together at Left, the inner one at Bottom.
	checkBlock(t, find(t, "F12-1"), 6, "1-4L 3-4R 0-5L 2-5R 0-1B 4-5B 2-3B", [4]int{2, 2, 0, 6}, false)
	checkBlock(t, find(t, "F12-2"), 6, "3-4R 1-4L 0-1R 0-5L 2-5R", [4]int{2, 0, 6, 6}, false)
	checkBlock(t, find(t, "F16-1"), 8, "2-5L 2-3R 3-4L 1-6L 0-1R 0-7L 5-6B 1-2B 0-3B 4-7B", [4]int{0, 4, 0, 8}, true)
	checkBlock(t, find(t, "F16-3"), 8, "1-6L 1-2R 2-5L 4-5R 3-4L 0-3R 0-7L", [4]int{0, 2, 8, 8}, true)
	checkBlock(t, of(3, 3, fromRight(1), fromLeft(1), fromTop(1), fromBottom(1)), 9,
		"0-2L 0-1R 6-8L 7-8R 3-5L 3-4R 2-6B 0-8B 1-7B 5-6T 3-8T 4-7T", [4]int{3, 3, 3, 3}, false)
}

// P14.1: which schemes of the catalogue nest, and all that is asked of each:
// 64 panels and 6 steps among them.
func TestCatalogue(t *testing.T) {
	nesting := []string{"F4-1", "F8-1", "F8-2", "F16-1", "F16-2", "F16-3", "F16-4", "F32-1", "F32-2", "F64-1", "F128-1"}
	for _, name := range scheme.Names() {
		s := find(t, name)
		checkNests(t, s, slices.Contains(nesting, name))
		checkCreases(t, s)
	}
}

// right: all schemes of cols by rows panels that are right, told to do one by
// one.
func right(cols, rows int, do func(api.Scheme)) {
	var longer func(c, r int, l []api.Step)
	longer = func(c, r int, l []api.Step) {
		if c == 1 && r == 1 {
			do(of(cols, rows, slices.Clone(l)...))
			return
		}
		if len(l) == api.MaxSteps {
			return
		}
		l = slices.Clip(l)
		for n := 1; 2*n <= c; n++ {
			for _, f := range []api.Step{fromLeft(n), fromRight(n)} {
				longer(c-n, r, append(l, f))
				longer(c-n, r, append(l, below(f)))
			}
		}
		for n := 1; 2*n <= r; n++ {
			for _, f := range []api.Step{fromBottom(n), fromTop(n)} {
				longer(c, r-n, append(l, f))
				longer(c, r-n, append(l, below(f)))
			}
		}
	}
	longer(cols, rows, nil)
}

// P14.1: all schemes of a few panels; of each even number of columns some nest
// and some don't.
func TestAllSmallSchemes(t *testing.T) {
	for _, sides := range [][2]int{{1, 1}, {2, 1}, {1, 2}, {3, 1}, {1, 3}, {4, 1}, {1, 4}, {2, 2}, {3, 2}, {2, 3}, {5, 1}, {1, 5}} {
		count, nesting := 0, 0
		right(sides[0], sides[1], func(s api.Scheme) {
			count++
			if Nests(s) {
				nesting++
			}
			checkCreases(t, s)
		})
		if count == 0 || nesting == count {
			t.Fatalf("%d of %d of %v nest", nesting, count, sides)
		}
		if (nesting > 0) != (sides[0]%2 == 0) {
			t.Fatalf("%d of %d of %v nest", nesting, count, sides)
		}
	}
}

// P14.1: 64 panels and 6 steps, in one row, in one column, and in between:
// each step halves a side.
func TestSixSteps(t *testing.T) {
	for _, sides := range [][2]int{{64, 1}, {32, 2}, {16, 4}, {8, 8}, {4, 16}, {2, 32}, {1, 64}} {
		count := 0
		// One of a few of all: the loop is to go over choices of all kinds.
		for choice := 0; choice < 1<<18; choice += 29989 {
			cols, rows := sides[0], sides[1]
			s := of(cols, rows)
			for bits := choice; cols*rows > 1; bits >>= 3 {
				f := api.Step{Side: api.Left + bits&1, N: cols / 2, Under: bits&2 != 0}
				if cols == 1 || rows > 1 && bits&4 != 0 {
					f.Side, f.N = api.Bottom+bits&1, rows/2
				}
				if f.Side >= api.Bottom {
					rows /= 2
				} else {
					cols /= 2
				}
				s.Steps = append(s.Steps, f)
			}
			if len(s.Steps) != 6 {
				t.Fatalf("%v has not 6 steps", s)
			}
			count++
			checkSomeCreases(t, s)
		}
		if count == 0 {
			t.Fatalf("none of %v", sides)
		}
	}
	checkCreases(t, of(64, 1, fromLeft(32), fromLeft(16), fromLeft(8), fromLeft(4), fromLeft(2), fromLeft(1)))
	checkCreases(t, of(1, 64, fromTop(32), fromTop(16), fromTop(8), fromTop(4), fromTop(2), fromTop(1)))
}

// P14.1: 6 steps that are no halves; seven panels are an odd number, also as
// rows.
func TestSixStepsOneByOne(t *testing.T) {
	checkBlock(t, of(7, 1, slices.Repeat([]api.Step{fromLeft(1)}, 6)...), 7,
		"2-3R 2-4L 1-4R 1-5L 0-5R 0-6L", [4]int{1, 1, 7, 7}, false)
	checkBlock(t, of(1, 7, slices.Repeat([]api.Step{fromBottom(1)}, 6)...), 7,
		"2-3T 2-4B 1-4T 1-5B 0-5T 0-6B", [4]int{7, 7, 1, 1}, false)
	checkBlock(t, of(7, 1, slices.Repeat([]api.Step{below(fromRight(1))}, 6)...), 7,
		"0-6R 1-6L 1-5R 2-5L 2-4R 3-4L", [4]int{1, 1, 7, 7}, false)
}

// P14.1: a leaf never hangs together with itself.
func TestLeafWithItself(t *testing.T) {
	for _, s := range known(t) {
		for k := range scheme.Panels(s) {
			checkEdge(t, s, k, k, 0)
		}
	}
}

// P14.1: of a scheme that nests, the first and the last leaf hang together at
// Left, and no leaf is open there.
func TestNestingIsClosedAtLeft(t *testing.T) {
	for _, s := range known(t) {
		if Nests(s) {
			checkEdge(t, s, 0, scheme.Panels(s)-1, api.Left)
			if n := Open(s, api.Left); n != 0 {
				t.Fatalf("Open(%v, Left) = %d", s, n)
			}
		}
	}
}

// P14.1: no leaf is as many as there are panels, or more, or below 0.
func TestNoSuchLeaves(t *testing.T) {
	for _, s := range known(t) {
		n := scheme.Panels(s)
		for _, wrong := range []int{-1, -2, -n, -n - 1, n, n + 1, n + s.Cols, 2 * n, 64, 65, 128, 256, 257, 1 << 32, 1<<32 + 1, -1 << 32,
			1 - 1<<32, most, most - 1, least, least + 1} {
			for k := range n {
				checkEdge(t, s, k, wrong, 0)
			}
			checkEdge(t, s, wrong, wrong, 0)
			checkEdge(t, s, wrong, n-1-wrong, 0)
			checkEdge(t, s, wrong, wrong+1, 0)
			checkEdge(t, s, wrong, least, 0)
			checkEdge(t, s, wrong, most, 0)
		}
	}
}

// P14.1: edges that are none, though leaves that don't hang together are many.
func TestNoSuchEdges(t *testing.T) {
	for _, s := range append(known(t), of(3, 3, fromRight(1), fromLeft(1), fromTop(1), fromBottom(1)), of(0, 0), of(2, 2)) {
		for _, edge := range []int{0, 5, 6, 8, -1, -2, -4, -5, 64, 256, 257, 1 << 32, 1<<32 + 1, 1<<32 + 4, -1 << 32, 1 - 1<<32, most, least, least + 1} {
			if n := Open(s, edge); n != 0 {
				t.Fatalf("Open(%v, %d) = %d", s, edge, n)
			}
		}
	}
}

// P14.1: sides that are none, whatever the steps are.
func TestWrongSides(t *testing.T) {
	lists := [][]api.Step{nil, {}, {fromLeft(1)}, {fromBottom(1)}, {fromLeft(32), fromLeft(16), fromLeft(8), fromLeft(4), fromLeft(2), fromLeft(1)}}
	wrong := []int{0, -1, -2, -64, 65, 66, 128, 256, 257, 1 << 16, 1 << 32, 1<<32 + 1, 1<<32 + 2, 1 << 62, 1<<63 - 64,
		most - 1, most, -1 << 32, 1 - 1<<32, least, least + 1}
	for _, n := range wrong {
		for _, l := range lists {
			for _, other := range []int{1, 2, 64} {
				checkNothing(t, of(n, other, l...))
				checkNothing(t, of(other, n, l...))
			}
			checkNothing(t, of(n, n, l...))
		}
	}
	checkNothing(t, api.Scheme{})
}

// P14.1: more than 64 panels.
func TestTooManyPanels(t *testing.T) {
	checkNothing(t, of(64, 2, fromLeft(32), fromLeft(16), fromLeft(8), fromLeft(4), fromLeft(2), fromLeft(1)))
	checkNothing(t, of(64, 2, fromBottom(1), fromLeft(32), fromLeft(16), fromLeft(8), fromLeft(4), fromLeft(2), fromLeft(1)))
	checkNothing(t, of(13, 5))
	checkNothing(t, of(5, 13, fromLeft(2)))
	checkNothing(t, of(64, 64))
}

// P14.1: steps that leave more than one panel.
func TestTooFewSteps(t *testing.T) {
	for cols := 1; cols <= 64; cols++ {
		for rows := 1; rows <= 64; rows++ {
			if cols*rows > 1 {
				checkNothing(t, of(cols, rows))
			}
		}
	}
	checkNothing(t, of(3, 1, fromLeft(1)))
	checkNothing(t, of(2, 2, fromLeft(1)))
	checkNothing(t, of(4, 1, fromLeft(2)))
	for _, s := range known(t) {
		for i := range s.Steps {
			checkNothing(t, of(s.Cols, s.Rows, slices.Delete(slices.Clone(s.Steps), i, i+1)...))
		}
	}
}

// P14.1: steps that can't be done, at each place.
func TestWrongSteps(t *testing.T) {
	wrong := []api.Step{{}, {Under: true}, {Side: 0, N: 1}, {Side: 5, N: 1}, {Side: -1, N: 1}, {Side: 1<<32 + 1, N: 1}, {Side: most, N: 1},
		{Side: least, N: 1}, {Side: 1, N: 0}, {Side: 1, N: -1}, {Side: 2, N: 65}, {Side: 3, N: 1<<32 + 1}, {Side: 4, N: most, Under: true},
		{Side: 1, N: least}, fromLeft(5), fromRight(5), below(fromBottom(5)), fromTop(5), fromLeft(64)}
	for _, w := range wrong {
		checkNothing(t, of(1, 1, w))
		checkNothing(t, of(2, 1, w))
		checkNothing(t, of(1, 2, w))
		for _, s := range known(t) {
			for i := range len(s.Steps) + 1 {
				checkNothing(t, of(s.Cols, s.Rows, slices.Insert(slices.Clone(s.Steps), i, w)...))
			}
		}
	}
	checkNothing(t, of(3, 1, fromLeft(2)))
	checkNothing(t, of(2, 1, fromBottom(1)))
	checkNothing(t, of(1, 2, fromLeft(1)))
	checkNothing(t, of(2, 1, fromLeft(1), fromLeft(1)))
	checkNothing(t, of(1, 1, fromLeft(1)))
}

// P14.1: more than 6 steps, though they leave one panel.
func TestTooManySteps(t *testing.T) {
	checkNothing(t, of(8, 1, slices.Repeat([]api.Step{fromLeft(1)}, 7)...))
	checkNothing(t, of(1, 8, slices.Repeat([]api.Step{below(fromTop(1))}, 7)...))
	checkNothing(t, of(1, 1, make([]api.Step, 1<<20)...))
	checkNothing(t, of(8, 8, slices.Repeat([]api.Step{fromLeft(1)}, 1<<20)...))
}

// P2: what is handed in stays as it was, also behind its end.
func TestArgumentsStay(t *testing.T) {
	for _, s := range known(t) {
		steps := append(s.Steps, api.Step{Side: 7, N: 99, Under: true}, fromTop(1))
		kept := slices.Clone(steps)
		for n := range len(steps) + 1 {
			part := of(s.Cols, s.Rows, steps[:n]...)
			Edge(part, 0, scheme.Panels(s)-1)
			Nests(part)
			for edge := range 6 {
				Open(part, edge)
			}
			if !slices.Equal(steps, kept) {
				t.Fatalf("the steps are %v now; they were %v", steps, kept)
			}
		}
	}
}

// P2: a list that is changed behind a call is another scheme's.
func TestNothingIsKept(t *testing.T) {
	s := of(2, 1, fromLeft(1))
	checkBlock(t, s, 2, "0-1L", [4]int{0, 2, 2, 2}, true)
	s.Steps[0] = fromRight(1)
	checkBlock(t, s, 2, "0-1R", [4]int{2, 0, 2, 2}, false)
	s.Steps[0] = fromBottom(1)
	checkNothing(t, s)
}

// P3: what was asked ahead is one to an answer.
func TestAnswersStayTheSame(t *testing.T) {
	for range 3 {
		checkBlock(t, find(t, "F8-1"), 4, "1-2L 0-3L 0-1B 2-3B", [4]int{0, 4, 0, 4}, true)
		checkNothing(t, of(2, 2))
		checkBlock(t, of(1, 1), 1, "", [4]int{1, 1, 1, 1}, false)
		checkNothing(t, api.Scheme{})
		checkBlock(t, of(2, 2, fromTop(1), fromRight(1)), 4, "0-3R 1-2R 2-3T 0-1T", [4]int{4, 0, 4, 0}, false)
	}
}

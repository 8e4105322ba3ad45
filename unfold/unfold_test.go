package unfold

import (
	"math"
	"slices"
	"strconv"
	"strings"
	"testing"

	"gatherum/api"
	"gatherum/scheme"
)

const (
	least = math.MinInt
	most  = math.MaxInt
)

func of(cols, rows int, l ...api.Step) api.Scheme {
	return api.Scheme{Cols: cols, Rows: rows, Steps: l}
}

func fromLeft(n int) api.Step   { return api.Step{Side: api.Left, N: n} }
func fromRight(n int) api.Step  { return api.Step{Side: api.Right, N: n} }
func fromBottom(n int) api.Step { return api.Step{Side: api.Bottom, N: n} }
func fromTop(n int) api.Step    { return api.Step{Side: api.Top, N: n} }

func below(s api.Step) api.Step {
	s.Under = true
	return s
}

// known: the schemes of the catalogue; each new.
func known(t *testing.T) []api.Scheme {
	t.Helper()
	var l []api.Scheme
	for _, name := range scheme.Names() {
		s, ok := scheme.Find(name)
		if !ok {
			t.Fatalf("no scheme %s", name)
		}
		l = append(l, s)
	}
	if len(l) != 21 {
		t.Fatalf("%d schemes", len(l))
	}
	return l
}

// some: a scheme that a failure may show whole.
func some(s api.Scheme) api.Scheme {
	s.Steps = s.Steps[:min(len(s.Steps), 9)]
	return s
}

// tell: a block's leaves from above, each the number of its panel and the ways
// in which it is flipped.
func tell(panels []api.Panel, order []int) string {
	var l []string
	for _, n := range order {
		word := strconv.Itoa(n)
		if panels[n].FlipX {
			word += "x"
		}
		if panels[n].FlipY {
			word += "y"
		}
		l = append(l, word)
	}
	return strings.Join(l, " ")
}

// checkFold: meant are the leaves from above, as tell tells them.
func checkFold(t *testing.T, s api.Scheme, meant string) {
	t.Helper()
	panels, order := Of(s), Order(s)
	words := strings.Fields(meant)
	if len(panels) != len(words) || len(order) != len(words) {
		t.Fatalf("%v: %v, %v; meant: %s", some(s), panels, order, meant)
	}
	for leaf, word := range words {
		digits := strings.TrimRight(word, "xy")
		n, err := strconv.Atoi(digits)
		if err != nil || n < 0 || n >= len(words) {
			t.Fatalf("%s is no leaf", word)
		}
		flips := word[len(digits):]
		p := api.Panel{Leaf: leaf, FlipX: strings.Contains(flips, "x"), FlipY: strings.Contains(flips, "y")}
		if panels[n] != p {
			t.Fatalf("Of(%v): panel %d is %v; meant: %v", some(s), n, panels[n], p)
		}
		if order[leaf] != n {
			t.Fatalf("Order(%v): leaf %d is %d; meant: %d", some(s), leaf, order[leaf], n)
		}
	}
	if told := tell(panels, order); told != meant {
		t.Fatalf("%v: %s; meant: %s", some(s), told, meant)
	}
}

func checkNothing(t *testing.T, s api.Scheme) {
	t.Helper()
	if l := Of(s); len(l) != 0 {
		t.Fatalf("Of(%v) = %v; meant: nothing", some(s), l)
	}
	if l := Order(s); len(l) != 0 {
		t.Fatalf("Order(%v) = %v; meant: nothing", some(s), l)
	}
}

// lain folds s otherwise than the program does: all panels are one heap from
// above, whether they touch or not, each at a place; a step mirrors the places
// of those ahead of its line, or behind it.
func lain(s api.Scheme) string {
	// x and y are the middle of a panel, in halves of one.
	type laid struct {
		n, x, y      int
		flipX, flipY bool
	}
	var heap []laid
	for n := range s.Cols * s.Rows {
		heap = append(heap, laid{n: n, x: 2*(n%s.Cols) + 1, y: 2*(n/s.Cols) + 1})
	}
	x0, y0, x1, y1 := 0, 0, 2*s.Cols, 2*s.Rows
	for _, f := range s.Steps {
		var gone func(laid) bool
		var mirrored func(laid) laid
		flipX := func(line int) func(laid) laid {
			return func(p laid) laid { p.x, p.flipX = 2*line-p.x, !p.flipX; return p }
		}
		flipY := func(line int) func(laid) laid {
			return func(p laid) laid { p.y, p.flipY = 2*line-p.y, !p.flipY; return p }
		}
		switch f.Side {
		case api.Left:
			x0 += 2 * f.N
			gone, mirrored = func(p laid) bool { return p.x < x0 }, flipX(x0)
		case api.Right:
			x1 -= 2 * f.N
			gone, mirrored = func(p laid) bool { return p.x > x1 }, flipX(x1)
		case api.Bottom:
			y0 += 2 * f.N
			gone, mirrored = func(p laid) bool { return p.y < y0 }, flipY(y0)
		case api.Top:
			y1 -= 2 * f.N
			gone, mirrored = func(p laid) bool { return p.y > y1 }, flipY(y1)
		}
		var turned, stay []laid
		for _, p := range heap {
			if gone(p) {
				turned = append([]laid{mirrored(p)}, turned...)
			} else {
				stay = append(stay, p)
			}
		}
		if f.Under {
			heap = append(stay, turned...)
		} else {
			heap = append(turned, stay...)
		}
	}
	var words []string
	for _, p := range heap {
		word := strconv.Itoa(p.n)
		if p.flipX {
			word += "x"
		}
		if p.flipY {
			word += "y"
		}
		words = append(words, word)
	}
	return strings.Join(words, " ")
}

// checkTurns: each leaf is one panel's, Order has each panel at its leaf's
// place, and panels beside one another are flipped otherwise in x and alike in
// y, those above one another the other way round.
func checkTurns(t *testing.T, s api.Scheme) {
	t.Helper()
	panels, order := Of(s), Order(s)
	if len(panels) != s.Cols*s.Rows || len(order) != len(panels) {
		t.Fatalf("%v: %d panels, %d leaves", some(s), len(panels), len(order))
	}
	for n, p := range panels {
		if p.Leaf < 0 || p.Leaf >= len(order) || order[p.Leaf] != n {
			t.Fatalf("%v: %v, %v: panel %d isn't at its place", some(s), panels, order, n)
		}
		if n%s.Cols > 0 {
			left := panels[n-1]
			if left.FlipX == p.FlipX || left.FlipY != p.FlipY || Up(left) == Up(p) {
				t.Fatalf("%v: %v beside %v", some(s), left, p)
			}
		}
		if n >= s.Cols {
			lower := panels[n-s.Cols]
			if lower.FlipX != p.FlipX || lower.FlipY == p.FlipY || Up(lower) == Up(p) {
				t.Fatalf("%v: %v beneath %v", some(s), lower, p)
			}
		}
	}
}

// P13.1: the chapter's example.
func TestExample(t *testing.T) {
	s := of(2, 1, fromLeft(1))
	if l := Of(s); !slices.Equal(l, []api.Panel{{Leaf: 0, FlipX: true}, {Leaf: 1}}) {
		t.Fatalf("Of(%v) = %v", s, l)
	}
	if l := Order(s); !slices.Equal(l, []int{0, 1}) {
		t.Fatalf("Order(%v) = %v", s, l)
	}
}

// P13.1: one panel is not folded at all.
func TestOnePanel(t *testing.T) {
	for _, s := range []api.Scheme{of(1, 1), {Cols: 1, Rows: 1, Steps: []api.Step{}}} {
		if l := Of(s); !slices.Equal(l, []api.Panel{{}}) {
			t.Fatalf("Of(%v) = %v", s, l)
		}
		checkFold(t, s, "0")
	}
}

// P13.1: one fold of each side, over and under, of two panels.
func TestOneFold(t *testing.T) {
	checkFold(t, of(2, 1, fromLeft(1)), "0x 1")
	checkFold(t, of(2, 1, below(fromLeft(1))), "1 0x")
	checkFold(t, of(2, 1, fromRight(1)), "1x 0")
	checkFold(t, of(2, 1, below(fromRight(1))), "0 1x")
	checkFold(t, of(1, 2, fromBottom(1)), "0y 1")
	checkFold(t, of(1, 2, below(fromBottom(1))), "1 0y")
	checkFold(t, of(1, 2, fromTop(1)), "1y 0")
	checkFold(t, of(1, 2, below(fromTop(1))), "0 1y")
}

// P13.1: folds that go over fewer columns than the others are: what comes upon
// what, and which are left.
func TestFoldsOfOneOfThree(t *testing.T) {
	checkFold(t, of(3, 1, fromRight(1), fromLeft(1)), "0x 2x 1")
	checkFold(t, of(3, 1, fromRight(1), below(fromLeft(1))), "2x 1 0x")
	checkFold(t, of(3, 1, below(fromRight(1)), fromLeft(1)), "0x 1 2x")
	checkFold(t, of(3, 1, below(fromRight(1)), below(fromLeft(1))), "1 2x 0x")
	checkFold(t, of(3, 1, fromLeft(1), fromRight(1)), "2x 0x 1")
	checkFold(t, of(3, 1, below(fromLeft(1)), fromRight(1)), "2x 1 0x")
	// Twice the same side: the pile itself is turned over.
	checkFold(t, of(3, 1, fromLeft(1), fromLeft(1)), "1x 0 2")
	checkFold(t, of(3, 1, fromLeft(1), below(fromLeft(1))), "2 1x 0")
	checkFold(t, of(3, 1, below(fromLeft(1)), fromLeft(1)), "0 1x 2")
	checkFold(t, of(3, 1, below(fromLeft(1)), below(fromLeft(1))), "2 0 1x")
	checkFold(t, of(3, 1, fromRight(1), fromRight(1)), "1x 2 0")
	checkFold(t, of(3, 1, below(fromRight(1)), below(fromRight(1))), "0 2 1x")
}

// P13.1: likewise of rows.
func TestFoldsOfOneOfThreeRows(t *testing.T) {
	checkFold(t, of(1, 3, fromTop(1), fromBottom(1)), "0y 2y 1")
	checkFold(t, of(1, 3, fromTop(1), below(fromBottom(1))), "2y 1 0y")
	checkFold(t, of(1, 3, below(fromTop(1)), fromBottom(1)), "0y 1 2y")
	checkFold(t, of(1, 3, below(fromTop(1)), below(fromBottom(1))), "1 2y 0y")
	checkFold(t, of(1, 3, fromBottom(1), fromTop(1)), "2y 0y 1")
	checkFold(t, of(1, 3, fromBottom(1), fromBottom(1)), "1y 0 2")
	checkFold(t, of(1, 3, below(fromBottom(1)), below(fromBottom(1))), "2 0 1y")
	checkFold(t, of(1, 3, fromTop(1), fromTop(1)), "1y 2 0")
	checkFold(t, of(1, 3, fromTop(1), below(fromTop(1))), "0 1y 2")
	checkFold(t, of(1, 3, below(fromTop(1)), fromTop(1)), "2 1y 0")
}

// P13.1: folds of several columns or rows: what is farthest from the line
// comes upon what is farthest behind it.
func TestFoldsOfSeveral(t *testing.T) {
	checkFold(t, of(4, 1, fromLeft(2), fromLeft(1)), "2x 1 0x 3")
	checkFold(t, of(4, 1, fromLeft(2), fromRight(1)), "3x 0 1x 2")
	checkFold(t, of(4, 1, fromRight(2), fromLeft(1)), "0x 3 2x 1")
	checkFold(t, of(4, 1, fromRight(2), fromRight(1)), "1x 2 3x 0")
	checkFold(t, of(4, 1, below(fromLeft(2)), fromLeft(1)), "1 2x 3 0x")
	checkFold(t, of(4, 1, below(fromRight(2)), below(fromRight(1))), "0 3x 2 1x")
	checkFold(t, of(1, 4, fromBottom(2), fromBottom(1)), "2y 1 0y 3")
	checkFold(t, of(1, 4, fromTop(2), fromBottom(1)), "0y 3 2y 1")
	checkFold(t, of(1, 4, fromBottom(2), below(fromTop(1))), "1y 2 3y 0")
	checkFold(t, of(1, 4, below(fromTop(2)), fromTop(1)), "2 1y 0 3y")
	// Two over three: the middle one alone is left as it lay.
	checkFold(t, of(5, 1, fromLeft(2), fromLeft(1), fromRight(1)), "4x 2x 1 0x 3")
	checkFold(t, of(5, 1, fromRight(2), fromLeft(1), fromRight(1)), "2x 3 0x 4x 1")
	checkFold(t, of(1, 5, fromTop(2), fromTop(1), fromBottom(1)), "0y 2y 3 4y 1")
}

// P13.1: folds at both kinds of lines.
func TestFoldsOfBothKinds(t *testing.T) {
	checkFold(t, of(2, 2, fromBottom(1), fromLeft(1)), "2x 0xy 1y 3")
	checkFold(t, of(2, 2, fromLeft(1), fromBottom(1)), "1y 0xy 2x 3")
	checkFold(t, of(2, 2, fromTop(1), fromLeft(1)), "0x 2xy 3y 1")
	checkFold(t, of(2, 2, fromTop(1), fromRight(1)), "1x 3xy 2y 0")
	checkFold(t, of(2, 2, fromRight(1), fromTop(1)), "2y 3xy 1x 0")
	checkFold(t, of(2, 2, below(fromBottom(1)), fromLeft(1)), "0xy 2x 3 1y")
	checkFold(t, of(2, 2, fromBottom(1), below(fromLeft(1))), "1y 3 2x 0xy")
	checkFold(t, of(2, 2, below(fromRight(1)), below(fromTop(1))), "0 1x 3xy 2y")
	checkFold(t, of(3, 2, fromBottom(1), fromRight(1), fromLeft(1)), "3x 0xy 5x 2xy 1y 4")
	checkFold(t, of(4, 2, fromLeft(2), fromBottom(1), fromLeft(1)), "6x 5 1y 2xy 3y 0xy 4x 7")
	checkFold(t, of(2, 3, fromTop(1), fromBottom(1), fromLeft(1)), "2x 4xy 0xy 1y 5y 3")
}

// P13.1: of the usual job's signature, which panels' fronts are above.
func TestUpOfPanels(t *testing.T) {
	var up []bool
	for _, p := range Of(of(2, 2, fromBottom(1), fromLeft(1))) {
		up = append(up, Up(p))
	}
	if !slices.Equal(up, []bool{true, false, false, true}) {
		t.Fatalf("up are %v", up)
	}
}

// P13.1: small schemes of the catalogue, folded by hand.
func TestSmallCatalogue(t *testing.T) {
	for _, e := range []struct{ name, leaves string }{
		{"F2-1", "0"},
		{"F4-1", "0x 1"},
		{"F4-2", "0y 1"},
		{"F6-1", "0x 2x 1"},
		{"F6-2", "2x 1 0x"},
		{"F8-1", "2x 0xy 1y 3"},
		{"F8-2", "2x 1 0x 3"},
		{"F8-3", "1x 0 2 3x"},
		{"F12-1", "3x 0xy 5x 2xy 1y 4"},
		{"F12-2", "3x 2 5x 0 1x 4"},
		{"F16-1", "6x 5 1y 2xy 3y 0xy 4x 7"},
		{"F16-3", "6x 1 2x 5 4x 3 0x 7"},
	} {
		s, ok := scheme.Find(e.name)
		if !ok {
			t.Fatalf("no scheme %s", e.name)
		}
		checkFold(t, s, e.leaves)
	}
}

// P13.1, P13.3: each scheme of the catalogue.
func TestCatalogue(t *testing.T) {
	for _, s := range known(t) {
		checkFold(t, s, lain(s))
		checkTurns(t, s)
	}
}

// right: all schemes of cols by rows panels that are right, told to do one by
// one.
func right(cols, rows int, do func(api.Scheme)) {
	var longer func(c, r int, l []api.Step)
	longer = func(c, r int, l []api.Step) {
		if c == 1 && r == 1 {
			do(of(cols, rows, slices.Clone(l)...))
			return
		}
		if len(l) == api.MaxSteps {
			return
		}
		l = slices.Clip(l)
		for n := 1; 2*n <= c; n++ {
			for _, f := range []api.Step{fromLeft(n), fromRight(n)} {
				longer(c-n, r, append(l, f))
				longer(c-n, r, append(l, below(f)))
			}
		}
		for n := 1; 2*n <= r; n++ {
			for _, f := range []api.Step{fromBottom(n), fromTop(n)} {
				longer(c, r-n, append(l, f))
				longer(c, r-n, append(l, below(f)))
			}
		}
	}
	longer(cols, rows, nil)
}

// P13.1, P13.3: all schemes of a few panels.
func TestAllSmallSchemes(t *testing.T) {
	for _, sides := range [][2]int{{1, 1}, {2, 1}, {1, 2}, {3, 1}, {1, 3}, {4, 1}, {1, 4}, {2, 2}, {3, 2}, {2, 3}, {3, 3}, {5, 1}, {1, 5}, {4, 2}, {2, 4}} {
		count := 0
		right(sides[0], sides[1], func(s api.Scheme) {
			count++
			checkFold(t, s, lain(s))
			checkTurns(t, s)
		})
		if count == 0 {
			t.Fatalf("none of %v is right", sides)
		}
	}
}

// P13.1, P13.3: 64 panels and 6 steps, in one row, in one column, and in
// between: each step halves a side.
func TestSixSteps(t *testing.T) {
	for _, sides := range [][2]int{{64, 1}, {32, 2}, {16, 4}, {8, 8}, {4, 16}, {2, 32}, {1, 64}} {
		count := 0
		for choice := range 1 << 18 {
			// One of a few of all: the loop is to go over choices of all kinds.
			if choice%997 != 0 {
				continue
			}
			cols, rows := sides[0], sides[1]
			s := of(cols, rows)
			for bits := choice; cols*rows > 1; bits >>= 3 {
				f := api.Step{Side: api.Left + bits&1, N: cols / 2, Under: bits&2 != 0}
				if cols == 1 || rows > 1 && bits&4 != 0 {
					f.Side, f.N = api.Bottom+bits&1, rows/2
				}
				if f.Side >= api.Bottom {
					rows /= 2
				} else {
					cols /= 2
				}
				s.Steps = append(s.Steps, f)
			}
			if len(s.Steps) != 6 {
				t.Fatalf("%v has not 6 steps", s)
			}
			count++
			checkFold(t, s, lain(s))
			checkTurns(t, s)
		}
		if count == 0 {
			t.Fatalf("none of %v", sides)
		}
	}
	checkFold(t, of(64, 1, fromLeft(32), fromLeft(16), fromLeft(8), fromLeft(4), fromLeft(2), fromLeft(1)),
		"62x 1 30x 33 46x 17 14x 49 54x 9 22x 41 38x 25 6x 57 58x 5 26x 37 42x 21 10x 53 50x 13 18x 45 34x 29 2x 61 "+
			"60x 3 28x 35 44x 19 12x 51 52x 11 20x 43 36x 27 4x 59 56x 7 24x 39 40x 23 8x 55 48x 15 16x 47 32x 31 0x 63")
}

// P13.1: 6 steps that are no halves: 7 columns, one by one.
func TestSixStepsOneByOne(t *testing.T) {
	right(7, 1, func(s api.Scheme) {
		if len(s.Steps) == 6 && s.Steps[0].Side == s.Steps[5].Side {
			checkFold(t, s, lain(s))
			checkTurns(t, s)
		}
	})
	// From the left each fold turns over all that lies there already.
	checkFold(t, of(7, 1, slices.Repeat([]api.Step{fromLeft(1)}, 6)...), "5x 3x 1x 0 2 4 6")
	checkFold(t, of(1, 7, slices.Repeat([]api.Step{fromBottom(1)}, 6)...), "5y 3y 1y 0 2 4 6")
	checkFold(t, of(7, 1, slices.Repeat([]api.Step{below(fromRight(1))}, 6)...), "0 2 4 6 5x 3x 1x")
	checkFold(t, of(1, 7, slices.Repeat([]api.Step{below(fromTop(1))}, 6)...), "0 2 4 6 5y 3y 1y")
}

// P13.1: sides that are none, whatever the steps are.
func TestWrongSides(t *testing.T) {
	lists := [][]api.Step{nil, {}, {fromLeft(1)}, {fromBottom(1)}, {fromLeft(32), fromLeft(16), fromLeft(8), fromLeft(4), fromLeft(2), fromLeft(1)}}
	wrong := []int{0, -1, -2, -64, 65, 66, 128, 256, 257, 1 << 16, 1 << 32, 1<<32 + 1, 1<<32 + 2, 1 << 62, 1<<63 - 64,
		most - 1, most, -1 << 32, 1 - 1<<32, least, least + 1}
	for _, n := range wrong {
		for _, l := range lists {
			for _, other := range []int{1, 2, 64} {
				checkNothing(t, of(n, other, l...))
				checkNothing(t, of(other, n, l...))
			}
			checkNothing(t, of(n, n, l...))
		}
	}
	checkNothing(t, api.Scheme{})
}

// P13.1: more than 64 panels.
func TestTooManyPanels(t *testing.T) {
	checkNothing(t, of(64, 2, fromLeft(32), fromLeft(16), fromLeft(8), fromLeft(4), fromLeft(2), fromLeft(1)))
	checkNothing(t, of(64, 2, fromBottom(1), fromLeft(32), fromLeft(16), fromLeft(8), fromLeft(4), fromLeft(2), fromLeft(1)))
	checkNothing(t, of(16, 8, fromLeft(8), fromLeft(4), fromLeft(2), fromLeft(1), fromBottom(4), fromBottom(2), fromBottom(1)))
	checkNothing(t, of(13, 5))
	checkNothing(t, of(5, 13, fromLeft(2)))
	checkNothing(t, of(64, 64))
}

// P13.1: steps that leave more than one panel.
func TestTooFewSteps(t *testing.T) {
	for cols := 1; cols <= 64; cols++ {
		for rows := 1; rows <= 64; rows++ {
			if cols*rows > 1 {
				checkNothing(t, of(cols, rows))
			}
		}
	}
	checkNothing(t, of(3, 1, fromLeft(1)))
	checkNothing(t, of(3, 1, below(fromRight(1))))
	checkNothing(t, of(4, 1, fromLeft(2)))
	checkNothing(t, of(2, 2, fromLeft(1)))
	checkNothing(t, of(2, 2, fromTop(1)))
	checkNothing(t, of(1, 4, fromTop(1), fromTop(1)))
	checkNothing(t, of(64, 1, fromLeft(31), fromLeft(16), fromLeft(8), fromLeft(4), fromLeft(2), fromLeft(1)))
	for _, s := range known(t) {
		for i := range s.Steps {
			checkNothing(t, of(s.Cols, s.Rows, slices.Delete(slices.Clone(s.Steps), i, i+1)...))
		}
	}
}

// P13.1: steps that can't be done, at each place.
func TestWrongSteps(t *testing.T) {
	wrong := []api.Step{{}, {Under: true}, {Side: 0, N: 1}, {Side: 5, N: 1}, {Side: -1, N: 1}, {Side: 1<<32 + 1, N: 1}, {Side: most, N: 1},
		{Side: least, N: 1}, {Side: 1, N: 0}, {Side: 1, N: -1}, {Side: 2, N: 65}, {Side: 3, N: 1<<32 + 1}, {Side: 4, N: most, Under: true},
		{Side: 1, N: least}, {Side: 2, N: least / 2}, fromLeft(5), fromRight(5), below(fromBottom(5)), fromTop(5), fromLeft(64)}
	for _, w := range wrong {
		checkNothing(t, of(1, 1, w))
		checkNothing(t, of(2, 1, w))
		checkNothing(t, of(1, 2, w))
		for _, s := range known(t) {
			for i := range len(s.Steps) + 1 {
				checkNothing(t, of(s.Cols, s.Rows, slices.Insert(slices.Clone(s.Steps), i, w)...))
			}
		}
	}
	checkNothing(t, of(3, 1, fromLeft(2)))
	checkNothing(t, of(3, 1, fromRight(2), fromLeft(1)))
	checkNothing(t, of(1, 3, below(fromTop(2))))
	checkNothing(t, of(5, 1, fromLeft(3), fromLeft(1)))
	checkNothing(t, of(2, 1, fromBottom(1)))
	checkNothing(t, of(1, 2, fromLeft(1)))
	checkNothing(t, of(2, 1, fromLeft(1), fromLeft(1)))
	checkNothing(t, of(2, 2, fromLeft(1), fromRight(1), fromBottom(1)))
	checkNothing(t, of(1, 1, fromLeft(1)))
}

// P13.1: more than 6 steps, though they leave one panel.
func TestTooManySteps(t *testing.T) {
	checkNothing(t, of(8, 1, slices.Repeat([]api.Step{fromLeft(1)}, 7)...))
	checkNothing(t, of(1, 8, slices.Repeat([]api.Step{below(fromTop(1))}, 7)...))
	checkNothing(t, of(5, 4, slices.Repeat([]api.Step{fromLeft(1), fromBottom(1)}, 4)[:7]...))
	checkNothing(t, of(64, 1, slices.Repeat([]api.Step{fromLeft(1)}, 63)...))
	checkNothing(t, of(1, 1, make([]api.Step, 1<<20)...))
	checkNothing(t, of(8, 8, slices.Repeat([]api.Step{fromLeft(1)}, 1<<20)...))
}

// P13.1: Up of all four, whatever the leaf is.
func TestUp(t *testing.T) {
	for _, leaf := range []int{0, 1, 63, 64, -1, least, most} {
		for _, e := range []struct{ x, y, up bool }{{false, false, true}, {true, false, false}, {false, true, false}, {true, true, true}} {
			if p := (api.Panel{Leaf: leaf, FlipX: e.x, FlipY: e.y}); Up(p) != e.up {
				t.Fatalf("Up(%v) = %v", p, !e.up)
			}
		}
	}
}

// checkTumble: of all four flips, the leaf that is meant, and the other FlipY.
func checkTumble(t *testing.T, leaf, panels, meant int) {
	t.Helper()
	for _, x := range []bool{false, true} {
		for _, y := range []bool{false, true} {
			p := api.Panel{Leaf: leaf, FlipX: x, FlipY: y}
			q := Tumble(p, panels)
			if q != (api.Panel{Leaf: meant, FlipX: x, FlipY: !y}) {
				t.Fatalf("Tumble(%v, %d) = %v; meant: leaf %d, and the other FlipY", p, panels, q, meant)
			}
			if Up(q) == Up(p) {
				t.Fatalf("Tumble(%v, %d) = %v: the same side is above", p, panels, q)
			}
			if again := Tumble(q, panels); again != p {
				t.Fatalf("Tumble(%v, %d) = %v, and tumbled again %v", p, panels, q, again)
			}
		}
	}
}

// P13.2: of the first leaf and the last one, and those between.
func TestTumble(t *testing.T) {
	checkTumble(t, 0, 1, 0)
	checkTumble(t, 0, 2, 1)
	checkTumble(t, 1, 2, 0)
	checkTumble(t, 0, 4, 3)
	checkTumble(t, 1, 4, 2)
	checkTumble(t, 2, 4, 1)
	checkTumble(t, 3, 4, 0)
	checkTumble(t, 1, 3, 1)
	checkTumble(t, 0, 64, 63)
	checkTumble(t, 63, 64, 0)
}

// P13.2: numbers of panels and leaves that are none: the difference goes round.
func TestTumbleOfWrongNumbers(t *testing.T) {
	checkTumble(t, 0, 0, -1)
	checkTumble(t, 0, -1, -2)
	checkTumble(t, 5, 0, -6)
	checkTumble(t, 4, 4, -1)
	checkTumble(t, -1, 4, 4)
	checkTumble(t, -7, -3, 3)
	checkTumble(t, 100, 65, -36)
	checkTumble(t, 0, most, most-1)
	checkTumble(t, most, most, -1)
	checkTumble(t, -1, most, most)
	checkTumble(t, -2, most, least)
	checkTumble(t, least, most, -2)
	checkTumble(t, 0, least, most)
	checkTumble(t, 1, least, most-1)
	checkTumble(t, -1, least, least)
	checkTumble(t, least, least, -1)
	checkTumble(t, most, least, 0)
	checkTumble(t, least, 0, most)
	checkTumble(t, most, 0, least)
	checkTumble(t, least, 1, least)
	checkTumble(t, most, 1, -most)
	checkTumble(t, 0, least+1, least)
	checkTumble(t, 1<<32, 1<<33, 1<<32-1)
}

// P13.2: all that lies there, turned over, has the other order, and each panel
// is flipped in y once more.
func TestTumbleOfSchemes(t *testing.T) {
	for _, s := range known(t) {
		words := strings.Fields(lain(s))
		slices.Reverse(words)
		for i, word := range words {
			if flat, is := strings.CutSuffix(word, "y"); is {
				words[i] = flat
			} else {
				words[i] = word + "y"
			}
		}
		panels := Of(s)
		order := make([]int, len(panels))
		for n, p := range panels {
			panels[n] = Tumble(p, len(panels))
			order[panels[n].Leaf] = n
		}
		if told, meant := tell(panels, order), strings.Join(words, " "); told != meant {
			t.Fatalf("%v tumbled: %s; meant: %s", s, told, meant)
		}
	}
}

// P2: a list that was answered, changed, changes no later answer, and no other
// one.
func TestAnswersAreNew(t *testing.T) {
	for _, s := range known(t) {
		meant := lain(s)
		panels, order := Of(s), Order(s)
		for range 2 {
			p, o := Of(s), Order(s)
			for i := range p[:cap(p)] {
				p[:cap(p)][i] = api.Panel{Leaf: 99, FlipX: true, FlipY: true}
			}
			for i := range o[:cap(o)] {
				o[:cap(o)][i] = 99
			}
			checkFold(t, s, meant)
		}
		if told := tell(panels, order); told != meant {
			t.Fatalf("%v: what was answered ahead is %s now; it was %s", s, told, meant)
		}
	}
}

// P2: what is handed in stays as it was, also behind its end.
func TestArgumentsStay(t *testing.T) {
	for _, s := range known(t) {
		steps := append(s.Steps, api.Step{Side: 7, N: 99, Under: true}, fromTop(1))
		kept := slices.Clone(steps)
		for n := range len(steps) + 1 {
			Of(of(s.Cols, s.Rows, steps[:n]...))
			Order(of(s.Cols, s.Rows, steps[:n]...))
			if !slices.Equal(steps, kept) {
				t.Fatalf("the steps are %v now; they were %v", steps, kept)
			}
		}
	}
	steps := []api.Step{fromLeft(1)}
	panels, order := Of(of(2, 1, steps...)), Order(of(2, 1, steps...))
	steps[0] = below(fromRight(1))
	if told := tell(panels, order); told != "0x 1" {
		t.Fatalf("what was answered is %s now", told)
	}
}

// P3: what was asked ahead is one to an answer.
func TestAnswersStayTheSame(t *testing.T) {
	for range 3 {
		checkFold(t, of(2, 2, fromBottom(1), fromLeft(1)), "2x 0xy 1y 3")
		checkNothing(t, of(2, 2))
		checkFold(t, of(2, 2, fromLeft(1), fromBottom(1)), "1y 0xy 2x 3")
		checkNothing(t, of(0, 0))
		checkFold(t, of(1, 1), "0")
		checkTumble(t, 0, 4, 3)
	}
}

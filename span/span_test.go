package span

import (
	"math"
	"math/bits"
	"slices"
	"testing"

	"gatherum/api"
)

const (
	least = math.MinInt
	most  = math.MaxInt
)

func of(lo, hi int) api.Span { return api.Span{Lo: lo, Hi: hi} }

// oddOnes: empty spans, also ones whose Lo is above their Hi.
func oddOnes() []api.Span {
	return []api.Span{
		{}, of(3, 3), of(-3, -3), of(4, 3), of(5, -5), of(least, least), of(most, most),
		of(most, least), of(0, least), of(most, 0), of(least+1, least), of(most, most-1),
	}
}

// filledOnes: spans with numbers, up to both ends of the ints.
func filledOnes() []api.Span {
	return []api.Span{
		of(0, 1), of(0, 5), of(-5, 0), of(-3, 4), of(least, least+1), of(most-1, most),
		of(least, most), of(least, 0), of(0, most), of(least+1, most-1),
	}
}

// P3.1: a span is empty, if Lo is not below Hi.
func TestEmpty(t *testing.T) {
	for _, a := range oddOnes() {
		if !Empty(a) {
			t.Fatalf("Empty(%v) is false", a)
		}
	}
	for _, a := range filledOnes() {
		if Empty(a) {
			t.Fatalf("Empty(%v) is true", a)
		}
	}
}

// P3.1: Lo is a number of the span, Hi is none.
func TestHas(t *testing.T) {
	for _, r := range []struct {
		a   api.Span
		n   int
		has bool
	}{
		{of(2, 5), 1, false},
		{of(2, 5), 2, true},
		{of(2, 5), 3, true},
		{of(2, 5), 4, true},
		{of(2, 5), 5, false},
		{of(2, 5), least, false},
		{of(2, 5), most, false},
		{of(-5, -2), -5, true},
		{of(-5, -2), -2, false},
		{of(least, most), least, true},
		{of(least, most), 0, true},
		{of(least, most), most - 1, true},
		{of(least, most), most, false},
		{of(most-1, most), most - 2, false},
		{of(least+1, 0), least, false},
	} {
		if Has(r.a, r.n) != r.has {
			t.Fatalf("Has(%v, %d) isn't %v", r.a, r.n, r.has)
		}
	}
	for _, a := range oddOnes() {
		for _, n := range []int{least, -5, -1, 0, 3, 4, most - 1, most, a.Lo, a.Hi} {
			if Has(a, n) {
				t.Fatalf("Has(%v, %d), but it is empty", a, n)
			}
		}
	}
}

// pairs: what two spans come to, either one being the first.
var pairs = []struct {
	a, b, meet, hull api.Span
}{
	// One ahead of the other, touching, laid over each other.
	{of(0, 2), of(4, 6), api.Span{}, of(0, 6)},
	{of(0, 3), of(3, 6), api.Span{}, of(0, 6)},
	{of(0, 4), of(3, 6), of(3, 4), of(0, 6)},
	{of(-6, -1), of(-3, 2), of(-3, -1), of(-6, 2)},
	// One within the other, with an end in common, and the same.
	{of(0, 9), of(3, 6), of(3, 6), of(0, 9)},
	{of(0, 9), of(0, 6), of(0, 6), of(0, 9)},
	{of(0, 9), of(3, 9), of(3, 9), of(0, 9)},
	{of(3, 6), of(3, 6), of(3, 6), of(3, 6)},
	{of(3, 4), of(3, 4), of(3, 4), of(3, 4)},
	// Up to the ends of the ints.
	{of(least, most), of(3, 6), of(3, 6), of(least, most)},
	{of(least, 0), of(0, most), api.Span{}, of(least, most)},
	{of(least, 1), of(0, most), of(0, 1), of(least, most)},
	{of(least, least+1), of(most-1, most), api.Span{}, of(least, most)},
	{of(least, most), of(least, most), of(least, most), of(least, most)},
	// One of them empty: behind, ahead, within; Lo above Hi.
	{of(0, 3), of(9, 9), api.Span{}, of(0, 3)},
	{of(0, 3), of(-9, -9), api.Span{}, of(0, 3)},
	{of(0, 3), of(2, 2), api.Span{}, of(0, 3)},
	{of(0, 3), of(2, 1), api.Span{}, of(0, 3)},
	{of(0, 3), of(9, -9), api.Span{}, of(0, 3)},
	{of(0, 3), of(most, least), api.Span{}, of(0, 3)},
	{of(least, most), of(most, least), api.Span{}, of(least, most)},
	{of(5, 7), api.Span{}, api.Span{}, of(5, 7)},
	// Both empty.
	{api.Span{}, api.Span{}, api.Span{}, api.Span{}},
	{of(3, 3), of(3, 3), api.Span{}, api.Span{}},
	{of(2, 2), of(9, 9), api.Span{}, api.Span{}},
	{of(9, 2), of(5, 4), api.Span{}, api.Span{}},
	{of(7, 7), api.Span{}, api.Span{}, api.Span{}},
	{of(most, least), of(most, least), api.Span{}, api.Span{}},
}

// P3.1: without a number in both, or in either, the zero span is answered.
func TestMeetAndHull(t *testing.T) {
	for _, r := range pairs {
		for _, p := range [][2]api.Span{{r.a, r.b}, {r.b, r.a}} {
			if m := Meet(p[0], p[1]); m != r.meet {
				t.Fatalf("Meet%v = %v; meant: %v", p, m, r.meet)
			}
			if h := Hull(p[0], p[1]); h != r.hull {
				t.Fatalf("Hull%v = %v; meant: %v", p, h, r.hull)
			}
			apart := r.meet == api.Span{}
			if Apart(p[0], p[1]) != apart {
				t.Fatalf("Apart%v isn't %v", p, apart)
			}
		}
	}
}

// P3.1: an empty span is within each one, and has only empty ones within it.
func TestWithin(t *testing.T) {
	for _, r := range []struct {
		a, b   api.Span
		within bool
	}{
		{of(3, 6), of(0, 9), true},
		{of(0, 6), of(0, 9), true},
		{of(3, 9), of(0, 9), true},
		{of(0, 9), of(0, 9), true},
		{of(0, 9), of(3, 6), false},
		{of(0, 9), of(0, 8), false},
		{of(0, 9), of(1, 9), false},
		{of(0, 3), of(3, 6), false},
		{of(3, 6), of(0, 3), false},
		{of(0, 4), of(3, 6), false},
		{of(3, 6), of(least, most), true},
		{of(least, most), of(least, most), true},
		{of(least, most), of(least+1, most), false},
		{of(least, most), of(least, most-1), false},
	} {
		if Within(r.a, r.b) != r.within {
			t.Fatalf("Within(%v, %v) isn't %v", r.a, r.b, r.within)
		}
	}
	for _, e := range oddOnes() {
		for _, a := range filledOnes() {
			if !Within(e, a) || Within(a, e) {
				t.Fatalf("the empty %v and %v: %v, %v", e, a, Within(e, a), Within(a, e))
			}
		}
		for _, o := range oddOnes() {
			if !Within(e, o) {
				t.Fatalf("Within(%v, %v), both empty, is false", e, o)
			}
		}
	}
}

func checkCut(t *testing.T, a api.Span, at []int, meant []api.Span) {
	t.Helper()
	kept := slices.Clone(at)
	if l := Cut(a, at...); !slices.Equal(l, meant) {
		t.Fatalf("Cut(%v, %v) = %v; meant: %v", a, kept, l, meant)
	}
	if !slices.Equal(at, kept) {
		t.Fatalf("Cut changed %v into %v", kept, at)
	}
}

// P3.2: cuts in any order, at numbers of the span but its first one.
func TestCut(t *testing.T) {
	whole := []api.Span{of(0, 5)}
	three := []api.Span{of(0, 1), of(1, 3), of(3, 5)}
	for _, r := range []struct {
		a     api.Span
		at    []int
		parts []api.Span
	}{
		{of(0, 5), nil, whole},
		{of(0, 5), []int{}, whole},
		{of(0, 5), []int{2}, []api.Span{of(0, 2), of(2, 5)}},
		{of(0, 5), []int{4}, []api.Span{of(0, 4), of(4, 5)}},
		{of(0, 5), []int{1, 3}, three},
		{of(0, 5), []int{3, 1}, three},
		{of(0, 5), []int{3, 0, 1, 3}, three},
		{of(0, 5), []int{3, 3, 1, 1, 3, 1}, three},
		{of(0, 5), []int{9, 3, -1, 5, 1, 0, least, most}, three},
		// At the first number, at the end, and beyond: no part of it.
		{of(0, 5), []int{0}, whole},
		{of(0, 5), []int{0, 0}, whole},
		{of(0, 5), []int{5}, whole},
		{of(0, 5), []int{-1}, whole},
		{of(0, 5), []int{6, -7, 5, most, least}, whole},
		// At each number, rising and falling.
		{of(-2, 2), []int{-2, -1, 0, 1, 2}, []api.Span{of(-2, -1), of(-1, 0), of(0, 1), of(1, 2)}},
		{of(-2, 2), []int{2, 1, 0, -1, -2}, []api.Span{of(-2, -1), of(-1, 0), of(0, 1), of(1, 2)}},
		{of(7, 8), []int{6, 7, 8}, []api.Span{of(7, 8)}},
		// Up to the ends of the ints.
		{of(least, most), nil, []api.Span{of(least, most)}},
		{of(least, most), []int{most, least}, []api.Span{of(least, most)}},
		{of(least, most), []int{0}, []api.Span{of(least, 0), of(0, most)}},
		{of(least, most), []int{most - 1, least + 1},
			[]api.Span{of(least, least+1), of(least+1, most-1), of(most-1, most)}},
	} {
		checkCut(t, r.a, r.at, r.parts)
	}
}

// P3.2: of an empty span there is no part, wherever it is cut.
func TestCutOfEmpty(t *testing.T) {
	for _, a := range oddOnes() {
		checkCut(t, a, nil, nil)
		checkCut(t, a, []int{0}, nil)
		checkCut(t, a, []int{a.Lo, a.Hi, 3, 4, -5, least, most}, nil)
	}
}

func checkMinus(t *testing.T, a, b api.Span, meant []api.Span) {
	t.Helper()
	if l := Minus(a, b); !slices.Equal(l, meant) {
		t.Fatalf("Minus(%v, %v) = %v; meant: %v", a, b, l, meant)
	}
}

// P3.2: what is left is two spans, one or none, and never an empty one.
func TestMinus(t *testing.T) {
	for _, r := range []struct {
		a, b api.Span
		left []api.Span
	}{
		{of(0, 5), of(2, 3), []api.Span{of(0, 2), of(3, 5)}},
		{of(0, 5), of(1, 4), []api.Span{of(0, 1), of(4, 5)}},
		{of(0, 5), of(0, 3), []api.Span{of(3, 5)}},
		{of(0, 5), of(-2, 3), []api.Span{of(3, 5)}},
		{of(0, 5), of(3, 5), []api.Span{of(0, 3)}},
		{of(0, 5), of(3, 8), []api.Span{of(0, 3)}},
		// All of it.
		{of(0, 5), of(0, 5), nil},
		{of(0, 5), of(-1, 5), nil},
		{of(0, 5), of(0, 6), nil},
		{of(0, 5), of(least, most), nil},
		// Apart, and touching.
		{of(0, 5), of(7, 9), []api.Span{of(0, 5)}},
		{of(0, 5), of(-9, -7), []api.Span{of(0, 5)}},
		{of(0, 5), of(5, 9), []api.Span{of(0, 5)}},
		{of(0, 5), of(-9, 0), []api.Span{of(0, 5)}},
		// Up to the ends of the ints.
		{of(least, most), of(2, 3), []api.Span{of(least, 2), of(3, most)}},
		{of(least, most), of(least, 0), []api.Span{of(0, most)}},
		{of(least, most), of(0, most), []api.Span{of(least, 0)}},
		{of(least, most), of(least+1, most-1), []api.Span{of(least, least+1), of(most-1, most)}},
		{of(least, most), of(least, most), nil},
	} {
		checkMinus(t, r.a, r.b, r.left)
	}
}

// P3.2: less an empty span it stays one, also where that lies in its midst; of
// an empty span nothing is left.
func TestMinusOfEmpty(t *testing.T) {
	for _, e := range oddOnes() {
		for _, a := range filledOnes() {
			checkMinus(t, a, e, []api.Span{a})
			checkMinus(t, e, a, nil)
		}
		for _, o := range oddOnes() {
			checkMinus(t, e, o, nil)
		}
	}
}

// A field is rising numbers; a span between two of them is told by the gaps
// that it covers, one bit each.
type field []int

// fields: one where each gap is a number, one up to the ends of the ints.
func fields() []field {
	return []field{
		{-3, -2, -1, 0, 1, 2, 3, 4},
		{least, least + 1, -1, 0, 1, most - 1, most},
	}
}

func (f field) spans() []api.Span {
	var l []api.Span
	for _, lo := range f {
		for _, hi := range f {
			l = append(l, of(lo, hi))
		}
	}
	return l
}

func (f field) gaps(a api.Span) uint {
	g := uint(0)
	for i, n := range f[:len(f)-1] {
		if a.Lo <= n && n < a.Hi {
			g |= 1 << i
		}
	}
	return g
}

// runs: the gaps as spans that are as few as can be, but parted ahead of the
// cuts.
func (f field) runs(gaps uint, cuts []int) []api.Span {
	var l []api.Span
	for i, n := range f[:len(f)-1] {
		if gaps&(1<<i) == 0 {
			continue
		}
		if k := len(l) - 1; k >= 0 && l[k].Hi == n && !slices.Contains(cuts, n) {
			l[k].Hi = f[i+1]
		} else {
			l = append(l, of(n, f[i+1]))
		}
	}
	return l
}

// hull: the span from the least gap to the greatest one.
func (f field) hull(gaps uint) api.Span {
	if gaps == 0 {
		return api.Span{}
	}
	return of(f[bits.TrailingZeros(gaps)], f[bits.Len(gaps)])
}

// P3.1, P3.2: all pairs of spans of a field, held against their gaps.
func TestAllPairs(t *testing.T) {
	for _, f := range fields() {
		for _, a := range f.spans() {
			g := f.gaps(a)
			if Empty(a) != (g == 0) {
				t.Fatalf("Empty(%v) = %v", a, Empty(a))
			}
			for i, n := range f {
				if Has(a, n) != (g&(1<<i) != 0) {
					t.Fatalf("Has(%v, %d) = %v", a, n, Has(a, n))
				}
			}
			for _, b := range f.spans() {
				checkPair(t, f, a, b)
			}
		}
	}
}

func checkPair(t *testing.T, f field, a, b api.Span) {
	t.Helper()
	g, h := f.gaps(a), f.gaps(b)
	if m := Meet(a, b); m != f.hull(g&h) {
		t.Fatalf("Meet(%v, %v) = %v", a, b, m)
	}
	if u := Hull(a, b); u != f.hull(g|h) {
		t.Fatalf("Hull(%v, %v) = %v", a, b, u)
	}
	if Within(a, b) != (g&^h == 0) {
		t.Fatalf("Within(%v, %v) = %v", a, b, Within(a, b))
	}
	if Apart(a, b) != (g&h == 0) {
		t.Fatalf("Apart(%v, %v) = %v", a, b, Apart(a, b))
	}
	checkMinus(t, a, b, f.runs(g&^h, nil))
}

// P3.2, P3.3: all spans of a field, cut at up to three of its numbers, in any
// order, and held against their gaps.
func TestAllCuts(t *testing.T) {
	for _, f := range fields() {
		for _, a := range f.spans() {
			g := f.gaps(a)
			cuts := [][]int{nil}
			for range 4 {
				for _, at := range cuts {
					checkCut(t, a, at, f.runs(g, at))
				}
				cuts = f.more(cuts)
			}
		}
	}
}

// more: each list of cuts with each number of the field behind it.
func (f field) more(cuts [][]int) [][]int {
	var l [][]int
	for _, at := range cuts {
		for _, n := range f {
			l = append(l, append(slices.Clone(at), n))
		}
	}
	return l
}

// P3.3: a span's parts have each of its numbers once, and no other one; so have
// what is left of it and what was taken.
func TestPartsHaveEachNumberOnce(t *testing.T) {
	for lo := -4; lo <= 4; lo++ {
		for hi := -4; hi <= 4; hi++ {
			a := of(lo, hi)
			for x := -5; x <= 5; x++ {
				for y := -5; y <= 5; y++ {
					checkOnce(t, a, Cut(a, x, y, 0, x))
					b := of(x, y)
					checkOnce(t, a, append(Minus(a, b), Meet(a, b)))
				}
			}
		}
	}
}

func checkOnce(t *testing.T, a api.Span, parts []api.Span) {
	t.Helper()
	for n := -9; n <= 9; n++ {
		times := 0
		for _, p := range parts {
			if Has(p, n) {
				times++
			}
		}
		if Has(a, n) && times != 1 || !Has(a, n) && times != 0 {
			t.Fatalf("%d is %d times in the parts %v of %v", n, times, parts, a)
		}
	}
}

// P3.3: of many cuts in disorder the parts go on one behind the other, from
// the span's first number to its end.
func TestManyCuts(t *testing.T) {
	const n = 20011 // a prime, so that its multiples modulo n are all numbers
	var at []int
	for i := range n {
		at = append(at, i*7919%n)
	}
	parts := Cut(of(-3, n+3), at...)
	if len(parts) != n+1 {
		t.Fatalf("%d parts", len(parts))
	}
	for i, p := range parts {
		lo, hi := i-1, i
		if i == 0 {
			lo = -3
		}
		if i == n {
			hi = n + 3
		}
		if p != of(lo, hi) {
			t.Fatalf("part %d is %v", i, p)
		}
	}
}

// P2: an answer shares no memory with what was handed in, nor with another
// answer, so that changing one changes no other.
func TestAnswersAreNew(t *testing.T) {
	at := make([]int, 2, 9)
	at[0], at[1] = 4, 2
	first, second := Cut(of(0, 6), at...), Cut(of(0, 6), at...)
	for i := range first {
		first[i] = of(9, 9)
	}
	first = append(first, of(9, 9))
	if !slices.Equal(second, []api.Span{of(0, 2), of(2, 4), of(4, 6)}) {
		t.Fatalf("an answer of Cut became %v beside %v", second, first)
	}
	if !slices.Equal(at[:9], []int{4, 2, 0, 0, 0, 0, 0, 0, 0}) {
		t.Fatalf("the cuts became %v", at[:9])
	}
	one, other := Minus(of(0, 5), of(2, 3)), Minus(of(0, 5), of(2, 3))
	one[0], one[1] = of(9, 9), of(9, 9)
	if !slices.Equal(other, []api.Span{of(0, 2), of(3, 5)}) {
		t.Fatalf("an answer of Minus became %v", other)
	}
}

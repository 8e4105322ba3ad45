package deck

import (
	"iter"
	"math"
	"slices"
	"strings"
	"testing"
)

const (
	least = math.MinInt
	most  = math.MaxInt
)

// lengths: of decks of nothing, of one thing, of even and of odd numbers.
func lengths() []int { return []int{0, 1, 2, 3, 4, 5, 6, 7, 8, 9, 16, 17, 64, 1000, 1001} }

// from: n numbers, first first.
func from(first, n int) []int {
	var l []int
	for i := range n {
		l = append(l, first+i)
	}
	return l
}

// laid: a deck of n numbers, first uppermost.
func laid(first, n int) *Deck[int] { return Of(from(first, n)...) }

// join: all of these, one behind the other.
func join[T any](ls ...[]T) []T {
	var all []T
	for _, l := range ls {
		all = append(all, l...)
	}
	return all
}

// texts: a deck of the letters of s.
func texts(s string) *Deck[string] {
	if s == "" {
		return Of[string]()
	}
	return Of(strings.Split(s, "")...)
}

func tell(d *Deck[string]) string { return strings.Join(d.List(), "") }

// told: a place, and the thing there.
type told[T any] struct {
	at int
	x  T
}

// walk: all that a walk tells.
func walk[T any](seq iter.Seq2[int, T]) []told[T] {
	var l []told[T]
	for at, x := range seq {
		l = append(l, told[T]{at, x})
	}
	return l
}

// meantWalk: what a walk of these ought to tell.
func meantWalk[T any](l []T) []told[T] {
	var m []told[T]
	for i := 0; i < len(l); i++ {
		m = append(m, told[T]{i, l[i]})
	}
	return m
}

// checkDeck: these are in it, by Len, by List and by All.
func checkDeck[T comparable](t *testing.T, name string, d *Deck[T], meant []T) {
	t.Helper()
	if d == nil {
		t.Fatalf("%s: nil; meant: %v", name, meant)
	}
	if l := d.List(); !slices.Equal(l, meant) || d.Len() != len(meant) {
		t.Fatalf("%s: %d things, %v; meant: %v", name, d.Len(), l, meant)
	}
	if l := walk(d.All()); !slices.Equal(l, meantWalk(meant)) {
		t.Fatalf("%s: All tells %v; meant: %v", name, l, meant)
	}
}

// P8.1: a deck of these, the uppermost one first.
func TestOf(t *testing.T) {
	for _, n := range lengths() {
		checkDeck(t, "of numbers", laid(5, n), from(5, n))
	}
	checkDeck(t, "three, written out", Of(7, 7, 3), []int{7, 7, 3})
	checkDeck(t, "zero things", Of(0, 0), []int{0, 0})
	checkDeck(t, "ends", Of(least, most, -1), []int{least, most, -1})
	checkDeck(t, "texts", Of("b", "", "a"), []string{"b", "", "a"})
	checkDeck(t, "structs", Of(told[string]{1, "x"}, told[string]{}), []told[string]{{1, "x"}, {}})
}

// P8.1, P5: nil and empty lists are one: a deck without things, not nil.
func TestOfNothing(t *testing.T) {
	var none []string
	for name, d := range map[string]*Deck[string]{"nothing": Of[string](), "nil": Of(none...), "empty": Of([]string{}...)} {
		checkDeck(t, name, d, nil)
	}
}

// P2: the list that was handed to Of is not kept, and not changed.
func TestOfKeepsNoList(t *testing.T) {
	l := make([]int, 4, 20)
	copy(l, from(1, 4))
	d, e := Of(l...), Of(l...)
	l[0], l[3] = -1, -4
	checkDeck(t, "its list changed", d, from(1, 4))
	l[0], l[3] = 1, 4
	d.Turn(func(x int) int { return 10 * x })
	d.Under(Of(8, 9))
	d.Into(Of(6, 7))
	d.Over(Of(5))
	d.Cut(3)
	if !slices.Equal(l[:20], join(from(1, 4), make([]int, 16))) {
		t.Fatalf("the list is %v", l[:20])
	}
	checkDeck(t, "another one of that list", e, from(1, 4))
}

// P2: nor does what is done in the room behind a list that was handed in.
func TestOfPartsOfOneList(t *testing.T) {
	l := from(1, 6)
	d, e := Of(l[:2]...), Of(l[2:]...)
	d.Under(Of(-1, -2, -3))
	e.Over(Of(-4))
	checkDeck(t, "first part", d, []int{1, 2, -1, -2, -3})
	checkDeck(t, "second part", e, []int{-4, 3, 4, 5, 6})
	if !slices.Equal(l, from(1, 6)) {
		t.Fatalf("the list is %v", l)
	}
}

// P2: a list that was answered is new memory.
func TestListIsNew(t *testing.T) {
	for _, n := range lengths() {
		d := laid(1, n)
		a, b := d.List(), d.List()
		for i := range a {
			a[i] = -1
		}
		_ = append(a, -2, -3)
		checkDeck(t, "its list changed", d, from(1, n))
		if !slices.Equal(b, from(1, n)) {
			t.Fatalf("another list of it is %v", b)
		}
		d.Turn(func(int) int { return -4 })
		d.Cut(1)
		if !slices.Equal(b, from(1, n)) {
			t.Fatalf("the deck changed: its list is %v", b)
		}
	}
}

// P2: the same behind a cut and a laying, when there may be room behind.
func TestListIsNewBehindChanges(t *testing.T) {
	d := laid(1, 9)
	d.Cut(4)
	for range 20 {
		l := d.List()
		kept := slices.Clone(l)
		_ = append(l, -1, -2, -3)
		d.Under(Of(100))
		if !slices.Equal(d.List(), append(kept, 100)) {
			t.Fatalf("%v; meant: %v, and 100", d.List(), kept)
		}
		if !slices.Equal(l, kept[:len(l)]) {
			t.Fatalf("the list is %v; meant: %v", l, kept)
		}
	}
}

// P8.1: a walk is left at its first, at a middle and at its last thing, and
// no more is told then; gone through again, it begins anew (P2).
func TestAllIsLeft(t *testing.T) {
	for _, n := range lengths()[1:] {
		seq := laid(1, n).All()
		whole := meantWalk(from(1, n))
		for _, wanted := range []int{1, n/2 + 1, n, 1, n, n + 1} {
			var l []told[int]
			seq(func(at int, x int) bool {
				l = append(l, told[int]{at, x})
				return len(l) < wanted
			})
			if !slices.Equal(l, whole[:min(wanted, n)]) {
				t.Fatalf("of %d, left at %d: %v", n, wanted, l)
			}
		}
	}
}

// P8.1: a loop that is left.
func TestAllInALoop(t *testing.T) {
	got := ""
	for i, x := range texts("abcdef").All() {
		if i == 4 {
			break
		}
		got += x
	}
	if got != "abcd" {
		t.Fatal(got)
	}
}

// P8.1: one sequence, gone through within itself.
func TestAllWithinAll(t *testing.T) {
	got := ""
	seq := texts("abc").All()
	for _, x := range seq {
		for _, y := range seq {
			got += x + y
		}
	}
	if got != "aaabacbabbbccacbcc" {
		t.Fatal(got)
	}
}

// P2: a walk tells what there was when it began, whatever is done while it
// goes on; the next one of the same sequence tells what is there then.
func TestChangesWhileAWalkGoesOn(t *testing.T) {
	changes := map[string]func(d *Deck[int]){
		"over":         func(d *Deck[int]) { d.Over(Of(-1, -2)) },
		"under":        func(d *Deck[int]) { d.Under(Of(-1, -2)) },
		"into":         func(d *Deck[int]) { d.Into(Of(-1, -2)) },
		"cut one":      func(d *Deck[int]) { d.Cut(1) },
		"cut three":    func(d *Deck[int]) { d.Cut(3) },
		"cut all":      func(d *Deck[int]) { d.Cut(most) },
		"turn":         func(d *Deck[int]) { d.Turn(nil) },
		"turn, with f": func(d *Deck[int]) { d.Turn(func(x int) int { return x + 100 }) },
		"itself over":  func(d *Deck[int]) { d.Over(Of(d.List()[:1]...)) },
		"all of them": func(d *Deck[int]) {
			d.Under(Of(-3, -4))
			d.Cut(2)
			d.Into(Of(-5))
			d.Turn(func(x int) int { return -x })
			d.Over(Of(-6))
			d.Cut(1)
		},
	}
	for name, change := range changes {
		for first := range 6 {
			d := laid(1, 6)
			d.Under(Of(7, 8))
			d.Cut(2)
			meant := from(3, 6)
			seq, l := d.All(), []told[int](nil)
			for at, x := range seq {
				l = append(l, told[int]{at, x})
				if at == first || at == first+1 {
					change(d)
				}
			}
			if !slices.Equal(l, meantWalk(meant)) {
				t.Fatalf("%s at %d: the walk tells %v", name, first, l)
			}
			if l := walk(seq); !slices.Equal(l, meantWalk(d.List())) {
				t.Fatalf("%s at %d: the next walk tells %v; there are %v", name, first, l, d.List())
			}
		}
	}
}

// P2: what is done between the asking for a sequence and the walk is told.
func TestChangesAheadOfAWalk(t *testing.T) {
	d := Of[string]()
	seq := d.All()
	d.Under(texts("abc"))
	d.Turn(nil)
	if l := walk(seq); !slices.Equal(l, []told[string]{{0, "c"}, {1, "b"}, {2, "a"}}) {
		t.Fatalf("the walk tells %v", l)
	}
	d.Cut(2)
	if l := walk(seq); !slices.Equal(l, []told[string]{{0, "a"}}) {
		t.Fatalf("the walk tells %v", l)
	}
}

// P2: two walks that began at different times each tell what there was then.
func TestTwoWalksWithAChangeBetween(t *testing.T) {
	d := texts("ab")
	seq := d.All()
	outer, inner := "", ""
	for _, x := range seq {
		outer += x
		d.Over(texts("x"))
		for _, y := range seq {
			inner += y
		}
	}
	if outer != "ab" || inner != "xabxxab" {
		t.Fatalf("the walks tell %s and %s", outer, inner)
	}
}

// P2: a walk of one deck, while another one that came of it is changed.
func TestWalkWhileAnotherDeckIsChanged(t *testing.T) {
	o := laid(1, 4)
	d := Of(9)
	d.Over(o)
	off := o.Cut(2)
	var a, b []int
	for _, x := range o.All() {
		a = append(a, x)
		d.Turn(func(int) int { return 0 })
		off.Under(Of(5, 6))
	}
	for _, x := range off.All() {
		b = append(b, x)
		o.Turn(func(int) int { return 0 })
		d.Cut(1)
	}
	if !slices.Equal(a, []int{3, 4}) || !slices.Equal(b, []int{1, 2, 5, 6, 5, 6}) {
		t.Fatalf("%v, %v", a, b)
	}
}

// P8.1: the chapter's example.
func TestTurnExample(t *testing.T) {
	d := Of("a", "b")
	d.Turn(nil)
	checkDeck(t, "a b turned", d, []string{"b", "a"})
}

// P8.1: the last one first, and so on, without an f; twice, as it was.
func TestTurn(t *testing.T) {
	for _, n := range lengths() {
		d := laid(1, n)
		d.Turn(nil)
		back := from(1, n)
		slices.Reverse(back)
		checkDeck(t, "turned", d, back)
		d.Turn(nil)
		checkDeck(t, "turned twice", d, from(1, n))
	}
}

// P8.1: each is what f makes of it, once.
func TestTurnWithF(t *testing.T) {
	for _, n := range lengths() {
		d, calls := laid(1, n), 0
		d.Turn(func(x int) int { calls++; return 3*x + 1 })
		var meant []int
		for x := n; x >= 1; x-- {
			meant = append(meant, 3*x+1)
		}
		checkDeck(t, "turned", d, meant)
		if calls != n {
			t.Fatalf("%d things, f called %d times", n, calls)
		}
		d.Turn(func(x int) int { return x - 1 })
		for i := range meant {
			meant[i]--
		}
		slices.Reverse(meant)
		checkDeck(t, "turned twice", d, meant)
	}
}

// P8.1: of texts, and an f that makes other things of things that are alike.
func TestTurnOfTexts(t *testing.T) {
	d := texts("aba")
	d.Turn(func(x string) string { return strings.ToUpper(x) + "." })
	checkDeck(t, "texts", d, []string{"A.", "B.", "A."})
	d.Turn(func(string) string { return "" })
	checkDeck(t, "all alike", d, []string{"", "", ""})
}

// P1: an f that looks at the deck, or changes it, meets it as it was; all
// that was there is turned.
func TestTurnWithAnFThatAsksTheDeck(t *testing.T) {
	d := laid(1, 4)
	d.Turn(func(x int) int {
		checkDeck(t, "while it is turned", d, from(1, 4))
		return 10 * x
	})
	checkDeck(t, "turned", d, []int{40, 30, 20, 10})
	d.Turn(func(x int) int {
		d.Cut(1)
		return x / 10
	})
	checkDeck(t, "cut meanwhile", d, from(1, 4))
}

// P2: an f keeps things as they are: nothing within them is copied.
func TestThingsAreKeptAsTheyAre(t *testing.T) {
	list := []int{1, 2, 3}
	d := Of(list, nil)
	d.Over(Of([]int{9}))
	d.Turn(nil)
	d.Into(Of([]int{8}))
	d.Turn(func(l []int) []int { return l })
	off := d.Cut(2)
	x := off.List()[1]
	if len(x) != 3 || &x[0] != &list[0] {
		t.Fatalf("%v", off.List())
	}
	for _, y := range off.All() {
		if len(y) == 3 && &y[0] != &list[0] {
			t.Fatal("a walk tells another one")
		}
	}
}

// P8.2: upon, beneath, into: of decks of all small sizes, o being as it was.
func TestLaying(t *testing.T) {
	for _, n := range lengths() {
		for _, m := range lengths() {
			a, b := from(1, n), from(-1000, m)
			o := laid(-1000, m)
			d := laid(1, n)
			d.Over(o)
			checkDeck(t, "over", d, join(b, a))
			d = laid(1, n)
			d.Under(o)
			checkDeck(t, "under", d, join(a, b))
			d = laid(1, n)
			if ok := d.Into(o); ok != (n%2 == 0) {
				t.Fatalf("%d into %d: %v", m, n, ok)
			}
			if n%2 == 0 {
				checkDeck(t, "into", d, join(a[:n/2], b, a[n/2:]))
			} else {
				checkDeck(t, "into an odd number", d, a)
			}
			checkDeck(t, "o", o, b)
		}
	}
}

// P8.2: the same, written out.
func TestLayingOfTexts(t *testing.T) {
	d, o := texts("ab"), texts("xyz")
	d.Over(o)
	checkDeck(t, "over", d, strings.Split("xyzab", ""))
	d.Under(o)
	checkDeck(t, "then under", d, strings.Split("xyzabxyz", ""))
	if !d.Into(o) {
		t.Fatal("into: false")
	}
	checkDeck(t, "then into", d, strings.Split("xyzaxyzbxyz", ""))
	if d.Into(o) {
		t.Fatal("into an odd number: true")
	}
	checkDeck(t, "then into an odd number", d, strings.Split("xyzaxyzbxyz", ""))
}

// P8.2: Into where d has none, where o has none, and where neither has any.
func TestIntoOfNone(t *testing.T) {
	d := Of[string]()
	if !d.Into(texts("abc")) {
		t.Fatal("into none: false")
	}
	checkDeck(t, "into none", d, []string{"a", "b", "c"})
	if d.Into(Of[string]()) {
		t.Fatal("none into an odd number: true")
	}
	checkDeck(t, "none into an odd number", d, []string{"a", "b", "c"})
	d.Cut(1)
	if !d.Into(Of[string]()) {
		t.Fatal("none into two: false")
	}
	checkDeck(t, "none into two", d, []string{"b", "c"})
	d = Of[string]()
	if !d.Into(Of[string]()) {
		t.Fatal("none into none: false")
	}
	checkDeck(t, "none into none", d, nil)
}

// P8.2: several times in a row, at each end and in the middle.
func TestLayingManyTimes(t *testing.T) {
	const n = 200
	over, under, into := Of[int](), Of[int](), Of[int]()
	var downwards, nested []int
	for i := range n {
		over.Over(Of(i))
		under.Under(Of(i))
		if !into.Into(Of(i, -i)) {
			t.Fatalf("into %d: false", into.Len())
		}
		downwards = append([]int{i}, downwards...)
	}
	for i := range n {
		nested = append(nested, i)
	}
	for i := n - 1; i >= 0; i-- {
		nested = append(nested, -i)
	}
	checkDeck(t, "over", over, downwards)
	checkDeck(t, "under", under, from(0, n))
	checkDeck(t, "into", into, nested)
}

// layings: the calls that lay one deck to another one.
func layings() map[string]func(d, o *Deck[string]) {
	return map[string]func(d, o *Deck[string]){
		"over":  func(d, o *Deck[string]) { d.Over(o) },
		"under": func(d, o *Deck[string]) { d.Under(o) },
		"into":  func(d, o *Deck[string]) { d.Into(o) },
	}
}

// changes: all that may become of a deck.
func changes() map[string]func(d *Deck[string]) {
	return map[string]func(d *Deck[string]){
		"over":  func(d *Deck[string]) { d.Over(texts("xyz")) },
		"under": func(d *Deck[string]) { d.Under(texts("xyz")) },
		"into":  func(d *Deck[string]) { d.Into(texts("xyz")) },
		"cut":   func(d *Deck[string]) { d.Cut(1) },
		"empty": func(d *Deck[string]) { d.Cut(most); d.Under(texts("xyzxyz")) },
		"turn":  func(d *Deck[string]) { d.Turn(func(string) string { return "x" }) },
		"list":  func(d *Deck[string]) { copy(d.List(), []string{"x", "y", "z"}) },
		"twice": func(d *Deck[string]) { d.Over(d); d.Turn(nil); d.Under(texts("x")) },
	}
}

// P2: what becomes of d later leaves o as it is, and the other way round.
func TestLaidDecksShareNothing(t *testing.T) {
	for how, lay := range layings() {
		for _, start := range []string{"", "ab", "abcd"} {
			for what, change := range changes() {
				d, o := texts(start), texts("mnop")
				lay(d, o)
				now := tell(d)
				change(o)
				if tell(d) != now {
					t.Fatalf("%q %s mnop, o by %s: %s; meant: %s", start, how, what, tell(d), now)
				}
				d, o = texts(start), texts("mnop")
				lay(d, o)
				change(d)
				if tell(o) != "mnop" {
					t.Fatalf("%q %s mnop, d by %s: o is %s", start, how, what, tell(o))
				}
			}
		}
	}
}

// P2: a deck that was cut off, and what is left: neither changes the other.
func TestCutDecksShareNothing(t *testing.T) {
	for n := range 6 {
		for what, change := range changes() {
			d := texts("abcde")
			off := d.Cut(n)
			change(d)
			if tell(off) != "abcde"[:n] {
				t.Fatalf("cut of %d, what is left by %s: %s", n, what, tell(off))
			}
			d = texts("abcde")
			off = d.Cut(n)
			change(off)
			if tell(d) != "abcde"[n:] {
				t.Fatalf("cut of %d, what went by %s: %s", n, what, tell(d))
			}
		}
	}
}

// P8.2: the first n go, and both parts are what they ought to be, of all
// numbers around those that there are.
func TestCut(t *testing.T) {
	for _, size := range []int{0, 1, 2, 3, 4, 7, 8} {
		for n := -3; n <= size+3; n++ {
			d := laid(1, size)
			off := d.Cut(n)
			k := min(max(n, 0), size)
			checkDeck(t, "what went", off, from(1, k))
			checkDeck(t, "what is left", d, from(1+k, size-k))
		}
	}
}

// P8.2: at least 0, at most all, at the ends of the ints too.
func TestCutAtTheEnds(t *testing.T) {
	for n, k := range map[int]int{
		least: 0, least + 1: 0, -1 << 32: 0, -1<<32 + 2: 0, -5: 0, -1: 0, 0: 0, 4: 4, 5: 5, 6: 5,
		1 << 32: 5, 1<<32 + 2: 5, 1 << 62: 5, most - 1: 5, most: 5,
	} {
		d := laid(1, 5)
		off := d.Cut(n)
		checkDeck(t, "what went", off, from(1, k))
		checkDeck(t, "what is left", d, from(1+k, 5-k))
	}
}

// P8.2: of a deck without things: one without things, not nil.
func TestCutOfNone(t *testing.T) {
	for _, n := range []int{least, -1, 0, 1, most} {
		d := Of[string]()
		checkDeck(t, "what went", d.Cut(n), nil)
		checkDeck(t, "what is left", d, nil)
	}
}

// P8.2: cut again and again, and laid together again.
func TestCutManyTimes(t *testing.T) {
	d, e := laid(1, 100), Of[int]()
	for i := 1; d.Len() > 0; i++ {
		had := d.Len()
		off := d.Cut(i)
		if off.Len() != min(i, had) || d.Len() != had-off.Len() {
			t.Fatalf("%d of %d: %d, and %d", i, had, off.Len(), d.Len())
		}
		e.Under(off)
	}
	checkDeck(t, "together again", e, from(1, 100))
	checkDeck(t, "nothing left", d, nil)
	d.Under(e)
	checkDeck(t, "laid to what is left", d, from(1, 100))
}

// P2: what was cut off is kept no more, not even where it is not seen.
func TestCutKeepsNothing(t *testing.T) {
	d := texts("abcd")
	memory := d.things
	d.Cut(3)
	if !slices.Equal(memory, []string{"", "", "", "d"}) {
		t.Fatalf("kept: %v", memory)
	}
}

// P8.2: d and o one and the same: it has them twice.
func TestLaidToItself(t *testing.T) {
	for _, n := range lengths() {
		l := from(1, n)
		d := laid(1, n)
		d.Over(d)
		checkDeck(t, "over itself", d, join(l, l))
		d = laid(1, n)
		d.Under(d)
		checkDeck(t, "under itself", d, join(l, l))
		d = laid(1, n)
		if ok := d.Into(d); ok != (n%2 == 0) {
			t.Fatalf("%d into itself: %v", n, ok)
		}
		if n%2 == 0 {
			checkDeck(t, "into itself", d, join(l[:n/2], l, l[n/2:]))
		} else {
			checkDeck(t, "an odd number, into itself", d, l)
		}
	}
}

// P8.2: the same, several times in a row, and when there is room behind.
func TestLaidToItselfManyTimes(t *testing.T) {
	for room := range 12 {
		d := texts("ab")
		d.Under(texts(strings.Repeat("x", room)))
		d.Turn(nil)
		d.Cut(room)
		d.Turn(nil)
		for range 3 {
			d.Under(texts(strings.Repeat("y", room)))
			now := tell(d)
			d.Over(d)
			if tell(d) != now+now {
				t.Fatalf("over itself: %s; it was %s", tell(d), now)
			}
			now += now
			if !d.Into(d) || tell(d) != now[:len(now)/2]+now+now[len(now)/2:] {
				t.Fatalf("into itself: %s; it was %s", tell(d), now)
			}
			now = tell(d)
			d.Under(d)
			if tell(d) != now+now {
				t.Fatalf("under itself: %s; it was %s", tell(d), now)
			}
			d.Cut(d.Len() - 4)
		}
	}
}

// P8.2: a nil o has none.
func TestNilO(t *testing.T) {
	for _, n := range lengths() {
		d := laid(1, n)
		d.Over(nil)
		checkDeck(t, "nil over", d, from(1, n))
		d.Under(nil)
		checkDeck(t, "nil under", d, from(1, n))
		if ok := d.Into(nil); ok != (n%2 == 0) {
			t.Fatalf("nil into %d: %v", n, ok)
		}
		checkDeck(t, "nil into", d, from(1, n))
	}
}

// P8.2: of a nil deck: 0, nothing, false, nil.
func TestNil(t *testing.T) {
	var d *Deck[string]
	if d.Len() != 0 || len(d.List()) != 0 {
		t.Fatalf("%d things, %v", d.Len(), d.List())
	}
	d.Turn(nil)
	d.Turn(func(x string) string {
		t.Fatalf("f of %q", x)
		return x
	})
	o := texts("ab")
	for _, other := range []*Deck[string]{o, nil, d, Of[string]()} {
		d.Over(other)
		d.Under(other)
		if d.Into(other) {
			t.Fatal("into nil: true")
		}
	}
	checkDeck(t, "o", o, []string{"a", "b"})
	for _, n := range []int{least, -1, 0, 1, 2, most} {
		if d.Cut(n) != nil {
			t.Fatalf("Cut(%d) is one", n)
		}
	}
	if d != nil || d.Len() != 0 {
		t.Fatal("it has things")
	}
}

// P8.2, P2: the sequence of a nil deck is not nil, and has nothing; nor has
// that of a deck without things.
func TestAllOfNothing(t *testing.T) {
	var none *Deck[string]
	for _, d := range []*Deck[string]{none, none.Cut(1), Of[string](), texts("ab").Cut(0)} {
		seq := d.All()
		if seq == nil {
			t.Fatal("no sequence")
		}
		for range 2 {
			for at, x := range seq {
				t.Fatalf("%q at %d", x, at)
			}
		}
	}
}

// P1: a deck that Of did not make has nothing, and may be laid upon.
func TestZeroDeck(t *testing.T) {
	var d Deck[string]
	checkDeck(t, "zero", &d, nil)
	d.Turn(nil)
	checkDeck(t, "cut", d.Cut(1), nil)
	d.Over(texts("a"))
	d.Under(texts("b"))
	if !d.Into(texts("cd")) {
		t.Fatal("into: false")
	}
	checkDeck(t, "laid", &d, []string{"a", "c", "d", "b"})
}

// P8.1, P8.2: of functions, anys, decks and things without a size, too.
func TestOtherTypes(t *testing.T) {
	f := Of(func() int { return 7 }, nil)
	f.Turn(nil)
	if l := f.List(); l[0] != nil || l[1]() != 7 {
		t.Fatal("of functions")
	}
	checkDeck(t, "of anys", Of[any](1, "x", nil), []any{1, "x", nil})
	e := Of(make([]struct{}, 6)...)
	if !e.Into(e) || e.Len() != 12 || e.Cut(5).Len() != 5 || e.Len() != 7 || len(walk(e.All())) != 7 {
		t.Fatal("of things without a size")
	}
	within := Of(texts("ab"), texts("cd"))
	within.Turn(func(d *Deck[string]) *Deck[string] { d.Turn(nil); return d })
	if l := within.List(); tell(l[0]) != "dc" || tell(l[1]) != "ba" {
		t.Fatal("of decks")
	}
}

// way: one call of a deck of texts, beside what it ought to make of them.
type way struct {
	name  string
	do    func(d *Deck[string]) bool
	meant func(s string) (string, bool)
}

func backwards(s string) string {
	l := strings.Split(s, "")
	slices.Reverse(l)
	return strings.Join(l, "")
}

func middle(s, o string) (string, bool) {
	if len(s)%2 != 0 {
		return s, false
	}
	return s[:len(s)/2] + o + s[len(s)/2:], true
}

func ways() []way {
	return []way{
		{"over", func(d *Deck[string]) bool { d.Over(texts("xy")); return true },
			func(s string) (string, bool) { return "xy" + s, true }},
		{"under", func(d *Deck[string]) bool { d.Under(texts("z")); return true },
			func(s string) (string, bool) { return s + "z", true }},
		{"into", func(d *Deck[string]) bool { return d.Into(texts("uvw")) },
			func(s string) (string, bool) { return middle(s, "uvw") }},
		{"over itself", func(d *Deck[string]) bool { d.Over(d); return true },
			func(s string) (string, bool) { return s + s, true }},
		{"into itself", func(d *Deck[string]) bool { return d.Into(d) },
			func(s string) (string, bool) { return middle(s, s) }},
		{"turn", func(d *Deck[string]) bool { d.Turn(strings.ToUpper); return true },
			func(s string) (string, bool) { return strings.ToUpper(backwards(s)), true }},
		{"cut two", func(d *Deck[string]) bool { d.Cut(2); return true },
			func(s string) (string, bool) { return s[min(2, len(s)):], true }},
		{"cut, laid beneath", func(d *Deck[string]) bool { d.Under(d.Cut(3)); return true },
			func(s string) (string, bool) { n := min(3, len(s)); return s[n:] + s[:n], true }},
	}
}

// P8.1, P8.2: all rows of up to five calls, held against the same of texts.
func TestRowsOfCalls(t *testing.T) {
	all := ways()
	var try func(start, row string, calls []int)
	try = func(start, row string, calls []int) {
		d, s := texts(start), start
		for _, k := range calls {
			meant, is := all[k].meant(s)
			if ok := all[k].do(d); ok != is || tell(d) != meant || d.Len() != len(meant) {
				t.Fatalf("%q%s: %s, %v; meant: %s, %v", start, row, tell(d), ok, meant, is)
			}
			s = meant
		}
		if len(calls) == 5 {
			return
		}
		for k := range all {
			try(start, row+", "+all[k].name, append(slices.Clone(calls), k))
		}
	}
	for _, start := range []string{"", "abc"} {
		try(start, "", nil)
	}
}

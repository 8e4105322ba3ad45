package turn

import (
	"math"
	"testing"

	"gatherum/api"
)

const (
	least = math.MinInt
	most  = math.MaxInt
)

func at(x, y int) api.Point { return api.Point{X: x, Y: y} }

// eight: what the chapter says of each turn, written out: x and y become
// xx x and xy y, yx x and yy y.
var eight = []struct {
	text           string
	xx, xy, yx, yy int
	back           int
	mirrors, swaps bool
}{
	{"r0", 1, 0, 0, 1, 0, false, false},
	{"r1", 0, -1, 1, 0, 3, false, true},
	{"r2", -1, 0, 0, -1, 2, false, false},
	{"r3", 0, 1, -1, 0, 1, false, true},
	{"m0", -1, 0, 0, 1, 4, true, false},
	{"m1", 0, -1, -1, 0, 5, true, true},
	{"m2", 1, 0, 0, -1, 6, true, false},
	{"m3", 0, 1, 1, 0, 7, true, true},
}

// thens: the turn that does the row's, and then the column's.
var thens = [8][8]int{
	{0, 1, 2, 3, 4, 5, 6, 7},
	{1, 2, 3, 0, 7, 4, 5, 6},
	{2, 3, 0, 1, 6, 7, 4, 5},
	{3, 0, 1, 2, 5, 6, 7, 4},
	{4, 5, 6, 7, 0, 1, 2, 3},
	{5, 6, 7, 4, 3, 0, 1, 2},
	{6, 7, 4, 5, 2, 3, 0, 1},
	{7, 4, 5, 6, 1, 2, 3, 0},
}

// odd: turns of any size, each beside the one from 0 to 7 as which it counts.
func odd() map[int]int {
	m := map[int]int{
		least: 0, least + 1: 1, least + 4: 4, least + 5: 5, least + 7: 7, least + 8: 0, least + 14: 6,
		most: 7, most - 1: 6, most - 2: 5, most - 3: 4, most - 4: 3, most - 7: 0, most - 13: 2,
		1 << 32: 0, 1<<32 + 3: 3, -1 << 32: 0, -1<<32 - 1: 7, 1 << 62: 0, 1<<62 + 5: 5, 1000003: 3, -1000003: 5,
	}
	for n := -80; n < 80; n++ {
		m[n] = (n + 80) % 8
	}
	return m
}

// points: such as no two turns bring to one place, such as lie on an axis or
// on a line between them, and those at both ends of the ints.
func points() []api.Point {
	var l []api.Point
	ns := []int{0, 1, -1, 2, -5, 300, 1 << 40, most, most - 1, -most, least, least + 1}
	for _, x := range ns {
		for _, y := range ns {
			l = append(l, at(x, y))
		}
	}
	return l
}

// brought: where the turn n from 0 to 7 brings p, by the table; products go
// round, so that -1 times the least int is that one.
func brought(n int, p api.Point) api.Point {
	e := eight[n]
	return at(e.xx*p.X+e.xy*p.Y, e.yx*p.X+e.yy*p.Y)
}

// P5.1: each turn, of a point whose numbers tell where it came from.
func TestDo(t *testing.T) {
	for n, meant := range []api.Point{
		at(2, 3), at(-3, 2), at(-2, -3), at(3, -2),
		at(-2, 3), at(-3, -2), at(2, -3), at(3, 2),
	} {
		if p := Do(n, at(2, 3)); p != meant {
			t.Fatalf("Do(%d, 2 3) = %v; meant: %v", n, p, meant)
		}
	}
}

// P5.1: the least int stays where a number is turned round; the others don't.
func TestDoAtTheEnds(t *testing.T) {
	for n, meant := range []api.Point{
		at(least, most), at(-most, least), at(least, -most), at(most, least),
		at(least, most), at(-most, least), at(least, -most), at(most, least),
	} {
		if p := Do(n, at(least, most)); p != meant {
			t.Fatalf("Do(%d, least most) = %v; meant: %v", n, p, meant)
		}
		if p := Do(n, at(least, least)); p != at(least, least) {
			t.Fatalf("Do(%d, least least) = %v", n, p)
		}
	}
}

// P5.1: the same, of all points and turns of any size.
func TestDoOfAll(t *testing.T) {
	for n, among := range odd() {
		for _, p := range points() {
			if got, meant := Do(n, p), brought(among, p); got != meant {
				t.Fatalf("Do(%d, %v) = %v; meant: %v", n, p, got, meant)
			}
		}
	}
}

// P5.1: a, and then b, not the other way round.
func TestThen(t *testing.T) {
	for a, row := range thens {
		for b, meant := range row {
			if n := Then(a, b); n != meant {
				t.Fatalf("Then(%d, %d) = %d; meant: %d", a, b, n, meant)
			}
		}
	}
}

// P5.1: both may be of any size, the answer is from 0 to 7.
func TestThenOfOdd(t *testing.T) {
	for a, i := range odd() {
		for b, j := range odd() {
			if n := Then(a, b); n != thens[i][j] {
				t.Fatalf("Then(%d, %d) = %d; meant: %d", a, b, n, thens[i][j])
			}
		}
	}
}

// P5.1, P5.2: Then brings each point where the one turn, and then the other
// one, bring it.
func TestThenDoesBoth(t *testing.T) {
	for a := range 8 {
		for b := range 8 {
			for _, p := range points() {
				if got, meant := Do(Then(a, b), p), Do(b, Do(a, p)); got != meant {
					t.Fatalf("%d, and then %d, of %v: %v; meant: %v", a, b, p, got, meant)
				}
			}
		}
	}
}

// P5.1: what each turn is; those of any size count as one of the eight.
func TestEach(t *testing.T) {
	for n, among := range odd() {
		e := eight[among]
		if b := Back(n); b != e.back {
			t.Fatalf("Back(%d) = %d; meant: %d", n, b, e.back)
		}
		if Mirrors(n) != e.mirrors {
			t.Fatalf("Mirrors(%d) isn't %v", n, e.mirrors)
		}
		if Swaps(n) != e.swaps {
			t.Fatalf("Swaps(%d) isn't %v", n, e.swaps)
		}
		if s := Text(n); s != e.text {
			t.Fatalf("Text(%d) = %q; meant: %q", n, s, e.text)
		}
	}
}

// P5.1: Swaps is so just if a point on the one axis comes to the other one.
func TestSwapsIsSeen(t *testing.T) {
	for n := range 8 {
		if p := Do(n, at(5, 0)); Swaps(n) != (p.X == 0) {
			t.Fatalf("Swaps(%d) = %v, but 5 0 comes to %v", n, Swaps(n), p)
		}
	}
}

// P5.1: Mirrors is so just if what goes against the clock goes with it then.
func TestMirrorsIsSeen(t *testing.T) {
	for n := range 8 {
		x, y := Do(n, at(1, 0)), Do(n, at(0, 1))
		if area := x.X*y.Y - x.Y*y.X; Mirrors(n) != (area < 0) {
			t.Fatalf("Mirrors(%d) = %v, but 1 0 and 0 1 come to %v and %v", n, Mirrors(n), x, y)
		}
	}
}

func checkFind(t *testing.T, s string, meant int, is bool) {
	t.Helper()
	if n, ok := Find(s); n != meant || ok != is {
		t.Fatalf("Find(%q) = %d, %v; meant: %d, %v", s, n, ok, meant, is)
	}
}

// found: the turn whose text s is, by the table.
func found(s string) (int, bool) {
	for n, e := range eight {
		if e.text == s {
			return n, true
		}
	}
	return 0, false
}

// P5.1: the text of each of the eight is found.
func TestFind(t *testing.T) {
	for n, e := range eight {
		checkFind(t, e.text, n, true)
	}
}

// P5.1: what is no turn's text is none, and the number beside is 0 (P4).
func TestFindOfWrongTexts(t *testing.T) {
	for _, s := range []string{
		"", "r", "m", "0", "7", "-", " ",
		"R0", "R3", "M0", "M3", "a0", "q1", "s1", "l0", "n0", "rm", "mr", "rr",
		"r4", "r5", "r7", "r8", "r9", "m4", "m7", "m9", "r/", "r:", "m-",
		"0r", "3m", "00", "11", "r00", "r01", "r10", "m30", "r-1", "r+1", "r 1", "rm0", "mr0", "r1r1",
		" r0", "r0 ", "\tr1", "r1\n", "m2\r\n", "\x00m3", "m3\x00",
		"\xff", "\xff\xff", "r\xff", "\xff0", "r0\xff", "\x00\x00", "r\x00",
		"r\u0661", "\uff520", "r\uff10", "r\u00b2",
		"r0r1r2r3m0m1m2m3", "turn", "mirror", "quarter",
	} {
		checkFind(t, s, 0, false)
	}
}

// P5.1: of all texts of up to two octets just the eight are found.
func TestFindOfShortTexts(t *testing.T) {
	checkFind(t, "", 0, false)
	for a := range 256 {
		checkFind(t, string([]byte{byte(a)}), 0, false)
		for b := range 256 {
			s := string([]byte{byte(a), byte(b)})
			n, is := found(s)
			checkFind(t, s, n, is)
		}
	}
}

// P5.1: with any octet ahead, behind or within, a turn's text is none.
func TestFindOfLongerTexts(t *testing.T) {
	for _, e := range eight {
		for a := range 256 {
			c := string([]byte{byte(a)})
			checkFind(t, c+e.text, 0, false)
			checkFind(t, e.text+c, 0, false)
			checkFind(t, e.text[:1]+c+e.text[1:], 0, false)
		}
	}
}

// P5.1: what Text tells of a turn of any size, Find finds among the eight.
func TestFindText(t *testing.T) {
	for n, among := range odd() {
		checkFind(t, Text(n), among, true)
	}
}

// P5.2: of three it is one whether the first two or the last two are taken
// together.
func TestThrees(t *testing.T) {
	for a := range 8 {
		for b := range 8 {
			for c := range 8 {
				if left, right := Then(Then(a, b), c), Then(a, Then(b, c)); left != right {
					t.Fatalf("%d, %d, %d: %d and %d", a, b, c, left, right)
				}
			}
		}
	}
}

// P5.2: 0 changes nothing, no other turn does so; Back undoes, from both
// sides, and is undone.
func TestGroup(t *testing.T) {
	for n := range 8 {
		if Then(n, 0) != n || Then(0, n) != n {
			t.Fatalf("%d and 0: %d, %d", n, Then(n, 0), Then(0, n))
		}
		if Then(n, Back(n)) != 0 || Then(Back(n), n) != 0 || Back(Back(n)) != n {
			t.Fatalf("Back(%d) = %d doesn't undo it", n, Back(n))
		}
		for _, p := range points() {
			if n == 0 && Do(n, p) != p {
				t.Fatalf("Do(0, %v) = %v", p, Do(n, p))
			}
			if Do(Back(n), Do(n, p)) != p || Do(n, Do(Back(n), p)) != p {
				t.Fatalf("Back(%d) doesn't bring %v back", n, p)
			}
		}
	}
}

// P5.2: what undoes two is what undoes the last one, and then the first one.
func TestBackOfTwo(t *testing.T) {
	for a := range 8 {
		for b := range 8 {
			if got, meant := Back(Then(a, b)), Then(Back(b), Back(a)); got != meant {
				t.Fatalf("back of %d, %d: %d; meant: %d", a, b, got, meant)
			}
		}
	}
}

// P5.2: with one turn ahead or behind, the eight come to the eight, each once.
func TestThenIsOneToOne(t *testing.T) {
	for a := range 8 {
		var ahead, behind [8]int
		for b := range 8 {
			ahead[Then(a, b)]++
			behind[Then(b, a)]++
		}
		once := [8]int{1, 1, 1, 1, 1, 1, 1, 1}
		if ahead != once || behind != once {
			t.Fatalf("%d ahead: %v, behind: %v", a, ahead, behind)
		}
	}
}

// P5.1, P5.2: the chapter's example.
func TestExample(t *testing.T) {
	quarter, ok := Find("r1")
	if s := Text(Then(quarter, quarter)); !ok || s != "r2" {
		t.Fatalf("a quarter, and a quarter: %s", s)
	}
}

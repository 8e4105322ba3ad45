package step

import (
	"math"
	"slices"
	"strconv"
	"strings"
	"testing"

	"gatherum/api"
)

func checkPut(t *testing.T, s api.Step, meant string) {
	t.Helper()
	if p, ok := Put(s); p != meant || !ok {
		t.Fatalf("Put(%v) = %q, %v; meant: %q, true", s, p, ok, meant)
	}
}

func checkNoPut(t *testing.T, s api.Step) {
	t.Helper()
	if p, ok := Put(s); p != "" || ok {
		t.Fatalf("Put(%v) = %q, %v; meant: empty, false", s, p, ok)
	}
}

func checkGet(t *testing.T, s string, meant api.Step) {
	t.Helper()
	if g, ok := Get(s); g != meant || !ok {
		t.Fatalf("Get(%.60q) = %v, %v; meant: %v, true", s, g, ok, meant)
	}
}

func checkNoGet(t *testing.T, s string) {
	t.Helper()
	if g, ok := Get(s); g != (api.Step{}) || ok {
		t.Fatalf("Get(%.60q) = %v, %v; meant: a zero step, false", s, g, ok)
	}
}

func checkAfter(t *testing.T, cols, rows int, s api.Step, c, r int) {
	t.Helper()
	if x, y, ok := After(cols, rows, s); x != c || y != r || !ok {
		t.Fatalf("After(%d, %d, %v) = %d, %d, %v; meant: %d, %d, true", cols, rows, s, x, y, ok, c, r)
	}
}

func checkNoAfter(t *testing.T, cols, rows int, s api.Step) {
	t.Helper()
	if x, y, ok := After(cols, rows, s); x != 0 || y != 0 || ok {
		t.Fatalf("After(%d, %d, %v) = %d, %d, %v; meant: 0, 0, false", cols, rows, s, x, y, ok)
	}
}

func checkAll(t *testing.T, cols, rows int, l []api.Step, c, r int) {
	t.Helper()
	if x, y, ok := All(cols, rows, l); x != c || y != r || !ok {
		t.Fatalf("All(%d, %d, %.200v) = %d, %d, %v; meant: %d, %d, true", cols, rows, l[:min(len(l), 9)], x, y, ok, c, r)
	}
}

func checkNoAll(t *testing.T, cols, rows int, l []api.Step) {
	t.Helper()
	if x, y, ok := All(cols, rows, l); x != 0 || y != 0 || ok {
		t.Fatalf("All(%d, %d, %.200v) = %d, %d, %v; meant: 0, 0, false", cols, rows, l[:min(len(l), 9)], x, y, ok)
	}
}

func fromLeft(n int) api.Step   { return api.Step{Side: api.Left, N: n} }
func fromRight(n int) api.Step  { return api.Step{Side: api.Right, N: n} }
func fromBottom(n int) api.Step { return api.Step{Side: api.Bottom, N: n} }
func fromTop(n int) api.Step    { return api.Step{Side: api.Top, N: n} }

func below(s api.Step) api.Step {
	s.Under = true
	return s
}

// wrongNumbers: which are neither a side nor an N.
var wrongNumbers = [...]int{0, -1, -4, -64, 65, 66, 128, 256, 257, 1 << 16, 1<<16 + 1, 1 << 32, 1<<32 + 1,
	1 << 62, 1<<62 + 1, -1 << 32, 1 - 1<<32, math.MaxInt, math.MaxInt - 1, math.MinInt, math.MinInt + 1}

// wrongSteps: steps of which one field is wrong, or both numbers.
func wrongSteps() []api.Step {
	l := []api.Step{{}, {Under: true}, {Side: 5, N: 1}, {Side: 5, N: 64}, {Side: 6, N: 1}, {Side: 65, N: 65}}
	for _, w := range wrongNumbers {
		for _, u := range []bool{false, true} {
			for side := api.Left; side <= api.Top; side++ {
				l = append(l, api.Step{Side: side, N: w, Under: u})
			}
			l = append(l, api.Step{Side: w, N: 1, Under: u}, api.Step{Side: w, N: 64, Under: u}, api.Step{Side: w, N: w, Under: u})
		}
	}
	return l
}

// short calls do with each text of at most n of the alphabet's octets.
func short(alphabet string, n int, do func(string)) {
	var longer func(s string)
	longer = func(s string) {
		do(s)
		if len(s) == n {
			return
		}
		for i := range len(alphabet) {
			longer(s + alphabet[i:i+1])
		}
	}
	longer("")
}

// texts: every right step by its text, told by this test alone.
func texts() map[string]api.Step {
	m := map[string]api.Step{}
	for i, letter := range []string{"L", "R", "B", "T"} {
		for n := 1; n <= 64; n++ {
			m[letter+strconv.Itoa(n)] = api.Step{Side: i + 1, N: n}
			m[letter+strconv.Itoa(n)+"u"] = api.Step{Side: i + 1, N: n, Under: true}
		}
	}
	return m
}

// P11.1: each side, over and under.
func TestPut(t *testing.T) {
	checkPut(t, fromLeft(2), "L2")
	checkPut(t, fromRight(1), "R1")
	checkPut(t, fromBottom(4), "B4")
	checkPut(t, fromTop(12), "T12")
	checkPut(t, below(fromLeft(10)), "L10u")
	checkPut(t, below(fromRight(1)), "R1u")
	checkPut(t, below(fromBottom(33)), "B33u")
	checkPut(t, below(fromTop(3)), "T3u")
}

// P11.1: the least and the greatest N and side, and those beside them.
func TestPutAtTheEdges(t *testing.T) {
	checkPut(t, fromLeft(1), "L1")
	checkPut(t, fromLeft(64), "L64")
	checkPut(t, fromTop(1), "T1")
	checkPut(t, fromTop(64), "T64")
	checkPut(t, below(fromTop(64)), "T64u")
	checkNoPut(t, fromLeft(0))
	checkNoPut(t, fromLeft(65))
	checkNoPut(t, fromTop(0))
	checkNoPut(t, fromTop(65))
	checkNoPut(t, below(fromTop(65)))
	checkNoPut(t, api.Step{Side: 0, N: 1})
	checkNoPut(t, api.Step{Side: 5, N: 1})
	checkNoPut(t, api.Step{Side: 5, N: 64, Under: true})
}

// P11.1: a step that is not right has no text.
func TestPutOfWrongSteps(t *testing.T) {
	for _, s := range wrongSteps() {
		checkNoPut(t, s)
	}
}

// P11.1: each side, over and under; the text's end tells which.
func TestGet(t *testing.T) {
	checkGet(t, "L2", fromLeft(2))
	checkGet(t, "R1", fromRight(1))
	checkGet(t, "B4", fromBottom(4))
	checkGet(t, "T12", fromTop(12))
	checkGet(t, "L10u", below(fromLeft(10)))
	checkGet(t, "R1u", below(fromRight(1)))
	checkGet(t, "B33u", below(fromBottom(33)))
	checkGet(t, "T3u", below(fromTop(3)))
	checkGet(t, "L1", fromLeft(1))
	checkGet(t, "T64", fromTop(64))
	checkGet(t, "T64u", below(fromTop(64)))
}

// P11.1: what is told is read again, of all right steps.
func TestPutAndGetOfAllSteps(t *testing.T) {
	all := texts()
	if len(all) != 4*64*2 {
		t.Fatalf("%d texts", len(all))
	}
	for s, meant := range all {
		checkPut(t, meant, s)
		checkGet(t, s, meant)
	}
}

// P11.1: no text at all, and parts of texts.
func TestGetOfParts(t *testing.T) {
	for _, s := range []string{"", "L", "R", "B", "T", "1", "12", "64", "u", "Lu", "Tu", "1u", "64u", "uL", "u1", "u1L"} {
		checkNoGet(t, s)
	}
}

// P11.1: letters that are no side's, small ones among them.
func TestGetOfUnknownLetters(t *testing.T) {
	for c := range 256 {
		letter := string([]byte{byte(c)})
		if strings.Contains("LRBT", letter) {
			continue
		}
		for _, rest := range []string{"", "1", "64", "1u"} {
			checkNoGet(t, letter+rest)
		}
	}
	for _, s := range []string{"Left1", "LEFT1", "LL1", "LR1", "L1R", "L1R1", "Ł1", "Ｌ1", "saddle1", "page1"} {
		checkNoGet(t, s)
	}
}

// P11.1: an N that isn't written as one is, or that isn't from 1 to 64.
func TestGetOfWrongNumbers(t *testing.T) {
	wrong := []string{"0", "00", "01", "012", "064", "0064", "+1", "-1", "-0", "+0", "--1", "-64", "1-", "1+",
		"65", "66", "99", "100", "128", "257", "641", "65537", "4294967297", "9223372036854775807",
		"9223372036854775808", "-9223372036854775808", "18446744073709551617", "340282366920938463463374607431768211457",
		"1.0", "1e0", "0x1", "0b1", "0o1", "1_0", "_1", "1,0", "a", "１", "١", "1\x00", "\x001"}
	for _, n := range wrong {
		for _, letter := range []string{"L", "R", "B", "T"} {
			checkNoGet(t, letter+n)
			checkNoGet(t, letter+n+"u")
		}
	}
}

// P11.1: u stands once, small, and at the end.
func TestGetOfWrongEnds(t *testing.T) {
	for _, s := range []string{"L1uu", "L1uuu", "L1U", "L1uU", "L1Uu", "LU", "Lu1", "Lu1u", "L1u1", "L1u2u", "uL1", "uL1u",
		"L1 u", "L1-u", "L1ü", "L1u\x00", "L1over", "L1under", "L1un", "L1o"} {
		checkNoGet(t, s)
	}
}

// P11.1: nothing stands ahead, behind or between.
func TestGetOfMoreThanAText(t *testing.T) {
	for _, s := range []string{" L1", "L1 ", "L 1", " ", "  ", "\t", "\tL1", "L1\t", "L1\n", "\nL1", "L1\r", "L1u ", " L1u",
		"L1 R1", "L1,R1", "L1L1", "xL1", "L1x", "L1ux", "1L1", "1L", "\"L1\"", "L1#", "\xefL1", "L1\xff", "\x00L1", "L1\x00"} {
		checkNoGet(t, s)
	}
	for c := range 256 {
		one := string([]byte{byte(c)})
		checkNoGet(t, one+"L1u")
		checkNoGet(t, "L"+one+"64")
		checkNoGet(t, "L1u"+one)
		checkNoGet(t, "L64u"+one)
	}
}

// P11.1: very long texts are none, and are no trouble.
func TestGetOfLongTexts(t *testing.T) {
	for _, part := range []string{"1", "0", "u", "L", " ", "-", "\x00", "\xff"} {
		long := strings.Repeat(part, 1<<20)
		checkNoGet(t, long)
		checkNoGet(t, "L"+long)
		checkNoGet(t, "L1"+long)
		checkNoGet(t, "L1u"+long)
		checkNoGet(t, "L"+long+"1")
		checkNoGet(t, "L"+long+"u")
		checkNoGet(t, long+"L1")
	}
}

// P11.1: of all short texts, just those of right steps.
func TestGetOfShortTexts(t *testing.T) {
	all := texts()
	short("LRBTlu0164579-+ ", 4, func(s string) {
		if meant, is := all[s]; is {
			checkGet(t, s, meant)
		} else {
			checkNoGet(t, s)
		}
	})
	for _, letter := range []string{"L", "R", "B", "T"} {
		for n := -200; n <= 2000; n++ {
			for _, end := range []string{"", "u"} {
				s := letter + strconv.Itoa(n) + end
				if meant, is := all[s]; is {
					checkGet(t, s, meant)
				} else {
					checkNoGet(t, s)
				}
			}
		}
	}
}

// P11.2: Left and Right take columns, Bottom and Top rows; over or under is
// one to it.
func TestAfter(t *testing.T) {
	checkAfter(t, 4, 1, fromLeft(2), 2, 1) // the chapter's example
	checkAfter(t, 5, 3, fromLeft(1), 4, 3)
	checkAfter(t, 5, 3, fromRight(2), 3, 3)
	checkAfter(t, 3, 5, fromBottom(2), 3, 3)
	checkAfter(t, 3, 5, fromTop(1), 3, 4)
	checkAfter(t, 5, 3, below(fromLeft(1)), 4, 3)
	checkAfter(t, 5, 3, below(fromRight(2)), 3, 3)
	checkAfter(t, 3, 5, below(fromBottom(2)), 3, 3)
	checkAfter(t, 3, 5, below(fromTop(1)), 3, 4)
}

// P11.2: twice N just as many as there are, one less, and one more.
func TestAfterAtTwiceN(t *testing.T) {
	for n := 1; n <= 64; n++ {
		for _, u := range []bool{false, true} {
			for _, side := range []int{api.Left, api.Right} {
				s := api.Step{Side: side, N: n, Under: u}
				checkAfter(t, 2*n, 1, s, n, 1)
				checkAfter(t, 2*n+1, 1, s, n+1, 1)
				checkNoAfter(t, 2*n-1, 1, s)
				checkNoAfter(t, 2*n-1, 2*n, s)
				checkNoAfter(t, 1, 1000, s)
			}
			for _, side := range []int{api.Bottom, api.Top} {
				s := api.Step{Side: side, N: n, Under: u}
				checkAfter(t, 1, 2*n, s, 1, n)
				checkAfter(t, 1, 2*n+1, s, 1, n+1)
				checkNoAfter(t, 1, 2*n-1, s)
				checkNoAfter(t, 2*n, 2*n-1, s)
				checkNoAfter(t, 1000, 1, s)
			}
		}
	}
}

// P11.2: one panel is not folded, and none neither.
func TestAfterOfFewPanels(t *testing.T) {
	for side := api.Left; side <= api.Top; side++ {
		for _, n := range []int{1, 2, 64} {
			s := api.Step{Side: side, N: n}
			checkNoAfter(t, 1, 1, s)
			for _, few := range []int{0, -1, -2, -128, -1 << 32, math.MinInt, math.MinInt + 1} {
				checkNoAfter(t, few, 200, s)
				checkNoAfter(t, 200, few, s)
				checkNoAfter(t, few, few, s)
				checkNoAfter(t, few, 1, s)
				checkNoAfter(t, 1, few, s)
				checkNoAfter(t, math.MaxInt, few, s)
				checkNoAfter(t, few, math.MaxInt, s)
			}
		}
	}
}

// P11.2: how many panels there are has no bound from above.
func TestAfterOfManyPanels(t *testing.T) {
	checkAfter(t, 65, 1, fromLeft(1), 64, 1)
	checkAfter(t, 128, 128, fromLeft(64), 64, 128)
	checkAfter(t, 1, 1000, fromTop(64), 1, 936)
	checkAfter(t, 1000000, 65, fromRight(3), 999997, 65)
	checkAfter(t, math.MaxInt, math.MaxInt, fromLeft(64), math.MaxInt-64, math.MaxInt)
	checkAfter(t, math.MaxInt, math.MaxInt, fromBottom(1), math.MaxInt, math.MaxInt-1)
	checkAfter(t, 1<<62, 1, fromRight(64), 1<<62-64, 1)
	checkAfter(t, 1, 1<<32+1, fromTop(1), 1, 1<<32)
	checkNoAfter(t, math.MaxInt, 1, fromBottom(1))
	checkNoAfter(t, 1, math.MaxInt, fromLeft(1))
}

// P11.2: a step that is not right can't be done, to however many panels; no
// product of its N comes to a small one.
func TestAfterOfWrongSteps(t *testing.T) {
	for _, s := range wrongSteps() {
		for _, cols := range []int{1, 2, 4, 64, 130, 1 << 62, math.MaxInt, 0, -1, math.MinInt} {
			for _, rows := range []int{1, 2, 130, math.MaxInt, 0, math.MinInt} {
				checkNoAfter(t, cols, rows, s)
			}
		}
	}
}

// P11.2: of all small numbers: as counted panel by panel, where each one that
// is folded needs another one to lie on.
func TestAfterOfSmallNumbers(t *testing.T) {
	for cols := -1; cols <= 12; cols++ {
		for rows := -1; rows <= 12; rows++ {
			for side := -1; side <= 6; side++ {
				for n := -2; n <= 8; n++ {
					s := api.Step{Side: side, N: n}
					c, r, ok := counted(cols, rows, s)
					for _, s.Under = range []bool{false, true} {
						if ok {
							checkAfter(t, cols, rows, s, c, r)
						} else {
							checkNoAfter(t, cols, rows, s)
						}
					}
				}
			}
		}
	}
}

// counted takes panels away one by one: each lies on one that stays.
func counted(cols, rows int, s api.Step) (int, int, bool) {
	if cols < 1 || rows < 1 || s.N < 1 || s.Side < 1 || s.Side > 4 {
		return 0, 0, false
	}
	there := rows
	if s.Side == 1 || s.Side == 2 {
		there = cols
	}
	onto := 0
	for range s.N {
		there--
		onto++
	}
	if there < onto {
		return 0, 0, false
	}
	if s.Side == 1 || s.Side == 2 {
		return there, rows, true
	}
	return cols, there, true
}

// P11.2: steps one behind the other, each on what those ahead left.
func TestAll(t *testing.T) {
	checkAll(t, 4, 1, []api.Step{fromLeft(2)}, 2, 1)
	checkAll(t, 4, 1, []api.Step{fromLeft(2), fromLeft(1)}, 1, 1)
	checkAll(t, 4, 1, []api.Step{fromLeft(1), below(fromRight(1)), fromLeft(1)}, 1, 1)
	checkAll(t, 3, 1, []api.Step{fromRight(1), fromLeft(1)}, 1, 1)
	checkAll(t, 3, 2, []api.Step{fromBottom(1), fromRight(1), fromLeft(1)}, 1, 1)
	checkAll(t, 8, 8, []api.Step{fromLeft(4), fromBottom(4), fromLeft(2), fromBottom(2), fromBottom(1), fromLeft(1)}, 1, 1)
	checkAll(t, 8, 8, []api.Step{fromTop(4), below(fromTop(2)), fromRight(3)}, 5, 2)
	checkAll(t, 5, 7, []api.Step{fromLeft(1), fromTop(2), fromRight(2), below(fromBottom(1))}, 2, 4)
	checkAll(t, 128, 130, []api.Step{fromLeft(64), fromTop(64)}, 64, 66)
}

// P11.2: of no step: what there is, if there is any.
func TestAllOfNothing(t *testing.T) {
	for _, l := range [][]api.Step{nil, {}, make([]api.Step, 0, 4)} {
		checkAll(t, 1, 1, l, 1, 1)
		checkAll(t, 4, 7, l, 4, 7)
		checkAll(t, 64, 65, l, 64, 65)
		checkAll(t, 1000, 1, l, 1000, 1)
		checkAll(t, math.MaxInt, math.MaxInt, l, math.MaxInt, math.MaxInt)
		for _, few := range []int{0, -1, -64, math.MinInt} {
			checkNoAll(t, few, 1, l)
			checkNoAll(t, 1, few, l)
			checkNoAll(t, few, few, l)
			checkNoAll(t, few, math.MaxInt, l)
			checkNoAll(t, math.MaxInt, few, l)
		}
	}
}

// P11.2: of one step: as After.
func TestAllOfOneStep(t *testing.T) {
	steps := append(wrongSteps(), fromLeft(1), fromRight(2), fromBottom(3), fromTop(64), below(fromLeft(64)), below(fromTop(2)))
	numbers := []int{math.MinInt, -1, 0, 1, 2, 3, 4, 5, 6, 127, 128, 129, math.MaxInt}
	for _, s := range steps {
		for _, cols := range numbers {
			for _, rows := range numbers {
				if c, r, ok := After(cols, rows, s); ok {
					checkAll(t, cols, rows, []api.Step{s}, c, r)
				} else {
					checkNoAll(t, cols, rows, []api.Step{s})
				}
			}
		}
	}
}

// P11.2: one wrong step at any place, and all of it can't be done.
func TestAllWithOneWrongStep(t *testing.T) {
	well := []api.Step{fromLeft(4), fromBottom(4), fromLeft(2), fromBottom(2), fromBottom(1)}
	checkAll(t, 8, 8, well, 2, 1)
	for _, s := range wrongSteps() {
		for i := range len(well) + 1 {
			checkNoAll(t, 8, 8, slices.Insert(slices.Clone(well), i, s))
		}
	}
}

// P11.2: a step that only fails because of those ahead of it; and one that
// fails though those behind it would do.
func TestAllInOrder(t *testing.T) {
	checkAll(t, 4, 1, []api.Step{fromLeft(2)}, 2, 1)
	checkNoAll(t, 4, 1, []api.Step{fromLeft(1), fromLeft(2)})
	checkAll(t, 4, 1, []api.Step{fromLeft(2), fromLeft(1)}, 1, 1)
	checkNoAll(t, 4, 1, []api.Step{fromLeft(2), fromLeft(1), fromLeft(1)})
	checkNoAll(t, 4, 1, []api.Step{fromLeft(2), fromLeft(1), fromRight(1)})
	checkNoAll(t, 1, 4, []api.Step{fromTop(1), fromBottom(2)})
	checkNoAll(t, 2, 2, []api.Step{fromLeft(1), fromBottom(1), fromTop(1)})
	checkNoAll(t, 2, 2, []api.Step{fromLeft(1), fromRight(1), fromBottom(1)})
	checkNoAll(t, 4, 4, []api.Step{fromTop(3), fromLeft(2), fromLeft(1)})
	checkNoAll(t, 1, 1, []api.Step{fromLeft(1)})
	checkNoAll(t, 0, 4, []api.Step{fromTop(2), fromTop(1)})
	checkNoAll(t, 4, -1, []api.Step{fromLeft(2), fromLeft(1)})
}

// P11.2: very long lists; their length has no bound here.
func TestAllOfLongLists(t *testing.T) {
	const many = 1 << 20
	checkAll(t, many+1, 1, slices.Repeat([]api.Step{fromLeft(1)}, many), 1, 1)
	checkNoAll(t, many, 1, slices.Repeat([]api.Step{fromLeft(1)}, many))
	checkAll(t, math.MaxInt, math.MaxInt, slices.Repeat([]api.Step{below(fromRight(64)), fromTop(1)}, many), math.MaxInt-64*many, math.MaxInt-many)
	checkNoAll(t, 1, 1, slices.Repeat([]api.Step{fromLeft(1)}, many))
	checkNoAll(t, 8, 8, make([]api.Step, many))
	long := slices.Repeat([]api.Step{fromBottom(2)}, many)
	long[many-1] = api.Step{Side: 5, N: 2}
	checkNoAll(t, 4, math.MaxInt, long)
}

// P2: a list that is handed in stays as it was, also behind its end.
func TestAllLeavesItsList(t *testing.T) {
	whole := []api.Step{fromLeft(4), fromBottom(4), below(fromLeft(2)), {Side: 7, N: 99, Under: true}, fromTop(1)}
	kept := slices.Clone(whole)
	checkAll(t, 8, 8, whole[:3], 2, 4)
	checkNoAll(t, 8, 8, whole)
	checkNoAll(t, 0, 0, whole)
	if !slices.Equal(whole, kept) {
		t.Fatalf("the list is %v now; it was %v", whole, kept)
	}
}

// P3: what was asked ahead is one to an answer.
func TestAnswersStayTheSame(t *testing.T) {
	for range 3 {
		checkNoGet(t, "L65")
		checkGet(t, "L64u", below(fromLeft(64)))
		checkNoPut(t, fromLeft(65))
		checkPut(t, fromLeft(64), "L64")
		checkNoAfter(t, 3, 3, fromLeft(2))
		checkAfter(t, 4, 3, fromLeft(2), 2, 3)
		checkNoAll(t, 3, 3, []api.Step{fromLeft(1), fromLeft(1), fromLeft(1)})
		checkAll(t, 3, 3, []api.Step{fromLeft(1), fromLeft(1)}, 1, 3)
	}
}

package words

import (
	"math"
	"slices"
	"strings"
	"testing"

	"gatherum/api"
)

const (
	least = math.MinInt
	most  = math.MaxInt
)

// rows: each word of each table with its number, as the chapter writes them.
var rows = []struct {
	table, n int
	word     string
}{
	{1, api.Saddle, "saddle"}, {1, api.Perfect, "perfect"}, {1, api.Stack, "stack"}, {1, api.ComeGo, "comego"},
	{2, api.Sheetwise, "sheetwise"}, {2, api.Perfecting, "perfecting"}, {2, api.WorkTurn, "turn"}, {2, api.WorkTumble, "tumble"},
	{3, api.Left, "L"}, {3, api.Right, "R"}, {3, api.Bottom, "B"}, {3, api.Top, "T"},
	{4, api.Page, "page"}, {4, api.Crop, "crop"}, {4, api.Crease, "crease"}, {4, api.Centre, "centre"},
	{4, api.Stair, "stair"}, {4, api.Bar, "bar"}, {4, api.Note, "note"},
}

// lists: the same, whole and in order; what is behind the last table, and
// ahead of the first one, is empty.
var lists = map[int][]string{
	1: {"saddle", "perfect", "stack", "comego"},
	2: {"sheetwise", "perfecting", "turn", "tumble"},
	3: {"L", "R", "B", "T"},
	4: {"page", "crop", "crease", "centre", "stair", "bar", "note"},
}

// tables: those that are, those beside them, and some that differ from one
// only in octets that a lesser kind of number would lose.
func tables() []int {
	l := []int{
		least, least + 1, least + 2, least + 4, -1 << 32, -1<<32 + 1, -256, -255,
		255, 256, 257, 260, 1<<16 + 2, 1 << 32, 1<<32 + 1, 1<<32 + 4, 1<<62 + 3, most - 1, most,
	}
	for n := -20; n <= 20; n++ {
		l = append(l, n)
	}
	return l
}

// numbers: the same may stand for a word's number.
func numbers() []int { return tables() }

func checkPut(t *testing.T, table, n int, meant string) {
	t.Helper()
	if s := Put(table, n); s != meant {
		t.Fatalf("Put(%d, %d) = %q; meant: %q", table, n, s, meant)
	}
}

func checkGet(t *testing.T, table int, s string, meant int, is bool) {
	t.Helper()
	if n, ok := Get(table, s); n != meant || ok != is {
		t.Fatalf("Get(%d, %.40q) = %d, %v; meant: %d, %v", table, s, n, ok, meant, is)
	}
}

// found: the number of the word s of the table, by the rows.
func found(table int, s string) (int, bool) {
	for _, r := range rows {
		if r.table == table && r.word == s {
			return r.n, true
		}
	}
	return 0, false
}

// P9.1: each word by its number, and its number by the word.
func TestEachWord(t *testing.T) {
	for _, r := range rows {
		checkPut(t, r.table, r.n, r.word)
		checkGet(t, r.table, r.word, r.n, true)
	}
}

// P9.1: the chapter's example.
func TestExample(t *testing.T) {
	checkGet(t, 2, "turn", 3, true)
	checkPut(t, 2, 3, "turn")
}

// P9.1: each table whole and in order, and nothing of no such table.
func TestAll(t *testing.T) {
	for _, table := range tables() {
		if l := All(table); !slices.Equal(l, lists[table]) {
			t.Fatalf("All(%d) = %q; meant: %q", table, l, lists[table])
		}
	}
}

// P9.1: the edges of the numbers: 0, 1, the last one, the one behind it.
func TestPutAtTheEdges(t *testing.T) {
	for _, e := range []struct {
		table       int
		first, last string
		count       int
	}{
		{1, "saddle", "comego", 4}, {2, "sheetwise", "tumble", 4}, {3, "L", "T", 4}, {4, "page", "note", 7},
	} {
		checkPut(t, e.table, -1, "")
		checkPut(t, e.table, 0, "")
		checkPut(t, e.table, 1, e.first)
		checkPut(t, e.table, e.count, e.last)
		checkPut(t, e.table, e.count+1, "")
		checkPut(t, e.table, least, "")
		checkPut(t, e.table, most, "")
	}
}

// P9.1, P1: any table and any number: a row's word, or empty.
func TestPutOfAny(t *testing.T) {
	for _, table := range tables() {
		for _, n := range numbers() {
			meant := ""
			for _, r := range rows {
				if r.table == table && r.n == n {
					meant = r.word
				}
			}
			checkPut(t, table, n, meant)
		}
	}
}

// P9.1: a word is in its own table alone, and none in a table that isn't.
func TestGetInEachTable(t *testing.T) {
	for _, r := range rows {
		for _, table := range tables() {
			if table == r.table {
				checkGet(t, table, r.word, r.n, true)
			} else {
				checkGet(t, table, r.word, 0, false)
			}
		}
	}
}

// P9.1: the empty text is no word, though Put answers it where there is none.
func TestGetOfEmpty(t *testing.T) {
	for _, table := range tables() {
		checkGet(t, table, "", 0, false)
	}
}

// near: texts that are nearly w, and are not; but a table may have one of
// them (perfecting begins with perfect).
func near(w string) []string {
	l := []string{
		" " + w, w + " ", "\t" + w, w + "\n", w + "\r\n", w + "\x00", "\x00" + w, "x" + w, w + "x", "-" + w, w + "1",
		w + w, w + "," + w, w + "\xff", "\xc3" + w, w + "\u0301", "\ufeff" + w, "\"" + w + "\"", w + "=",
		strings.Repeat(w, 1000),
	}
	for i := range len(w) {
		l = append(l, w[:i], w[i+1:], w[:i]+w[i+1:], w[:i]+" "+w[i:], w[:i]+"\x00"+w[i+1:])
		// A letter of the other size, at this place alone; and one octet's
		// highest bit turned.
		l = append(l, w[:i]+string([]byte{w[i] ^ 0x20})+w[i+1:], w[:i]+string([]byte{w[i] ^ 0x80})+w[i+1:])
	}
	if up := strings.ToUpper(w); up != w {
		l = append(l, up, strings.ToUpper(w[:1])+w[1:])
	}
	if low := strings.ToLower(w); low != w {
		l = append(l, low)
	}
	return l
}

// P9.1, P5: words are held against each other octet by octet, to their ends.
func TestGetOfNear(t *testing.T) {
	for _, r := range rows {
		for _, s := range near(r.word) {
			for table := -1; table <= 6; table++ {
				n, is := found(table, s)
				checkGet(t, table, s, n, is)
			}
			if _, ok := Get(r.table, s); ok {
				t.Fatalf("Get(%d, %.40q): it is taken for %q", r.table, s, r.word)
			}
		}
	}
}

// P9.1, P1: texts of any kind are no words.
func TestGetOfOddTexts(t *testing.T) {
	texts := []string{
		" ", "  ", "\t", "\n", "\x00", "\xff\xfe", "\xc3\x28", "\u00df", "\U0001f4d6", "0", "1", "3", "-1",
		"Left", "left", "Right", "Bottom", "Top", "WorkTurn", "workturn", "come go", "come-go", "center",
		"saddle perfect", "saddle,perfect", "LRBT", "LR", "nope", "pages", "ﬀ", "\uff2c", "\u017faddle",
		strings.Repeat("x", 1<<20), strings.Repeat(" ", 1<<20), "saddle" + strings.Repeat("\x00", 1<<20),
	}
	for _, s := range texts {
		for table := -1; table <= 6; table++ {
			checkGet(t, table, s, 0, false)
		}
	}
}

// P9.1: every text of one octet: only the four letters of table 3.
func TestGetOfOneOctet(t *testing.T) {
	for c := range 256 {
		s := string([]byte{byte(c)})
		for table := range 6 {
			n, is := 0, false
			if at := strings.Index("LRBT", s); table == 3 && at >= 0 {
				n, is = at+1, true
			}
			checkGet(t, table, s, n, is)
		}
	}
}

// P9.1: Put, Get and All say one thing.
func TestTheyAgree(t *testing.T) {
	for _, table := range tables() {
		l := All(table)
		for i, w := range l {
			checkPut(t, table, i+1, w)
			checkGet(t, table, w, i+1, true)
		}
		checkPut(t, table, len(l)+1, "")
	}
}

// P9.1: a text made elsewhere, of the same octets, is the same word.
func TestGetOfACopy(t *testing.T) {
	for _, r := range rows {
		checkGet(t, r.table, strings.Clone(r.word), r.n, true)
		long := "ahead " + r.word + " behind"
		checkGet(t, r.table, long[6:6+len(r.word)], r.n, true)
	}
}

// P2: a list that was answered is the caller's own: what is done to it, to
// its end and behind it, changes no other answer.
func TestAllIsNew(t *testing.T) {
	for table, meant := range lists {
		other := All(table)
		l := All(table)
		_ = append(l[:1], "x", "y")
		l = append(l, "z")
		slices.Reverse(l)
		clear(l[:cap(l)])
		if !slices.Equal(other, meant) {
			t.Fatalf("All(%d), answered ahead, became %q", table, other)
		}
		if next := All(table); !slices.Equal(next, meant) {
			t.Fatalf("All(%d) = %q after a change; meant: %q", table, next, meant)
		}
		for i, w := range meant {
			checkPut(t, table, i+1, w)
			checkGet(t, table, w, i+1, true)
		}
	}
}

// P2: what is answered first, changed within its own bounds, stays apart from
// what was answered of other tables, and of none.
func TestAllOfOthersStay(t *testing.T) {
	for table := range lists {
		l := All(table)
		for i := range l {
			l[i] = "changed"
		}
		for other, meant := range lists {
			if got := All(other); !slices.Equal(got, meant) {
				t.Fatalf("All(%d) = %q after a change of %d's list", other, got, table)
			}
		}
		none := append(All(0), "w")
		if len(none) != 1 || len(All(0)) != 0 {
			t.Fatalf("All(0) keeps what was laid behind it: %q", All(0))
		}
	}
}

// P3: a call asked again answers the same.
func TestAskedAgain(t *testing.T) {
	for range 3 {
		for _, r := range rows {
			checkPut(t, r.table, r.n, r.word)
			checkGet(t, r.table, r.word, r.n, true)
		}
		checkPut(t, 5, 1, "")
		checkGet(t, 5, "saddle", 0, false)
	}
}

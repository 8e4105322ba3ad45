package ticket

import (
	"slices"
	"strings"
	"testing"

	"gatherum/api"
	"gatherum/bounds"
)

// lacking: distinct's lines without that key's.
func lacking(words ...string) []string {
	var l []string
	for _, r := range rows() {
		if !slices.Contains(words, r.word) {
			l = append(l, r.line)
		}
	}
	return l
}

// checkLine: that line is wrong wherever it stands in distinct's ticket
// instead of that key's own one.
func checkLine(t *testing.T, word, line string, meant api.Errno) {
	t.Helper()
	l := lacking(word)
	for i := range len(l) + 1 {
		checkWrong(t, ended(slices.Insert(slices.Clone(l), i, line)), i, meant)
	}
	checkWrong(t, line, 0, meant)
	checkWrong(t, "\n\n # nothing\n"+line+"\n", 3, meant)
}

// P16.2: how many lines there are, with a line feed at the end and without.
func TestHowManyLines(t *testing.T) {
	j, s := distinct(), strings.Join(distinctLines(), "\n")
	checkParse(t, s, j, 16)
	checkParse(t, s+"\n", j, 17)
	checkParse(t, s+"\n\n", j, 18)
	checkParse(t, "\n"+s, j, 17)
	checkParse(t, s+strings.Repeat("\n", 1000), j, 1016)
	checkParse(t, usualText, bounds.Usual(), 16)
	checkParse(t, strings.TrimSuffix(usualText, "\n"), bounds.Usual(), 15)
	checkParse(t, strings.ReplaceAll(usualText, "\n", "\n\n"), bounds.Usual(), 31)
}

// P16.2: the lines in other orders.
func TestOrdersOfLines(t *testing.T) {
	j, l := distinct(), distinctLines()
	for range l {
		l = append(l[1:], l[0])
		checkParse(t, ended(l), j, 17)
		back := slices.Clone(l)
		slices.Reverse(back)
		checkParse(t, ended(back), j, 17)
	}
	for i := range l {
		for k := range i {
			l[i], l[k] = l[k], l[i]
			checkParse(t, ended(l), j, 17)
		}
	}
}

// P16.2: empty lines, remarks and many blanks change nothing but how many
// lines there are.
func TestLayout(t *testing.T) {
	j := distinct()
	for _, e := range []struct{ ahead, between, behind string }{
		{"", " ", ""}, {" ", " ", " "}, {"\t", "\t", "\t"}, {"  \t ", " \t\t  ", "   "}, {"", " ", " # no"}, {"", " ", "# no"}, {"\t", "\t", "\t#"},
		{"", " ", "#\"\x00\xff\r"}, {"", strings.Repeat(" ", 5000), ""}, {strings.Repeat("\t ", 5000), " ", "#" + strings.Repeat("#", 5000)},
	} {
		var l []string
		for _, line := range lacking("title") {
			l = append(l, e.ahead+strings.ReplaceAll(line, " ", e.between)+e.behind)
		}
		l = append(l, e.ahead+"title"+e.between+`"all of it"`+e.behind)
		checkParse(t, ended(l), j, 17)
		for i := 16; i >= 0; i-- {
			l = slices.Insert(l, i, e.ahead+e.behind)
		}
		checkParse(t, strings.Join(l, "\n"), j, 33)
	}
	checkParse(t, "# a ticket\n\n"+ended(distinctLines())+"# pages 7\n#\n \t", j, 21)
}

// P16.2: what stands in a remark counts for nothing; what stands in quotes is
// no remark.
func TestRemarksAndQuotes(t *testing.T) {
	checkParse(t, instead("pages", "pages 1001 # 1002"), distinct(), 17)
	checkParse(t, instead("pages", "pages 1001# pages 1002"), distinct(), 17)
	checkParse(t, instead("last", "last F4-1 F2-1#F8-1 a b c d"), distinct(), 17)
	checkParse(t, instead("title", `title "all of it"#"`), distinct(), 17)
	checkParse(t, instead("title", `title "a # b" # c`), with(func(j *api.Job) { j.Title = "a # b" }), 17)
	checkWrong(t, instead("pages", "pages # 1001"), placeOf("pages"), api.ErrForm)
	checkWrong(t, instead("pages", "#pages 1001"), 17, api.ErrLack)
}

// P16.2, ErrForm: lines whose fields can't be told apart; of one key, of no
// key, and of one that stood ahead.
func TestNoFields(t *testing.T) {
	for _, line := range []string{
		"pages 7\r", "\r", "pages\x007", "\x00", "pages \x1f", "pages \x7f", "\x80", "pages 7\xff", "\u00e4", "pages 7\u00a0", "pages\v7", `pages "`, `"`, `pages "7`, `pages 7 "\"`,
		`"pages`, `x "`, "x y\x7f", "\ufeffpages 7", "pages 7 \x00# a", "pages \"\t\"", "pages \"\u00e4\"",
	} {
		checkLine(t, "pages", line, api.ErrForm)
		checkWrong(t, ended(distinctLines())+line, 16, api.ErrForm)
	}
	checkWrong(t, strings.ReplaceAll(usualText, "\n", "\r\n"), 0, api.ErrForm)
	checkWrong(t, "title \"book\n\"\n", 0, api.ErrForm)
}

// P16.2: which octets may stand between a ticket's lines, alone in a line.
func TestEachOctetAlone(t *testing.T) {
	for c := range 256 {
		s := ended(distinctLines()) + one(c)
		switch {
		case c == '\n':
			checkParse(t, s, distinct(), 18)
		case c == ' ' || c == '\t' || c == '#':
			checkParse(t, s, distinct(), 17)
		case c > 32 && c < 127 && c != '"':
			checkWrong(t, s, 16, api.ErrWord)
		default:
			checkWrong(t, s, 16, api.ErrForm)
		}
	}
}

// P16.2, ErrWord: first fields that are no key, whatever stands behind.
func TestNoKey(t *testing.T) {
	for _, word := range []string{
		"x", "Pages", "PAGES", "page", "pagess", "pages:", "pages,", "_pages", "pages=7", `"pages"`, `pages"7"`, `""`, `"title"`, "7", "-", "\\", "'pages'", "key",
		"titel", "Title", "TRIM", "lasts", "Last", `"last"`, "saddle", "F8-1", "binding:", "spine", "head", "W", "Pages", "box.x", "sheets", "mark", "stairs", "margin",
	} {
		for _, parts := range []string{"", " 7", ` "a b"`, " 1 2 3 4 5 6 7 8 9", " # no", " x y"} {
			checkLine(t, "pages", word+parts, api.ErrWord)
		}
	}
	for _, r := range rows() {
		for _, word := range []string{strings.ToUpper(r.word), strings.ToUpper(r.word[:1]) + r.word[1:], `"` + r.word + `"`, r.word[1:], r.word + "s", r.word[:len(r.word)-1], r.word + ":"} {
			checkLine(t, r.word, word+r.line[len(r.word):], api.ErrWord)
		}
	}
}

// P16.2, ErrTwice: each key, in two lines alike, in two that are not, and
// ahead of whatever else is wrong with the second one.
func TestTwice(t *testing.T) {
	for i, r := range rows() {
		for _, again := range []string{
			r.line, "  " + r.line + " # again", r.word, r.word + " x", r.word + " x y z u v w a b", r.word + ` "` + strings.Repeat("a", 99) + `"`, r.word + ` "" ""`, r.word + " 1", r.word + " 99999999999999999999",
		} {
			for k := i + 1; k <= 16; k++ {
				checkWrong(t, ended(slices.Insert(distinctLines(), k, again)), k, api.ErrTwice)
			}
		}
		checkWrong(t, r.line+"\n\n#\n"+r.line, 3, api.ErrTwice)
		checkWrong(t, r.line+"\n"+r.line+"\n"+r.line, 1, api.ErrTwice)
	}
}

// P16.2: what stood in a remark, behind another key or in quotes did not stand
// ahead.
func TestNotTwice(t *testing.T) {
	checkParse(t, "# pages 1001\n"+ended(distinctLines())+"# pages 1001\n", distinct(), 19)
	checkParse(t, instead("last", "last last pages last"), with(func(j *api.Job) { j.Last = []string{"last", "pages", "last"} }), 17)
	checkParse(t, instead("title", `title "title pages"`), with(func(j *api.Job) { j.Title = "title pages" }), 17)
}

// P16.2, ErrForm: too few and too many parts of each key, whatever they are.
func TestHowManyParts(t *testing.T) {
	many := map[string][2]int{
		"title": {1, 1}, "pages": {1, 1}, "box": {2, 2}, "trim": {2, 2}, "bleed": {1, 1}, "margins": {4, 4}, "binding": {1, 1}, "folds": {1, 7}, "last": {1, 4},
		"style": {1, 1}, "sheet": {2, 2}, "area": {3, 3}, "paper": {3, 3}, "quarter": {1, 1}, "marks": {3, 3}, "stair": {4, 4},
	}
	for _, r := range rows() {
		for n := range 20 {
			if bound := many[r.word]; n >= bound[0] && n <= bound[1] {
				continue
			}
			for _, part := range []string{" 1", " x", ` ""`, ` "a"`, " saddle", " turn", " L1", " F2-1", " 99999999999999999999"} {
				checkLine(t, r.word, r.word+strings.Repeat(part, n), api.ErrForm)
			}
		}
		checkLine(t, r.word, r.word, api.ErrForm)
		checkLine(t, r.word, "\t"+r.word+"  # 1", api.ErrForm)
		if r.word != "last" && r.word != "folds" {
			checkLine(t, r.word, r.line+" x", api.ErrForm)
			checkLine(t, r.word, r.line[:strings.LastIndex(r.line, " ")], api.ErrForm)
		}
	}
	checkLine(t, "last", "last a b c d e", api.ErrForm)
	checkLine(t, "folds", "folds 64x1 L1 L1 L1 L1 L1 L1 L1", api.ErrForm)
	checkLine(t, "title", `title "a" "b"`, api.ErrForm)
}

// P16.2, ErrForm: titles that are no quoted text, long ones, too.
func TestTitlesUnquoted(t *testing.T) {
	for _, part := range []string{
		"book", "'book'", `"a"b`, `a"b"`, `"a""b"`, `""""`, `"a\b"`, `"\ "`, `"\#"`, "7", `\`, `\"\"`, `"a"\`, `"book".`, `book""`,
		strings.Repeat("a", 61), `"` + strings.Repeat("a", 61) + `\b"`, `"` + strings.Repeat("a", 61) + `"b`,
	} {
		checkLine(t, "title", "title "+part, api.ErrForm)
	}
}

// P16.2, ErrRange: titles of more than 60 octets, counted without their
// quotes and backslashes.
func TestTitlesTooLong(t *testing.T) {
	for _, s := range []string{"a", " ", "#", `\"`, `\\`} {
		checkParse(t, instead("title", `title "`+strings.Repeat(s, 60)+`"`), with(func(j *api.Job) {
			j.Title = strings.Repeat(s[len(s)-1:], 60)
		}), 17)
		for _, n := range []int{61, 62, 120, 255, 256, 257, 300, 100000} {
			part := `title "` + strings.Repeat(s, n) + `"`
			checkWrong(t, instead("title", part), 0, api.ErrRange)
			checkWrong(t, "\n"+part, 1, api.ErrRange)
		}
	}
	checkLine(t, "title", `title "`+strings.Repeat("a", 61)+`"`, api.ErrRange)
}

// P16.2, ErrForm: folds that are no scheme.
func TestNoScheme(t *testing.T) {
	for _, parts := range []string{
		"x", "F8", "f8-1", "F8-4", "F2-2", "F256-1", "8-1", "2x1 L1", "1x1", "2x2 B1 L1", "F8-1 L1", "F8-1 F8-1", "0x1", "1x0", "65x1", "1x65", "2x", "x2", "2X1", "02x1", "2x01", "+2x1", "-2x1",
		"2x1x1", "2x1 l1", "2x1 L0", "2x1 L65", "2x1 L1U", "2x1 L1uu", "2x1 uL1", "2x1 L01", "2x1 L+1", "2x1 L", "2x1 1", "2x1 X1", "L1", "L1 2x1", `"F8-1"`, `"2x1"`, `"2x1 R1"`, `2x1 "R1"`, `""`, "7",
		"4x4 L1 L1 x", "2 1", "2*1", "2x1,R1",
	} {
		checkLine(t, "folds", "folds "+parts, api.ErrForm)
	}
}

// P16.2, ErrForm: last names that are quoted, wholly or in part, at each
// place.
func TestQuotedNames(t *testing.T) {
	for _, name := range []string{`"F2-1"`, `""`, `" "`, `"a b"`, `"#"`, `a"b"`, `"a"b`, `a"b"c`, `a""`, `""a`, `"\""`, `"\a"`, `\""`, `F2-1""`, `'"'"`} {
		for n := range 4 {
			for i := range n + 1 {
				l := slices.Repeat([]string{"F2-1"}, n)
				checkLine(t, "last", "last "+strings.Join(slices.Insert(l, i, name), " "), api.ErrForm)
			}
		}
	}
}

// noInts: parts that are the digits of no int.
func noInts() []string {
	return []string{
		"x", "-", "+", "+1", "+0", "-0", "00", "01", "007", "-01", "--1", "-+1", "1.0", "1.", ".5", "1e3", "0x10", "1_000", "1,000", "0b1", "0o7", "16x", "x16", "1-", "12-", "saddle", "F8-1", "nil", "inf",
		"9223372036854775808", "-9223372036854775809", "18446744073709551616", "18446744073709551617", "99999999999999999999", "-99999999999999999999", "09223372036854775807", strings.Repeat("1", 5000),
		`"7"`, `""`, `"x"`, `7"7"`, `"7"7`, `"a b"`, "\\", "~", "!",
	}
}

// P16.2, ErrRange: parts that are no ints, at each number's place; example 1.
func TestNoInts(t *testing.T) {
	for _, r := range rows() {
		for i := range r.at {
			parts := strings.Split(r.line, " ")
			for _, no := range noInts() {
				parts[1+i] = no
				checkLine(t, r.word, strings.Join(parts, " "), api.ErrRange)
			}
		}
	}
	checkLine(t, "bleed", "bleed x", api.ErrRange)
	checkWrong(t, "bleed x", 0, api.ErrRange)
	checkWrong(t, "\nbleed x", 1, api.ErrRange)
}

// P16.2, ErrRange: all of a line's parts are no ints, or two of them.
func TestManyNoInts(t *testing.T) {
	for _, r := range rows() {
		if len(r.at) > 0 {
			checkLine(t, r.word, r.word+strings.Repeat(" x", len(r.at)), api.ErrRange)
			checkLine(t, r.word, r.word+strings.Repeat(` "7"`, len(r.at)), api.ErrRange)
		}
	}
}

// P16.2: numbers that a job may not have are numbers nevertheless.
func TestNumbersBeyondTheirBounds(t *testing.T) {
	s := "title \"\"\npages 0\nbox 5000001 -5000001\ntrim -1 0\nbleed -1\nmargins -1 -2 -3 -4\nbinding comego\nfolds 64x64\nlast none\n" +
		"style tumble\nsheet 0 -9223372036854775808\narea -1 -1 9223372036854775807\npaper -1 1001 0\nquarter 4\nmarks -1 -1 -1\nstair -1 -1 0 -1"
	checkParse(t, s, api.Job{
		Box: api.Point{X: 5000001, Y: -5000001},
		W:   -1, Bleed: -1, Head: -1, Foot: -2, Face: -3, Spine: -4,
		Binding: 4, Folds: api.Scheme{Cols: 64, Rows: 64}, Last: []string{"none"}, Style: 4,
		SheetH: lowest, Side: -1, Grip: -1, Tail: highest, Caliper: -1, Num: 1001, Quarter: 4,
		MarkLen: -1, MarkOff: -1, MarkWide: -1, StairAt: -1, StairStep: -1, StairWide: -1,
	}, 16)
}

// P16.2, ErrLack: each of the keys that must stand, alone and with others;
// with how many lines there are.
func TestLacks(t *testing.T) {
	for _, r := range rows() {
		l := lacking(r.word)
		if r.word == "last" {
			checkParse(t, ended(l), with(func(j *api.Job) { j.Last = nil }), 16)
			continue
		}
		checkWrong(t, ended(l), 16, api.ErrLack)
		checkWrong(t, strings.Join(l, "\n"), 15, api.ErrLack)
		checkWrong(t, "\n"+ended(l)+"\n# end\n", 19, api.ErrLack)
		checkWrong(t, ended(append(l, "# "+r.line)), 17, api.ErrLack)
		checkWrong(t, r.line, 1, api.ErrLack)
		for _, other := range rows() {
			both := lacking(r.word, other.word)
			checkWrong(t, ended(both), len(both)+1, api.ErrLack)
		}
	}
	checkWrong(t, "last F2-1", 1, api.ErrLack)
	for i := range 16 {
		checkWrong(t, ended(distinctLines()[:i]), i+1, api.ErrLack)
	}
}

// P16.2: the empty text, and texts of nothing but empty lines.
func TestNothing(t *testing.T) {
	checkWrong(t, "", 1, api.ErrLack)
	for n := range 50 {
		checkWrong(t, strings.Repeat("\n", n), n+1, api.ErrLack)
		checkWrong(t, strings.Repeat(" \t# no\n", n), n+1, api.ErrLack)
	}
	checkWrong(t, " ", 1, api.ErrLack)
	checkWrong(t, "#", 1, api.ErrLack)
}

// P16.2: two errors in one line: the first one in the chapter's order.
func TestTwoErrorsInALine(t *testing.T) {
	for _, e := range []struct {
		word, line string
		meant      api.Errno
	}{
		// No fields, and: no key, too many parts, no int, no word.
		{"pages", "x\x00", api.ErrForm},
		{"pages", `x "`, api.ErrForm},
		{"pages", "pages 1 2\r", api.ErrForm},
		{"pages", "pages x\x7f", api.ErrForm},
		{"binding", "binding x\x00", api.ErrForm},
		// No key, and: too many parts, a title too long.
		{"pages", "x 1 2 3 4 5 6 7 8 9", api.ErrWord},
		{"title", `x "` + strings.Repeat("a", 61) + `"`, api.ErrWord},
		// Too many parts, and: no word, no int, a title too long.
		{"binding", "binding x y", api.ErrForm},
		{"style", "style x y", api.ErrForm},
		{"bleed", "bleed x x", api.ErrForm},
		{"margins", "margins 1 2 x", api.ErrForm},
		{"margins", "margins 1 2 3 4 x", api.ErrForm},
		{"title", `title "` + strings.Repeat("a", 61) + `" "b"`, api.ErrForm},
		// No quoted text, and too long.
		{"title", "title " + strings.Repeat("a", 61), api.ErrForm},
		// Too many names, and a quoted one.
		{"last", `last "a" b c d e`, api.ErrForm},
	} {
		checkLine(t, e.word, e.line, e.meant)
	}
	// Twice, and: no fields go ahead of it, all others behind.
	l := ended(distinctLines())
	for _, e := range []struct {
		line  string
		meant api.Errno
	}{
		{"pages x\x00", api.ErrForm}, {`title "`, api.ErrForm}, {"pages", api.ErrTwice}, {"pages x", api.ErrTwice}, {"binding x", api.ErrTwice}, {"style x", api.ErrTwice},
		{"folds x", api.ErrTwice}, {"last", api.ErrTwice}, {`last "a"`, api.ErrTwice}, {"last a b c d e", api.ErrTwice}, {"title x", api.ErrTwice},
		{`title "` + strings.Repeat("a", 61) + `"`, api.ErrTwice},
	} {
		checkWrong(t, l+e.line, 16, e.meant)
	}
}

// wrongLines: lines with an error each, for different keys or for none.
func wrongLines() []struct {
	line  string
	meant api.Errno
} {
	return []struct {
		line  string
		meant api.Errno
	}{
		{"\x00", api.ErrForm}, {"nokey", api.ErrWord}, {"pages", api.ErrForm}, {"title x", api.ErrForm}, {"folds x", api.ErrForm}, {"last \"a\"", api.ErrForm},
		{"binding x", api.ErrWord}, {"style x", api.ErrWord}, {"bleed x", api.ErrRange}, {`title "` + strings.Repeat("a", 61) + `"`, api.ErrRange},
	}
}

// P16.2: errors in several lines: the first line counts, whatever the others
// have, and whatever lacks.
func TestErrorsInSeveralLines(t *testing.T) {
	for _, a := range wrongLines() {
		for _, b := range wrongLines() {
			checkWrong(t, a.line+"\n"+b.line, 0, a.meant)
			checkWrong(t, "\n"+a.line+"\n\n"+b.line+"\n", 1, a.meant)
			checkWrong(t, "sheet 1 2\n"+a.line+"\n"+b.line+"\nsheet 1 2", 1, a.meant)
			checkWrong(t, "sheet 1 2\nsheet 1 2\n"+a.line+"\n"+b.line, 1, api.ErrTwice)
			checkWrong(t, a.line+"\nsheet 1 2\nsheet 1 2\n"+b.line, 0, a.meant)
		}
	}
}

// P16.2: a key that stood in a wrong line ends all: what stands behind isn't
// looked at.
func TestNothingBehindAnErrorCounts(t *testing.T) {
	for _, e := range wrongLines() {
		checkWrong(t, e.line+"\n"+ended(distinctLines()), 0, e.meant)
		checkWrong(t, e.line+strings.Repeat("\n\x00", 1000), 0, e.meant)
	}
}

// P1: very long lines, and very many lines.
func TestGreatTexts(t *testing.T) {
	const n = 1 << 20
	checkWrong(t, strings.Repeat("x", n), 0, api.ErrWord)
	checkWrong(t, strings.Repeat("x ", n), 0, api.ErrWord)
	checkWrong(t, strings.Repeat("\x00", n), 0, api.ErrForm)
	checkWrong(t, strings.Repeat(`"`, n-1), 0, api.ErrForm)
	checkWrong(t, "pages"+strings.Repeat(" 1", n), 0, api.ErrForm)
	checkWrong(t, "last"+strings.Repeat(" a", n), 0, api.ErrForm)
	checkWrong(t, "folds 2x1"+strings.Repeat(" R1", n), 0, api.ErrForm)
	checkWrong(t, "pages "+strings.Repeat("1", n), 0, api.ErrRange)
	checkWrong(t, `title "`+strings.Repeat("a", n)+`"`, 0, api.ErrRange)
	checkWrong(t, "title "+strings.Repeat("a", n), 0, api.ErrForm)
	checkWrong(t, strings.Repeat("\n", n), n+1, api.ErrLack)
	checkWrong(t, strings.Repeat("# no\n", n)+"x", n, api.ErrWord)
	checkWrong(t, "#"+strings.Repeat("a", n), 1, api.ErrLack)
	checkParse(t, strings.Repeat("\n", n)+ended(distinctLines()), distinct(), n+17)
	checkParse(t, strings.Repeat(" ", n)+ended(distinctLines())+"#"+strings.Repeat("\"", n), distinct(), 17)
	long := strings.Repeat("a", n)
	checkBoth(t, with(func(j *api.Job) { j.Last = []string{long, long} }), instead("last", "last "+long+" "+long))
}

package lex

import (
	"regexp"
	"slices"
	"strings"
	"testing"
	"unsafe"
)

func checkLines(t *testing.T, s string, meant ...string) {
	t.Helper()
	if l := Lines(s); !slices.Equal(l, meant) {
		t.Fatalf("Lines(%.60q) = %.200q; meant: %.200q", s, l, meant)
	}
}

func checkFields(t *testing.T, line string, meant ...string) {
	t.Helper()
	l, ok := Fields(line)
	if !ok || !slices.Equal(l, meant) {
		t.Fatalf("Fields(%.60q) = %.200q, %v; meant: %.200q, true", line, l, ok, meant)
	}
}

func checkNoFields(t *testing.T, line string) {
	t.Helper()
	l, ok := Fields(line)
	if ok || len(l) != 0 {
		t.Fatalf("Fields(%.60q) = %.200q, %v; meant: nothing, false", line, l, ok)
	}
}

func checkQuote(t *testing.T, s, meant string, is bool) {
	t.Helper()
	if q, ok := Quote(s); q != meant || ok != is {
		t.Fatalf("Quote(%.60q) = %.60q, %v; meant: %.60q, %v", s, q, ok, meant, is)
	}
}

func checkUnquote(t *testing.T, s, meant string, is bool) {
	t.Helper()
	if u, ok := Unquote(s); u != meant || ok != is {
		t.Fatalf("Unquote(%.60q) = %.60q, %v; meant: %.60q, %v", s, u, ok, meant, is)
	}
}

// one: a text of one octet, which string(rune) would make two of above 127.
func one(c int) string { return string([]byte{byte(c)}) }

// short calls do with each text of at most n of the alphabet's octets.
func short(alphabet string, n int, do func(string)) {
	var longer func(s string)
	longer = func(s string) {
		do(s)
		if len(s) == n {
			return
		}
		for i := range len(alphabet) {
			longer(s + alphabet[i:i+1])
		}
	}
	longer("")
}

// P10.1: lines are parted by line feeds, and by nothing else.
func TestLines(t *testing.T) {
	checkLines(t, "a\nb\nc", "a", "b", "c")
	checkLines(t, "pages 7\nbox 10 20\n\ntitle \"x\"", "pages 7", "box 10 20", "", "title \"x\"")
	checkLines(t, "no line feed", "no line feed")
	checkLines(t, " a \n\tb\t", " a ", "\tb\t")
	checkLines(t, "a # b\nc", "a # b", "c")
}

// P10.1: the edges: nothing, line feeds at the ends, and only line feeds.
func TestLinesAtTheEdges(t *testing.T) {
	checkLines(t, "", "")
	checkLines(t, "\n", "", "")
	checkLines(t, "\n\n\n", "", "", "", "")
	checkLines(t, "a\n", "a", "")
	checkLines(t, "\na", "", "a")
	checkLines(t, "a\n\n", "a", "", "")
	checkLines(t, "a\n\nb", "a", "", "b")
}

// P10.1: within quotes, behind a backslash and in a remark a line feed parts
// as well; a carriage return stays where it is.
func TestLinesKnowOnlyLineFeeds(t *testing.T) {
	checkLines(t, "\"a\nb\"", "\"a", "b\"")
	checkLines(t, "a\\\nb", "a\\", "b")
	checkLines(t, "# a\nb", "# a", "b")
	checkLines(t, "a\r\nb\r\n", "a\r", "b\r", "")
	checkLines(t, "a\rb", "a\rb")
	checkLines(t, "a\vb\fc\x85d\u2028e\x00f", "a\vb\fc\x85d\u2028e\x00f")
	for c := range 256 {
		if c != '\n' {
			checkLines(t, "a"+one(c)+"b", "a"+one(c)+"b")
		}
	}
	checkLines(t, "\xe2\n\x80\n\xa8", "\xe2", "\x80", "\xa8")
}

// P10.1: as the library parts texts, for all short ones.
func TestLinesOfShortTexts(t *testing.T) {
	short("\na\r\" #\x8a", 5, func(s string) {
		checkLines(t, s, strings.Split(s, "\n")...)
	})
}

// P10.1: fields, with blanks and tabs between, ahead and behind.
func TestFields(t *testing.T) {
	checkFields(t, "pages 7 # no", "pages", "7")
	checkFields(t, "box 10 20", "box", "10", "20")
	checkFields(t, "one", "one")
	checkFields(t, "  a  b\t\tc \t d\t ", "a", "b", "c", "d")
	checkFields(t, "\ta\tb", "a", "b")
	checkFields(t, "a b c # d e # f", "a", "b", "c")
	checkFields(t, "a!b $%&'()*+,-./ :;<=>?@ [\\]^_` {|}~", "a!b", "$%&'()*+,-./", ":;<=>?@", "[\\]^_`", "{|}~")
}

// P10.1: lines without a field, which are well.
func TestFieldsOfNothing(t *testing.T) {
	for _, s := range []string{"", " ", "\t", " \t \t", "#", "# a", " \t# a", "##", "#\"", "#\\"} {
		checkFields(t, s)
	}
}

// P10.1: a remark begins wherever # stands outside of quotes, and has any
// octets in it.
func TestRemarks(t *testing.T) {
	checkFields(t, "#a b")
	checkFields(t, "a#b c", "a")
	checkFields(t, "a #b", "a")
	checkFields(t, "a b# c", "a", "b")
	checkFields(t, "a\t#", "a")
	checkFields(t, "\"a\"#b", "\"a\"")
	checkFields(t, "a\\#b", "a\\")
	checkFields(t, "a # \"b", "a")
	checkFields(t, "a # b \" c \" d", "a")
	checkFields(t, "a # \\", "a")
	for c := range 256 {
		checkFields(t, "a #"+one(c), "a")
		checkFields(t, "#"+one(c)+" b")
		checkFields(t, "a#b"+one(c)+"c", "a")
	}
}

// P10.1: within quotes # begins no remark, and nothing is blank.
func TestQuotedFields(t *testing.T) {
	checkFields(t, `title "a # b" # no`, "title", `"a # b"`)
	checkFields(t, `"a b"`, `"a b"`)
	checkFields(t, `"#"`, `"#"`)
	checkFields(t, `"# a" b`, `"# a"`, "b")
	checkFields(t, `" "  "  "`, `" "`, `"  "`)
	checkFields(t, ` " a " `, `" a "`)
	checkFields(t, `""`, `""`)
	checkFields(t, `"" ""`, `""`, `""`)
	checkFields(t, `a "" b`, "a", `""`, "b")
	checkFields(t, `"a"	"b"`, `"a"`, `"b"`)
}

// P10.1: quoted texts as parts of fields, several of them in one.
func TestQuotedPartsOfFields(t *testing.T) {
	checkFields(t, `a"b c"d e`, `a"b c"d`, "e")
	checkFields(t, `a="b c" d`, `a="b c"`, "d")
	checkFields(t, `"a b"c`, `"a b"c`)
	checkFields(t, `"a b""c d" e`, `"a b""c d"`, "e")
	checkFields(t, `x"a b"y"c # d"z # w`, `x"a b"y"c # d"z`)
	checkFields(t, `""""`, `""""`)
	checkFields(t, `a""b""`, `a""b""`)
	checkFields(t, `"a"b"c"`, `"a"b"c"`)
}

// P10.1: what stands behind a backslash, within quotes, ends nothing, whatever
// it is; the field stays as it was written.
func TestBackslashesWithin(t *testing.T) {
	checkFields(t, `"a\" b" c`, `"a\" b"`, "c")
	checkFields(t, `"a\\" b`, `"a\\"`, "b")
	checkFields(t, `"a\\\" b" c`, `"a\\\" b"`, "c")
	checkFields(t, `"a\\\\" b`, `"a\\\\"`, "b")
	checkFields(t, `"\"" a`, `"\""`, "a")
	checkFields(t, `"\"\"" a`, `"\"\""`, "a")
	checkFields(t, `"\\" a`, `"\\"`, "a")
	checkFields(t, `"\"# a" b`, `"\"# a"`, "b")
	checkFields(t, `"\a \# \ " b`, `"\a \# \ "`, "b")
	checkFields(t, `"\a" "b"`, `"\a"`, `"b"`)
}

// P10.1: outside of quotes a backslash is an octet as any other: a quote
// behind it begins a quoted text, a # a remark, and a blank parts.
func TestBackslashesOutside(t *testing.T) {
	checkFields(t, `\`, `\`)
	checkFields(t, `a\ b`, `a\`, "b")
	checkFields(t, `\\ \`, `\\`, `\`)
	checkFields(t, `\"a b" c`, `\"a b"`, "c")
	checkFields(t, `"a"\"b c" d`, `"a"\"b c"`, "d")
	checkFields(t, `"a"\ "b"`, `"a"\`, `"b"`)
	checkFields(t, `\# a`, `\`)
	checkNoFields(t, `\"`)
	checkNoFields(t, `\"a b`)
	checkNoFields(t, `"a"\"`)
}

// P10.1: a quoted text that does not end: nothing, and false.
func TestFieldsWithoutAnEnd(t *testing.T) {
	for _, s := range []string{
		`"`, `"a`, `a "b`, `a"`, `a b"`, `"a" "b`, `"a""`, `"""`, `" # `, `a "# b`, `"a\"`, `"\"`, `"a\\\"`, `"a" "b\"`,
		`"a\`, `"\`, `"a\\`, `"\\\`, `a b "c\" # d`, `"a" b"`, `"a b c d e f`, `" `, `"\ `,
	} {
		checkNoFields(t, s)
	}
}

// P10.1: which octets may stand outside of quotes: ahead of all fields,
// behind them, between and within them.
func TestOctetsOutside(t *testing.T) {
	for c := range 256 {
		o := one(c)
		switch {
		case c == ' ' || c == '\t':
			checkFields(t, o+"a b", "a", "b")
			checkFields(t, "a b"+o, "a", "b")
			checkFields(t, "a "+o+" b", "a", "b")
			checkFields(t, "a"+o+"b", "a", "b")
		case c == '#':
			checkFields(t, o+"a b")
			checkFields(t, "a b"+o, "a", "b")
			checkFields(t, "a "+o+" b", "a")
			checkFields(t, "a"+o+"b", "a")
		case c > 32 && c < 127 && c != '"':
			checkFields(t, o, o)
			checkFields(t, o+"a b", o+"a", "b")
			checkFields(t, "a b"+o, "a", "b"+o)
			checkFields(t, "a "+o+" b", "a", o, "b")
			checkFields(t, "a"+o+"b", "a"+o+"b")
		default:
			for _, s := range []string{o, o + "a b", o + " a", "a b" + o, "a " + o, "a " + o + " b", "a" + o + "b", o + "# a", "a" + o + "#", `"a"` + o} {
				checkNoFields(t, s)
			}
		}
	}
}

// P10.1: which octets may stand within quotes, behind a backslash as well.
func TestOctetsWithin(t *testing.T) {
	for c := range 256 {
		o := one(c)
		if c < 32 || c > 126 {
			for _, s := range []string{o, o + "b", "b" + o, "b" + o + "c", `\` + o, `\\` + o, `\"` + o} {
				checkNoFields(t, `"`+s+`"`)
				checkNoFields(t, `a "`+s+`" d # e`)
			}
			continue
		}
		checkFields(t, `a "\`+o+`" b`, "a", `"\`+o+`"`, "b")
		if c != '"' && c != '\\' {
			checkFields(t, `"`+o+`"`, `"`+o+`"`)
			checkFields(t, `a "b`+o+`c" d # e`, "a", `"b`+o+`c"`, "d")
		}
	}
}

// P10.1: the octets at the edges, written out: 31, 32, 33, 126, 127 and above.
func TestEdgeOctets(t *testing.T) {
	checkNoFields(t, "a\x1fb")
	checkFields(t, "a\x20b", "a", "b")
	checkFields(t, "a\x21b", "a!b")
	checkFields(t, "a\x7eb", "a~b")
	checkNoFields(t, "a\x7fb")
	checkNoFields(t, "a\x80b")
	checkNoFields(t, "a\xffb")
	checkNoFields(t, "\u00e4")
	checkNoFields(t, "a\u00a0b")
	checkNoFields(t, "a\r")
	checkNoFields(t, "a\nb")
	checkNoFields(t, "\"a\x1fb\"")
	checkFields(t, "\"a\x20b\"", "\"a b\"")
	checkFields(t, "\"a\x21b\"", "\"a!b\"")
	checkFields(t, "\"a\x7eb\"", "\"a~b\"")
	checkNoFields(t, "\"a\x7fb\"")
	checkNoFields(t, "\"a\x80b\"")
	checkNoFields(t, "\"a\xffb\"")
	checkNoFields(t, "\"\u00e4\"")
	checkNoFields(t, "\"a\tb\"")
	checkNoFields(t, "\"a\nb\"")
	checkFields(t, "a #\x1f\x20\x21\x7e\x7f\x80\xff\u00e4\r\n\x00\"", "a")
}

// P10.1: a fault behind good fields leaves nothing of them, and one behind the
// remark's begin is none.
func TestFaultsAmongFields(t *testing.T) {
	checkNoFields(t, "\x00 a b c")
	checkNoFields(t, "a b c \x00")
	checkNoFields(t, "a \x00 b c")
	checkNoFields(t, "a \"b\x00\" c # d")
	checkNoFields(t, "a \x00# b")
	checkFields(t, "a b #\x00", "a", "b")
	checkNoFields(t, "a \"#\x00\"")
}

// P10.1: for all short lines Fields says what the chapter's words, written
// down as an expression, say.
func TestFieldsOfShortLines(t *testing.T) {
	part := `(?:[!$-~]|"(?:[ !#-\[\]-~]|\\[ -~])*")+`
	well := regexp.MustCompile(`^((?:[ \t]|` + part + `)*)(?:#(?s:.*))?$`)
	parts := regexp.MustCompile(part)
	short("a \t#\"\\\x1f", 6, func(s string) {
		m := well.FindStringSubmatch(s)
		if m == nil {
			checkNoFields(t, s)
			return
		}
		checkFields(t, s, parts.FindAllString(m[1], -1)...)
	})
}

// quoted: texts, and their quoted texts.
var quoted = []struct{ text, quoted string }{
	{"", `""`},
	{" ", `" "`},
	{"  a  ", `"  a  "`},
	{"a", `"a"`},
	{"a # b", `"a # b"`},
	{"the book's title", `"the book's title"`},
	{`"`, `"\""`},
	{`\`, `"\\"`},
	{`\"`, `"\\\""`},
	{`"\`, `"\"\\"`},
	{`""`, `"\"\""`},
	{`\\`, `"\\\\"`},
	{`say "so"`, `"say \"so\""`},
	{`a\nb`, `"a\\nb"`},
	{`a\`, `"a\\"`},
	{`a"`, `"a\""`},
	{`"a"`, `"\"a\""`},
	{`"\"a\""`, `"\"\\\"a\\\"\""`},
	{"~!", `"~!"`},
}

// P10.2: the quoted text of a text, and the text of a quoted text.
func TestQuoteAndUnquote(t *testing.T) {
	for _, r := range quoted {
		checkQuote(t, r.text, r.quoted, true)
		checkUnquote(t, r.quoted, r.text, true)
	}
}

// P10.2: which octets may be quoted: at the begin, at the end, alone and
// between others.
func TestQuoteOfEachOctet(t *testing.T) {
	for c := range 256 {
		o := one(c)
		back := ""
		if o == `"` || o == `\` {
			back = `\`
		}
		for _, r := range [][2]string{{"", ""}, {"a", ""}, {"", "a"}, {"a", "b"}, {`\`, `"`}} {
			ahead := strings.ReplaceAll(r[0], `\`, `\\`)
			behind := strings.ReplaceAll(r[1], `"`, `\"`)
			q := `"` + ahead + back + o + behind + `"`
			is := c >= 32 && c <= 126
			if !is {
				checkQuote(t, r[0]+o+r[1], "", false)
				checkUnquote(t, q, "", false)
				continue
			}
			checkQuote(t, r[0]+o+r[1], q, true)
			checkUnquote(t, q, r[0]+o+r[1], true)
		}
	}
}

// P10.2: texts with octets that may not stand there, written out.
func TestQuoteOfWrongTexts(t *testing.T) {
	for _, s := range []string{
		"\x1f", "\x7f", "\x80", "\xff", "\x00", "\t", "\n", "\r", "\ta", "a\t", "a\nb", "a\r\n", "\u00e4", "a\u00e4", "\u00e4a",
		"\"\x00", "\x00\"", "\\\n", "\n\\", "\U0001f4d6",
	} {
		checkQuote(t, s, "", false)
		checkUnquote(t, `"`+s+`"`, "", false)
	}
}

// P10.2: texts that are the Quote of none.
func TestUnquoteOfWrongTexts(t *testing.T) {
	for _, s := range []string{
		// No quotes, one quote, or other ones.
		"", "a", "a b", " ", `\`, `\\`, `"`, `"a`, `a"`, `\"`, `"\`, "''", "'a'", "``", "\u201ca\u201d",
		// Something ahead or behind.
		` "a"`, `"a" `, `a"b"`, `"a"b`, "\t\"a\"", "\"a\"\n", "\"a\"\r", `"a" # b`, `\"a"`, `"a"\`, "\x00\"a\"", "\"a\"\x00",
		// A quote within that has no backslash ahead.
		`"""`, `"a"b"`, `"a""b"`, `""""`, `"" ""`, `"\\""`, `""a"`, `"a""`,
		// A backslash ahead of another octet.
		`"\a"`, `"a\nb"`, `"\ "`, `"\#"`, `"\'"`, `"\\\a"`, `"\x41"`, `"\101"`, `"\/"`,
		// A backslash ahead of the last quote.
		`"\"`, `"a\"`, `"\\\"`, `"a\\\"`, `"\"\"`,
		// Octets that are not from 32 to 126.
		"\"\x1f\"", "\"\x7f\"", "\"\x80\"", "\"\xff\"", "\"\t\"", "\"a\nb\"", "\"\u00e4\"", "\"\x00\"", "\"\\\x00\"", "\"\\\n\"",
	} {
		checkUnquote(t, s, "", false)
	}
}

// P10.2: of all short texts just those are unquoted that are some text's
// Quote.
func TestUnquoteOfShortTexts(t *testing.T) {
	texts := map[string]string{}
	back := strings.NewReplacer(`"`, `\"`, `\`, `\\`)
	short(`"\a #`, 5, func(s string) {
		q := `"` + back.Replace(s) + `"`
		checkQuote(t, s, q, true)
		texts[q] = s
	})
	short("\"\\a #\x1f\x7f", 7, func(s string) {
		text, is := texts[s]
		checkUnquote(t, s, text, is)
	})
}

// P10.1, P10.2: a quoted text is one field.
func TestAQuotedTextIsAField(t *testing.T) {
	short("\"\\a #~", 4, func(s string) {
		q, ok := Quote(s)
		if !ok {
			t.Fatalf("Quote(%q) is none", s)
		}
		checkFields(t, q, q)
		checkFields(t, "title "+q+" # "+q, "title", q)
		checkFields(t, q+q+" "+q, q+q, q)
	})
}

// P1: very long lines and texts, of each kind.
func TestLongLines(t *testing.T) {
	const n = 1 << 18
	for _, s := range []string{"\n", "a", "a\n", "\"", "\\", "#", " ", "\xff"} {
		long := strings.Repeat(s, n)
		checkLines(t, long, strings.Split(long, "\n")...)
	}
}

// P1: the same of fields.
func TestLongFields(t *testing.T) {
	const n = 1 << 18
	long := strings.Repeat
	checkFields(t, long("a", n), long("a", n))
	checkFields(t, long("a ", n), strings.Fields(long("a ", n))...)
	checkFields(t, long("\t", n))
	checkFields(t, long("\\", n), long("\\", n))
	checkFields(t, long("#", n))
	checkFields(t, "a#"+long("\xff", n), "a")
	checkFields(t, long("\"\"", n), long("\"\"", n))
	checkFields(t, "\""+long("\\\"", n)+"\" a", "\""+long("\\\"", n)+"\"", "a")
	checkFields(t, "\""+long(" # ", n)+"\"", "\""+long(" # ", n)+"\"")
	checkNoFields(t, long("\"", n+1))
	checkNoFields(t, "\""+long("\\", n+1)+"\"")
	checkNoFields(t, "\""+long("a", n))
	checkNoFields(t, long("a ", n)+"\x00")
	checkNoFields(t, long("\xff", n))
}

// P1: the same of quoted texts.
func TestLongQuotedTexts(t *testing.T) {
	const n = 1 << 18
	long := strings.Repeat
	for _, r := range [][2]string{{"a", "a"}, {" ", " "}, {`"`, `\"`}, {`\`, `\\`}, {`\"`, `\\\"`}} {
		checkQuote(t, long(r[0], n), `"`+long(r[1], n)+`"`, true)
		checkUnquote(t, `"`+long(r[1], n)+`"`, long(r[0], n), true)
		checkUnquote(t, `"`+long(r[1], n), "", false)
		checkUnquote(t, long(r[1], n)+`"`, "", false)
		checkUnquote(t, `"`+long(r[1], n)+`"x`, "", false)
		checkQuote(t, long(r[0], n)+"\x7f", "", false)
		checkQuote(t, "\n"+long(r[0], n), "", false)
	}
	checkUnquote(t, long(`"`, n), "", false)
	checkUnquote(t, `"`+long(`\`, n+1)+`"`, "", false)
	checkUnquote(t, `"`+long(`\`, n)+`"`, long(`\`, n/2), true)
	checkUnquote(t, long("\xff", n), "", false)
	checkQuote(t, long("\xff", n), "", false)
}

// spoil changes a list in every way in which its owner may.
func spoil(l []string) {
	for i := range l {
		l[i] = "changed"
	}
	if len(l) > 0 {
		_ = append(l[:1], "x", "y")
	}
	l = append(l, "z")
	clear(l[:cap(l)])
}

// P2: a list that was answered is the caller's own: what is done to it changes
// no other answer.
func TestListsAreNew(t *testing.T) {
	text, line := "a\nb\n\nc", `a "b c" d # e`
	lines, fields := []string{"a", "b", "", "c"}, []string{"a", `"b c"`, "d"}
	for range 3 {
		otherLines := Lines(text)
		otherFields, _ := Fields(line)
		spoil(Lines(text))
		l, _ := Fields(line)
		spoil(l)
		none, _ := Fields("")
		spoil(none)
		if !slices.Equal(otherLines, lines) || !slices.Equal(otherFields, fields) {
			t.Fatalf("answered ahead, became %q and %q", otherLines, otherFields)
		}
		checkLines(t, text, lines...)
		checkFields(t, line, fields...)
		checkFields(t, "")
	}
}

// shares tells whether the octets of part are octets of whole.
func shares(part, whole string) bool {
	if part == "" || whole == "" {
		return false
	}
	at := uintptr(unsafe.Pointer(unsafe.StringData(part)))
	from := uintptr(unsafe.Pointer(unsafe.StringData(whole)))
	return at >= from && at < from+uintptr(len(whole))
}

// P2: the texts that are answered share no memory with what was handed in.
func TestTextsAreNew(t *testing.T) {
	text := strings.Clone("a line\nand \"one\" more")
	for _, l := range Lines(text) {
		if shares(l, text) {
			t.Fatalf("Lines: %q is a piece of the text", l)
		}
		fields, _ := Fields(l)
		for _, f := range fields {
			if shares(f, l) {
				t.Fatalf("Fields: %q is a piece of the line", f)
			}
		}
	}
	whole := strings.Clone("onlyone")
	if l := Lines(whole); shares(l[0], whole) {
		t.Fatal("Lines: the only line is the text")
	}
	if l, _ := Fields(whole); shares(l[0], whole) {
		t.Fatal("Fields: the only field is the line")
	}
	q := strings.Clone(`"title"`)
	if u, _ := Unquote(q); shares(u, q) {
		t.Fatal("Unquote: a piece of the quoted text")
	}
}

// P3: a call asked again answers the same, whatever was asked between.
func TestAskedAgain(t *testing.T) {
	for range 3 {
		checkFields(t, "a b", "a", "b")
		checkNoFields(t, "\"a")
		checkFields(t, "a b", "a", "b")
		checkNoFields(t, "\"a\\")
		checkFields(t, "\" \"", "\" \"")
		checkQuote(t, "\n", "", false)
		checkQuote(t, "a", `"a"`, true)
		checkUnquote(t, `"a\"`, "", false)
		checkUnquote(t, `"a"`, "a", true)
		checkLines(t, "", "")
	}
}

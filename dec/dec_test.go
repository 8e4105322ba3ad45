package dec

import (
	"math"
	"math/big"
	"strings"
	"testing"
)

const (
	least = math.MinInt
	most  = math.MaxInt
)

// written: numbers, and the one way in which each is written.
var written = []struct {
	n int
	s string
}{
	{0, "0"},
	{1, "1"},
	{-1, "-1"},
	{7, "7"},
	{9, "9"},
	{10, "10"},
	{-10, "-10"},
	{42, "42"},
	{-42, "-42"},
	{99, "99"},
	{100, "100"},
	{-100, "-100"},
	{1005, "1005"},
	{5000000, "5000000"},
	{1 << 31, "2147483648"},
	{-1 << 31, "-2147483648"},
	{1<<53 + 1, "9007199254740993"},
	{1000000000000000000, "1000000000000000000"},
	{-1000000000000000000, "-1000000000000000000"},
	{most - 1, "9223372036854775806"},
	{most, "9223372036854775807"},
	{least + 1, "-9223372036854775807"},
	{least, "-9223372036854775808"},
}

// wrong: texts that are the Put of no int.
func wrong() []string {
	l := []string{
		"",
		// A sign alone, and signs that Put doesn't write.
		"-", "+", "--", "-0", "+0", "+1", "-+1", "+-1", "--1", "1-", "1+", "0-",
		// Noughts ahead.
		"00", "01", "007", "-01", "-007", "0000000000000000000",
		"09223372036854775807", "-09223372036854775808",
		// Spaces, and what else is not to be seen.
		" ", " 1", "1 ", "1 2", "- 1", "\t1", "1\n", "1\r\n", "\x001", "1\x00", "\x00",
		// Letters, marks, other ways to write numbers.
		"a", "x", "1a", "a1", "12x34", "0x10", "0b1", "0o7", "1_000", "1,000",
		"1.", "1.0", ".1", "1e3", "1E3", "inf", "NaN", "\"1\"", "1/2", "/", ":", "1:", "1/",
		// Octets above 127: alone, among digits, and digits of other scripts.
		"\x80", "\xff", "1\xff", "\xff1", "1\xb2", "\xb1", "\xc0\xb1",
		"\u0661", "1\u0662", "\uff11", "\u22121", "\u00a01", "1\u00b2",
		// Just no int, and far from it.
		"9223372036854775808", "-9223372036854775809", "9223372036854775810",
		"9223372036854775817", "-9223372036854775818", "9999999999999999999",
		"-9999999999999999999", "10000000000000000000", "-10000000000000000000",
		"18446744073709551615", "18446744073709551616", "18446744073709551617",
		"-18446744073709551616", "36893488147419103233",
	}
	for _, n := range []int{20, 21, 64, 100000} {
		l = append(l,
			strings.Repeat("0", n), strings.Repeat("0", n)+"1",
			"1"+strings.Repeat("0", n), strings.Repeat("9", n), "-"+strings.Repeat("9", n),
			strings.Repeat("-", n), strings.Repeat(" ", n), strings.Repeat("\xff", n))
	}
	return l
}

func checkGet(t *testing.T, s string, meant int, is bool) {
	t.Helper()
	n, ok := Get(s)
	if n != meant || ok != is {
		t.Fatalf("Get(%.40q) = %d, %v; meant: %d, %v", s, n, ok, meant, is)
	}
}

func checkWithin(t *testing.T, s string, lo, hi, meant int, is bool) {
	t.Helper()
	n, ok := Within(s, lo, hi)
	if n != meant || ok != is {
		t.Fatalf("Within(%.40q, %d, %d) = %d, %v; meant: %d, %v", s, lo, hi, n, ok, meant, is)
	}
}

// P2.1, P5: a number is written in one way, to the base 10.
func TestPut(t *testing.T) {
	for _, r := range written {
		if s := Put(r.n); s != r.s {
			t.Fatalf("Put(%d) = %q; meant: %q", r.n, s, r.s)
		}
	}
}

// P2.1, P5: what Put writes is read.
func TestGet(t *testing.T) {
	for _, r := range written {
		checkGet(t, r.s, r.n, true)
	}
}

// P2.1, P5: what Put writes of no int is none, and the number beside is 0 (P4).
func TestGetOfWrongTexts(t *testing.T) {
	for _, s := range wrong() {
		checkGet(t, s, 0, false)
	}
}

// P2.1: around each power of 2 and of 10 a number is told as math/big tells
// it, just if it is an int, and it is read again.
func TestRoundTrips(t *testing.T) {
	one := big.NewInt(1)
	for _, base := range []int64{2, 10} {
		for e := int64(0); e <= 70; e++ {
			p := new(big.Int).Exp(big.NewInt(base), big.NewInt(e), nil)
			for range 2 {
				checkTold(t, new(big.Int).Sub(p, one))
				checkTold(t, p)
				checkTold(t, new(big.Int).Add(p, one))
				p = new(big.Int).Neg(p)
			}
		}
	}
}

func checkTold(t *testing.T, n *big.Int) {
	t.Helper()
	if !n.IsInt64() {
		checkGet(t, n.String(), 0, false)
		return
	}
	m := int(n.Int64())
	if Put(m) != n.String() {
		t.Fatalf("Put(%d) = %q", m, Put(m))
	}
	checkGet(t, n.String(), m, true)
}

// P2.1: of all texts of up to 4 octets that could be numbers just those are
// read that are some number's Put.
func TestShortTexts(t *testing.T) {
	puts := map[string]int{}
	for n := -999; n <= 9999; n++ {
		puts[Put(n)] = n
	}
	if len(puts) != 10999 {
		t.Fatalf("%d texts of 10999 numbers", len(puts))
	}
	texts := []string{""}
	for range 5 {
		for _, s := range texts {
			n, is := puts[s]
			checkGet(t, s, n, is)
		}
		texts = longer(texts)
	}
}

// longer: each text with each one of a few octets behind it.
func longer(texts []string) []string {
	var l []string
	for _, s := range texts {
		for _, c := range []byte("0123456789-+ _x\xff") {
			l = append(l, s+string([]byte{c}))
		}
	}
	return l
}

// P2.1: both bounds are counted in; bounds that are changed about have none.
func TestWithin(t *testing.T) {
	rows := []struct {
		s      string
		lo, hi int
		n      int
		ok     bool
	}{
		{"5", 1, 8, 5, true},
		{"1", 1, 8, 1, true},
		{"8", 1, 8, 8, true},
		{"0", 1, 8, 0, false},
		{"9", 1, 8, 0, false},
		{"-5", 1, 8, 0, false},
		{"-5", -8, -1, -5, true},
		{"-9", -8, -1, 0, false},
		{"0", -8, -1, 0, false},
		{"0", 0, 0, 0, true},
		{"7", 7, 7, 7, true},
		{"6", 7, 7, 0, false},
		{"8", 7, 7, 0, false},
		{"5", 8, 1, 0, false},
		{"1", 8, 1, 0, false},
		{"8", 8, 1, 0, false},
		{"0", 1, -1, 0, false},
		{"0", most, least, 0, false},
		{"9223372036854775807", most, least, 0, false},
		{"9223372036854775807", least, most, most, true},
		{"-9223372036854775808", least, most, least, true},
		{"9223372036854775807", least, most - 1, 0, false},
		{"-9223372036854775808", least + 1, most, 0, false},
		{"9223372036854775807", most, most, most, true},
		{"-9223372036854775808", least, least, least, true},
	}
	for _, r := range rows {
		checkWithin(t, r.s, r.lo, r.hi, r.n, r.ok)
	}
}

// P2.1: what is no number is none within any bounds.
func TestWithinOfWrongTexts(t *testing.T) {
	for _, s := range wrong() {
		checkWithin(t, s, least, most, 0, false)
		checkWithin(t, s, 0, 0, 0, false)
		checkWithin(t, s, most, least, 0, false)
	}
}

// P2.1: Within is Get, held against both bounds, for all small numbers.
func TestWithinOfAllSmall(t *testing.T) {
	for n := -6; n <= 6; n++ {
		for lo := -7; lo <= 7; lo++ {
			for hi := -7; hi <= 7; hi++ {
				if n < lo || n > hi {
					checkWithin(t, Put(n), lo, hi, 0, false)
				} else {
					checkWithin(t, Put(n), lo, hi, n, true)
				}
			}
		}
	}
}

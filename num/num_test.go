package num

import (
	"math"
	"math/big"
	"slices"
	"testing"
)

const (
	least = math.MinInt
	most  = math.MaxInt
)

// edges: small numbers, and those around which sums, products and quotients
// stop to fit.
func edges() []int {
	var l []int
	for n := -9; n <= 9; n++ {
		l = append(l, n)
	}
	for _, m := range []int{
		1 << 31, 1 << 32, 3037000499, 3037000500, 1 << 61, 1 << 62,
		3 << 60, 6148914691236517205, 1000000007,
	} {
		for d := -2; d <= 2; d++ {
			l = append(l, m+d, -m+d)
		}
	}
	for d := range 4 {
		l = append(l, most-d, least+d, most/2-d, least/2+d, most/3-d, least/3+d)
	}
	slices.Sort(l)
	return slices.Compact(l)
}

// fits: what a call must answer whose true answer is n.
func fits(n *big.Int) (int, bool) {
	if !n.IsInt64() {
		return 0, false
	}
	return int(n.Int64()), true
}

// floor: a by b, rounded to the lesser side; b is not 0.
func floor(a, b *big.Int) *big.Int {
	q, r := new(big.Int).QuoRem(a, b, new(big.Int))
	if r.Sign() != 0 && r.Sign() != b.Sign() {
		q.Sub(q, big.NewInt(1))
	}
	return q
}

func number(n int) *big.Int { return big.NewInt(int64(n)) }

// check fails if a call's answer isn't the one that is meant.
func check(t *testing.T, call string, args []int, n int, ok bool, meant int, fit bool) {
	t.Helper()
	if n != meant || ok != fit {
		t.Fatalf("%s%v = %d, %v; meant: %d, %v", call, args, n, ok, meant, fit)
	}
}

type row struct {
	a, b, n int
	ok      bool
}

func checkRows(t *testing.T, call string, f func(a, b int) (int, bool), rows []row) {
	t.Helper()
	for _, r := range rows {
		n, ok := f(r.a, r.b)
		check(t, call, []int{r.a, r.b}, n, ok, r.n, r.ok)
	}
}

// P1.1: sums that are just an int, and just none.
func TestAdd(t *testing.T) {
	checkRows(t, "Add", Add, []row{
		{0, 0, 0, true},
		{2, 3, 5, true},
		{-2, 3, 1, true},
		{most, 0, most, true},
		{most - 1, 1, most, true},
		{most, 1, 0, false},
		{1, most, 0, false},
		{most, most, 0, false},
		{least, 0, least, true},
		{least + 1, -1, least, true},
		{least, -1, 0, false},
		{-1, least, 0, false},
		{least, least, 0, false},
		{least, most, -1, true},
		{1 << 62, 1 << 62, 0, false},
		{-1 << 62, -1 << 62, least, true},
	})
}

// P1.1: differences that are just an int, and just none.
func TestSub(t *testing.T) {
	checkRows(t, "Sub", Sub, []row{
		{0, 0, 0, true},
		{2, 3, -1, true},
		{-2, -3, 1, true},
		{most, -1, 0, false},
		{most - 1, -1, most, true},
		{least, 1, 0, false},
		{least + 1, 1, least, true},
		{0, least, 0, false},
		{0, most, -most, true},
		{-1, least, most, true},
		{-1, most, least, true},
		{-2, most, 0, false},
		{least, least, 0, true},
		{most, most, 0, true},
		{most, least, 0, false},
		{least, most, 0, false},
	})
}

// P1.1: products that are just an int, and just none.
func TestMul(t *testing.T) {
	checkRows(t, "Mul", Mul, []row{
		{0, 0, 0, true},
		{0, least, 0, true},
		{most, 0, 0, true},
		{6, 7, 42, true},
		{-6, 7, -42, true},
		{-6, -7, 42, true},
		{most, 1, most, true},
		{most, -1, -most, true},
		{least, 1, least, true},
		{least, -1, 0, false},
		{-1, least, 0, false},
		{1 << 31, 1 << 32, 0, false},
		{-1 << 31, 1 << 32, least, true},
		{1 << 31, -1 << 32, least, true},
		{-1 << 31, -1 << 32, 0, false},
		{1 << 32, 1 << 32, 0, false},
		{3037000499, 3037000499, 9223372030926249001, true},
		{3037000500, 3037000500, 0, false},
		{3037000500, -3037000500, 0, false},
		{7, most / 7, most, true},
		{7, most/7 + 1, 0, false},
		{least, least, 0, false},
		{most, most, 0, false},
	})
}

// P1.1: one number behind the other, so that a sum on the way must fit, too.
func TestSum(t *testing.T) {
	for _, r := range []struct {
		l  []int
		n  int
		ok bool
	}{
		{nil, 0, true},
		{[]int{}, 0, true},
		{[]int{-5}, -5, true},
		{[]int{1, 2, 3, 4}, 10, true},
		{[]int{most}, most, true},
		{[]int{least}, least, true},
		{[]int{most, -1, 1}, most, true},
		{[]int{most, 1, -1}, 0, false},
		{[]int{least, -1, 1}, 0, false},
		{[]int{most, least, 1}, 0, true},
		{[]int{1, most, least}, 0, false},
		{[]int{1 << 62, 1 << 62, -1 << 62}, 0, false},
		{[]int{1 << 62, 1<<62 - 1}, most, true},
		{[]int{1, 2, most}, 0, false},
	} {
		kept := slices.Clone(r.l)
		n, ok := Sum(r.l...)
		check(t, "Sum", r.l, n, ok, r.n, r.ok)
		if !slices.Equal(kept, r.l) {
			t.Fatalf("Sum changed %v into %v", kept, r.l)
		}
	}
	n, ok := Sum()
	check(t, "Sum", nil, n, ok, 0, true)
	n, ok = Sum(3, -4)
	check(t, "Sum", []int{3, -4}, n, ok, -1, true)
}

// P1.1: both ends count, and nothing is within ends that are changed about.
func TestIn(t *testing.T) {
	for _, r := range []struct {
		n, lo, hi int
		in        bool
	}{
		{5, 1, 9, true},
		{1, 1, 9, true},
		{9, 1, 9, true},
		{0, 1, 9, false},
		{10, 1, 9, false},
		{4, 4, 4, true},
		{4, 5, 3, false},
		{5, 5, 3, false},
		{3, 5, 3, false},
		{0, least, most, true},
		{least, least, most, true},
		{most, least, most, true},
		{least, least + 1, most, false},
		{most, least, most - 1, false},
		{0, most, least, false},
	} {
		if In(r.n, r.lo, r.hi) != r.in {
			t.Fatalf("In(%d, %d, %d) isn't %v", r.n, r.lo, r.hi, r.in)
		}
	}
}

// P1.2: rounded to the lesser side, whatever the signs; no divisor of 0.
func TestFloor(t *testing.T) {
	checkRows(t, "Floor", Floor, []row{
		{7, 2, 3, true},
		{-7, 2, -4, true},
		{7, -2, -4, true},
		{-7, -2, 3, true},
		{6, 2, 3, true},
		{-6, 2, -3, true},
		{6, -2, -3, true},
		{-6, -2, 3, true},
		{0, 5, 0, true},
		{0, -5, 0, true},
		{1, most, 0, true},
		{-1, most, -1, true},
		{1, least, -1, true},
		{-1, least, 0, true},
		{least, 1, least, true},
		{least, -1, 0, false},
		{least + 1, -1, most, true},
		{least, -2, 1 << 62, true},
		{most, -1, -most, true},
		{least, least, 1, true},
		{least, most, -2, true},
		{most, least, -1, true},
		{0, 0, 0, false},
		{1, 0, 0, false},
		{least, 0, 0, false},
		{most, 0, 0, false},
	})
}

// P1.2: the rest has the divisor's sign; there is one even where the quotient
// is no int.
func TestRest(t *testing.T) {
	checkRows(t, "Rest", Rest, []row{
		{7, 2, 1, true},
		{-7, 2, 1, true},
		{7, -2, -1, true},
		{-7, -2, -1, true},
		{7, 5, 2, true},
		{-7, 5, 3, true},
		{7, -5, -3, true},
		{-7, -5, -2, true},
		{6, 3, 0, true},
		{-6, 3, 0, true},
		{6, -3, 0, true},
		{0, -3, 0, true},
		{least, -1, 0, true},
		{least, 1, 0, true},
		{least, most, most - 1, true},
		{most, least, -1, true},
		{1, least, least + 1, true},
		{-1, most, most - 1, true},
		{least, least, 0, true},
		{0, 0, 0, false},
		{7, 0, 0, false},
		{least, 0, 0, false},
	})
}

// P1.2: the product need not fit, the quotient must; no divisor of 0.
func TestMulDiv(t *testing.T) {
	for _, r := range []struct {
		a, b, c, n int
		ok         bool
	}{
		{7, 3, 2, 10, true},
		{-7, 3, 2, -11, true},
		{7, -3, 2, -11, true},
		{7, 3, -2, -11, true},
		{-7, -3, -2, -11, true},
		{-7, -3, 2, 10, true},
		{-7, 3, -2, 10, true},
		{7, -3, -2, 10, true},
		{-8, 3, 2, -12, true},
		{0, -3, 2, 0, true},
		{0, 3, -2, 0, true},
		{1 << 62, 6, 8, 3 << 60, true},
		{-1 << 62, 6, 8, -3 << 60, true},
		{most, most, most, most, true},
		{most, most, -most, -most, true},
		{least, least, least, least, true},
		{least, least, most, 0, false},
		{least, most, least, most, true},
		{least, most, most, least, true},
		{least, -1, 1, 0, false},
		{least, 1, -1, 0, false},
		{least, -1, -1, least, true},
		{most, 2, 2, most, true},
		{most, 2, 1, 0, false},
		{most, 3, 2, 0, false},
		{least, 3, 2, 0, false},
		{1 << 62, 2, 1, 0, false},
		{1 << 62, -2, 1, least, true},
		{1 << 62, 4, -2, least, true},
		{least, most, most - 1, 0, false},
		{1, -1, least, 0, true},
		{1, 1, least, -1, true},
		{1, 1, 0, 0, false},
		{0, 0, 0, 0, false},
		{most, most, 0, 0, false},
		{least, least, 0, 0, false},
	} {
		n, ok := MulDiv(r.a, r.b, r.c)
		check(t, "MulDiv", []int{r.a, r.b, r.c}, n, ok, r.n, r.ok)
	}
}

// P1.2: below 0 a quotient with a rest is one farther off than its size says,
// which counts just where the ints end, and where 64 bits do.
func TestMulDivJustBelow(t *testing.T) {
	for _, r := range []struct {
		a, b, c, n int
		ok         bool
	}{
		// 2^64 - 1, by 2: 2^63 - 1, and a rest.
		{1<<32 - 1, 1<<32 + 1, 2, most, true},
		{1<<32 - 1, 1<<32 + 1, -2, least, true},
		{1 - 1<<32, 1<<32 + 1, 2, least, true},
		// 2^64 + 1, by 2: 2^63, and a rest.
		{67280421310721, 274177, 2, 0, false},
		{67280421310721, 274177, -2, 0, false},
		{-67280421310721, 274177, 2, 0, false},
		// 2^65 - 1, by 2: 2^64 - 1, and a rest.
		{4504149450301441, 8191, 2, 0, false},
		{4504149450301441, 8191, -2, 0, false},
		{-4504149450301441, 8191, 2, 0, false},
		// 2^65, by 2: 2^64.
		{1 << 33, 1 << 32, 2, 0, false},
		{-1 << 33, 1 << 32, 2, 0, false},
	} {
		n, ok := MulDiv(r.a, r.b, r.c)
		check(t, "MulDiv", []int{r.a, r.b, r.c}, n, ok, r.n, r.ok)
	}
}

// P1.1, P1.2: all pairs of edges, held against numbers of any size.
func TestPairs(t *testing.T) {
	l := edges()
	for _, a := range l {
		for _, b := range l {
			x, y := number(a), number(b)
			args := []int{a, b}
			holds := func(call string, f func(a, b int) (int, bool), z *big.Int) {
				t.Helper()
				n, ok := f(a, b)
				m, fit := fits(z)
				check(t, call, args, n, ok, m, fit)
			}
			holds("Add", Add, new(big.Int).Add(x, y))
			holds("Sub", Sub, new(big.Int).Sub(x, y))
			holds("Mul", Mul, new(big.Int).Mul(x, y))
			if b == 0 {
				continue
			}
			q := floor(x, y)
			holds("Floor", Floor, q)
			holds("Rest", Rest, new(big.Int).Sub(x, new(big.Int).Mul(y, q)))
		}
	}
}

// P1.2: all triples of edges, held against numbers of any size.
func TestTriples(t *testing.T) {
	l := edges()
	for _, a := range l {
		for _, b := range l {
			p := new(big.Int).Mul(number(a), number(b))
			for _, c := range l {
				n, ok := MulDiv(a, b, c)
				m, fit := 0, false
				if c != 0 {
					m, fit = fits(floor(p, number(c)))
				}
				check(t, "MulDiv", []int{a, b, c}, n, ok, m, fit)
			}
		}
	}
}

package num

import (
	"math/big"
	"slices"
	"testing"
)

const (
	lowest  = -1 << 63
	highest = 1<<63 - 1
)

// binary is a call of two numbers with one result.
type binary func(a, b int64) (int64, bool)

// row is a call of two numbers and what it must answer.
type row struct {
	a, b int64
	n    int64
	ok   bool
}

func checkRows(t *testing.T, name string, f binary, rows []row) {
	t.Helper()
	for _, r := range rows {
		if n, ok := f(r.a, r.b); n != r.n || ok != r.ok {
			t.Errorf("%s(%d, %d) is %d, %v; want %d, %v", name, r.a, r.b, n, ok, r.n, r.ok)
		}
	}
}

// samples are the small numbers, numbers at every power of two, the edges, and some that a fixed rule scatters.
func samples() []int64 {
	var l []int64
	for i := range 13 {
		l = append(l, int64(i), int64(-i))
	}
	for i := 4; i < 64; i++ {
		p := int64(uint64(1) << i)
		l = append(l, p, p-1, p+1, -p, 1-p, -1-p)
	}
	l = append(l, highest-1, lowest+2, 3037000499, 3037000500, -3037000500, 9223372036854775783, -9223372036854775783, 6*35*11*13, 1836311903, 2971215073)
	x := uint64(88172645463325252)
	for i := range 60 {
		x ^= x << 13
		x ^= x >> 7
		x ^= x << 17
		l = append(l, int64(x)>>(i%60))
	}
	slices.Sort(l)
	return slices.Compact(l)
}

// pairs calls f with all pairs of samples.
func pairs(f func(a, b int64)) {
	l := samples()
	for _, a := range l {
		for _, b := range l {
			f(a, b)
		}
	}
}

func TestSamplesHoldTheEdges(t *testing.T) {
	l := samples()
	for _, a := range []int64{lowest, lowest + 1, -1, 0, 1, highest - 1, highest} {
		if !slices.Contains(l, a) {
			t.Error(a)
		}
	}
}

// whole answers n as a call must: 0 and false if it does not fit.
func whole(n *big.Int) (int64, bool) {
	if !n.IsInt64() {
		return 0, false
	}
	return n.Int64(), true
}

// floor returns the exact quotient of a and b, rounded down, and what it leaves of a.
func floor(a, b int64) (q, r *big.Int) {
	x, y := big.NewInt(a), big.NewInt(b)
	q, r = new(big.Int).QuoRem(x, y, new(big.Int))
	if r.Sign()*y.Sign() < 0 {
		q.Sub(q, big.NewInt(1))
		r.Add(r, y)
	}
	return q, r
}

// ceil returns the exact quotient of a and b, rounded up.
func ceil(a, b int64) *big.Int {
	q, r := floor(a, b)
	if r.Sign() != 0 {
		q.Add(q, big.NewInt(1))
	}
	return q
}

func gcd(a, b int64) *big.Int {
	return new(big.Int).GCD(nil, nil, new(big.Int).Abs(big.NewInt(a)), new(big.Int).Abs(big.NewInt(b)))
}

func lcm(a, b int64) *big.Int {
	if a == 0 || b == 0 {
		return new(big.Int)
	}
	p := new(big.Int).Mul(big.NewInt(a), big.NewInt(b))
	return p.Quo(p.Abs(p), gcd(a, b))
}

// Promise 1.1.

func TestAdd(t *testing.T) {
	checkRows(t, "Add", Add, []row{
		{2, 3, 5, true}, {2, -3, -1, true}, {0, 0, 0, true}, {-5, 5, 0, true},
		{highest, 0, highest, true}, {0, lowest, lowest, true}, {highest, lowest, -1, true},
		{highest, 1, 0, false}, {1, highest, 0, false}, {highest, highest, 0, false},
		{lowest, -1, 0, false}, {-1, lowest, 0, false}, {lowest, lowest, 0, false},
		{highest - 1, 1, highest, true}, {lowest + 1, -1, lowest, true},
		{1 << 62, 1 << 62, 0, false}, {-1 << 62, -1 << 62, lowest, true},
	})
}

func TestSub(t *testing.T) {
	checkRows(t, "Sub", Sub, []row{
		{5, 3, 2, true}, {3, 5, -2, true}, {0, 0, 0, true}, {-4, -4, 0, true},
		{0, lowest, 0, false}, {-1, lowest, highest, true}, {0, highest, -highest, true},
		{lowest, 1, 0, false}, {lowest, 0, lowest, true}, {lowest, lowest, 0, true},
		{highest, -1, 0, false}, {highest, lowest, 0, false}, {lowest, highest, 0, false},
		{-2, highest, 0, false}, {-1, highest, lowest, true},
	})
}

func TestMul(t *testing.T) {
	checkRows(t, "Mul", Mul, []row{
		{6, 7, 42, true}, {-4, 5, -20, true}, {-4, -5, 20, true}, {0, lowest, 0, true}, {highest, 0, 0, true},
		{lowest, -1, 0, false}, {-1, lowest, 0, false}, {lowest, 1, lowest, true}, {highest, -1, -highest, true},
		{1 << 32, 1 << 31, 0, false}, {1 << 32, -1 << 31, lowest, true}, {-1 << 32, -1 << 31, 0, false},
		{1 << 32, 1 << 32, 0, false}, {highest, highest, 0, false}, {lowest, lowest, 0, false}, {highest, 2, 0, false},
		{3037000499, 3037000499, 9223372030926249001, true}, {3037000500, 3037000500, 0, false},
		{7, 1317624576693539401, highest, true},
	})
}

func TestNeg(t *testing.T) {
	for _, r := range []row{
		{a: 0, n: 0, ok: true}, {a: 7, n: -7, ok: true}, {a: -7, n: 7, ok: true},
		{a: highest, n: -highest, ok: true}, {a: lowest + 1, n: highest, ok: true}, {a: lowest, n: 0, ok: false},
	} {
		if n, ok := Neg(r.a); n != r.n || ok != r.ok {
			t.Errorf("Neg(%d) is %d, %v", r.a, n, ok)
		}
	}
}

func TestDiv(t *testing.T) {
	checkRows(t, "Div", Div, []row{
		{7, 2, 3, true}, {-7, 2, -4, true}, {7, -2, -4, true}, {-7, -2, 3, true},
		{6, 3, 2, true}, {-6, 3, -2, true}, {6, -3, -2, true}, {-6, -3, 2, true}, {0, 5, 0, true}, {0, -5, 0, true},
		{1, 5, 0, true}, {-1, 5, -1, true}, {1, -5, -1, true}, {-1, -5, 0, true},
		{lowest, -1, 0, false}, {lowest, 1, lowest, true}, {highest, -1, -highest, true},
		{lowest, lowest, 1, true}, {highest, lowest, -1, true}, {lowest, highest, -2, true}, {-1, lowest, 0, true}, {1, lowest, -1, true},
		{5, 0, 0, false}, {0, 0, 0, false}, {lowest, 0, 0, false},
	})
}

func TestCeil(t *testing.T) {
	checkRows(t, "Ceil", Ceil, []row{
		{7, 2, 4, true}, {-7, 2, -3, true}, {7, -2, -3, true}, {-7, -2, 4, true},
		{6, 3, 2, true}, {-6, 3, -2, true}, {6, -3, -2, true}, {-6, -3, 2, true}, {0, 5, 0, true}, {0, -5, 0, true},
		{1, 5, 1, true}, {-1, 5, 0, true}, {1, -5, 0, true}, {-1, -5, 1, true},
		{lowest, -1, 0, false}, {lowest, 1, lowest, true}, {highest, 1, highest, true}, {highest, 2, 1 << 62, true},
		{lowest, lowest, 1, true}, {highest, lowest, 0, true}, {lowest, highest, -1, true}, {-1, lowest, 1, true}, {1, lowest, 0, true},
		{5, 0, 0, false}, {0, 0, 0, false}, {lowest, 0, 0, false},
	})
}

func TestMod(t *testing.T) {
	checkRows(t, "Mod", Mod, []row{
		{7, 2, 1, true}, {-7, 2, 1, true}, {7, -2, -1, true}, {-7, -2, -1, true},
		{6, 3, 0, true}, {-6, 3, 0, true}, {6, -3, 0, true}, {0, 5, 0, true}, {0, -5, 0, true},
		{1, 5, 1, true}, {-1, 5, 4, true}, {1, -5, -4, true}, {-1, -5, -1, true},
		{lowest, -1, 0, true}, {lowest, 1, 0, true}, {lowest, lowest, 0, true}, {-1, lowest, -1, true},
		{1, lowest, lowest + 1, true}, {highest, lowest, -1, true}, {lowest, highest, highest - 1, true}, {-1, highest, highest - 1, true},
		{3, 0, 0, false}, {0, 0, 0, false}, {lowest, 0, 0, false},
	})
}

// checkExact holds a call against its exact result.
func checkExact(t *testing.T, name string, f binary, a, b int64, want *big.Int) {
	t.Helper()
	n, ok := f(a, b)
	if m, fits := whole(want); n != m || ok != fits {
		t.Fatalf("%s(%d, %d) is %d, %v; exactly %v", name, a, b, n, ok, want)
	}
}

func TestSumsAreExact(t *testing.T) {
	pairs(func(a, b int64) {
		x, y := big.NewInt(a), big.NewInt(b)
		checkExact(t, "Add", Add, a, b, new(big.Int).Add(x, y))
		checkExact(t, "Sub", Sub, a, b, new(big.Int).Sub(x, y))
		checkExact(t, "Mul", Mul, a, b, new(big.Int).Mul(x, y))
	})
	for _, a := range samples() {
		n, ok := Neg(a)
		if m, fits := whole(new(big.Int).Neg(big.NewInt(a))); n != m || ok != fits {
			t.Errorf("Neg(%d) is %d, %v", a, n, ok)
		}
	}
}

func TestQuotientsAreExact(t *testing.T) {
	pairs(func(a, b int64) {
		if b == 0 {
			return
		}
		q, r := floor(a, b)
		checkExact(t, "Div", Div, a, b, q)
		checkExact(t, "Ceil", Ceil, a, b, ceil(a, b))
		checkExact(t, "Mod", Mod, a, b, r)
	})
}

func TestDivisorZero(t *testing.T) {
	for _, a := range samples() {
		for name, f := range map[string]binary{"Div": Div, "Ceil": Ceil, "Mod": Mod} {
			if n, ok := f(a, 0); n != 0 || ok {
				t.Errorf("%s(%d, 0) is %d, %v", name, a, n, ok)
			}
		}
	}
}

// Promise 1.2.

func TestGcd(t *testing.T) {
	for _, x := range []struct {
		l  []int64
		n  int64
		ok bool
	}{
		{nil, 0, true}, {[]int64{}, 0, true}, {[]int64{0}, 0, true}, {[]int64{0, 0, 0}, 0, true},
		{[]int64{5}, 5, true}, {[]int64{-5}, 5, true}, {[]int64{0, -5}, 5, true}, {[]int64{5, 0}, 5, true},
		{[]int64{12, -18}, 6, true}, {[]int64{-12, -18}, 6, true}, {[]int64{12, 18, 8}, 2, true}, {[]int64{6, 10, 15}, 1, true},
		{[]int64{0, 30, 0, -42, 70, 0}, 2, true}, {[]int64{64, 96, 160, 224}, 32, true},
		{[]int64{highest}, highest, true}, {[]int64{highest, -highest}, highest, true}, {[]int64{highest, lowest}, 1, true}, {[]int64{highest, 49}, 49, true},
		{[]int64{lowest}, 0, false}, {[]int64{lowest, 0}, 0, false}, {[]int64{0, lowest}, 0, false}, {[]int64{lowest, lowest, 0, lowest}, 0, false},
		{[]int64{lowest, 12}, 4, true}, {[]int64{lowest, lowest, 1 << 62}, 1 << 62, true}, {[]int64{lowest, 0, -1}, 1, true},
	} {
		if n, ok := Gcd(x.l...); n != x.n || ok != x.ok {
			t.Errorf("Gcd(%v) is %d, %v; want %d, %v", x.l, n, ok, x.n, x.ok)
		}
	}
	if n, ok := Gcd(); n != 0 || !ok {
		t.Errorf("Gcd() is %d, %v", n, ok)
	}
}

func TestGcdOfMany(t *testing.T) {
	var l []int64
	for i := range int64(1000) {
		l = append(l, (i-500)*91*(i%7+1))
	}
	was := slices.Clone(l)
	if n, ok := Gcd(l...); n != 91 || !ok {
		t.Error(n, ok)
	}
	if !slices.Equal(l, was) {
		t.Error("Gcd has changed its arguments")
	}
}

func TestGcdIsExact(t *testing.T) {
	pairs(func(a, b int64) {
		checkExact(t, "Gcd", func(a, b int64) (int64, bool) { return Gcd(a, b) }, a, b, gcd(a, b))
		three := new(big.Int).GCD(nil, nil, gcd(a, b), big.NewInt(360))
		checkExact(t, "Gcd with 360", func(a, b int64) (int64, bool) { return Gcd(a, 360, b) }, a, b, three)
	})
}

func TestLcm(t *testing.T) {
	checkRows(t, "Lcm", Lcm, []row{
		{4, 6, 12, true}, {4, -6, 12, true}, {-4, -6, 12, true}, {5, 7, 35, true}, {3, 9, 9, true}, {1, -1, 1, true},
		{0, 5, 0, true}, {5, 0, 0, true}, {0, 0, 0, true}, {0, lowest, 0, true}, {lowest, 0, 0, true}, {highest, 0, 0, true},
		{lowest, 1, 0, false}, {-1, lowest, 0, false}, {lowest, lowest, 0, false}, {lowest, 3, 0, false},
		{highest, 1, highest, true}, {highest, -highest, highest, true}, {highest, 7, highest, true}, {highest, 2, 0, false}, {highest, lowest, 0, false},
		{1 << 62, 1 << 61, 1 << 62, true}, {1 << 62, 3, 0, false}, {1 << 32, 1<<31 + 1, 0, false}, {1 << 31, 1<<32 - 1, 1<<63 - 1<<31, true},
	})
	pairs(func(a, b int64) { checkExact(t, "Lcm", Lcm, a, b, lcm(a, b)) })
}

// within tells whether |x| is at most max(1, |b|).
func within(x, b int64) bool {
	most := new(big.Int).Abs(big.NewInt(b))
	if most.Sign() == 0 {
		most.SetInt64(1)
	}
	return new(big.Int).Abs(big.NewInt(x)).Cmp(most) <= 0
}

func checkBezout(t *testing.T, a, b int64) {
	t.Helper()
	g, x, y, ok := Bezout(a, b)
	want, fits := whole(gcd(a, b))
	if g != want || ok != fits {
		t.Fatalf("Bezout(%d, %d) is %d, %v; want %d, %v", a, b, g, ok, want, fits)
	}
	if !ok {
		if x != 0 || y != 0 {
			t.Fatalf("Bezout(%d, %d) tells %d and %d beside false", a, b, x, y)
		}
		return
	}
	sum := new(big.Int).Mul(big.NewInt(a), big.NewInt(x))
	sum.Add(sum, new(big.Int).Mul(big.NewInt(b), big.NewInt(y)))
	if sum.Cmp(big.NewInt(g)) != 0 {
		t.Fatalf("Bezout(%d, %d): %d and %d make %v, not %d", a, b, x, y, sum, g)
	}
	if !within(x, b) || !within(y, a) {
		t.Fatalf("Bezout(%d, %d): %d or %d is too great", a, b, x, y)
	}
}

func TestBezout(t *testing.T) {
	pairs(func(a, b int64) { checkBezout(t, a, b) })
	for a := range int64(61) {
		for b := range int64(61) {
			checkBezout(t, a-30, b-30)
		}
	}
}

func TestBezoutWithoutResult(t *testing.T) {
	for _, l := range [][2]int64{{lowest, 0}, {0, lowest}, {lowest, lowest}} {
		if g, x, y, ok := Bezout(l[0], l[1]); g != 0 || x != 0 || y != 0 || ok {
			t.Error(l, g, x, y, ok)
		}
	}
	if g, _, _, ok := Bezout(0, 0); g != 0 || !ok {
		t.Error(g, ok)
	}
}

// Promise 1.3.

func TestSubtractedAgain(t *testing.T) {
	pairs(func(a, b int64) {
		if s, ok := Add(a, b); ok {
			if n, ok := Sub(s, b); n != a || !ok {
				t.Fatal(a, b, n, ok)
			}
		}
		if d, ok := Sub(a, b); ok {
			if n, ok := Add(d, b); n != a || !ok {
				t.Fatal(a, b, n, ok)
			}
		}
	})
}

func TestQuotientAndRemainder(t *testing.T) {
	pairs(func(a, b int64) {
		q, ok := Div(a, b)
		r, is := Mod(a, b)
		if is != (b != 0) {
			t.Fatal(a, b, is)
		}
		if b > 0 && (r < 0 || r > b-1) || b < 0 && (r > 0 || r < b+1) {
			t.Fatal(a, b, r)
		}
		if !ok {
			return
		}
		// b q may lie beyond 64 bits, and yet a is b q + r; so a - r is held against b q exactly.
		left := new(big.Int).Sub(big.NewInt(a), big.NewInt(r))
		if new(big.Int).Mul(big.NewInt(b), big.NewInt(q)).Cmp(left) != 0 {
			t.Fatal(a, b, q, r)
		}
	})
}

func TestGcdDivides(t *testing.T) {
	divides := func(d, a int64) bool {
		r, ok := Mod(a, d)
		return ok && r == 0
	}
	pairs(func(a, b int64) {
		g, ok := Gcd(a, b)
		if !ok || g == 0 {
			return
		}
		if !divides(g, a) || !divides(g, b) {
			t.Fatal(a, b, g)
		}
		for d := int64(1); d <= 64; d++ {
			if divides(d, a) && divides(d, b) && !divides(d, g) {
				t.Fatal(a, b, g, d)
			}
		}
	})
}

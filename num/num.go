// Package num is layer 1: exact arithmetic on 64-bit integers (chapter 01-num.md).
// Every call also tells whether its result fits; one that does not is 0.
package num

import "math/bits"

// tooBig is the least size that no positive number has; only -2^63 is of it.
const tooBig = 1 << 63

// Add returns a + b.
func Add(a, b int64) (int64, bool) {
	s := a + b
	// A sum that wrapped round lies on the wrong side of a.
	if (s < a) != (b < 0) {
		return 0, false
	}
	return s, true
}

// Sub returns a - b.
func Sub(a, b int64) (int64, bool) {
	d := a - b
	if (d > a) != (b < 0) {
		return 0, false
	}
	return d, true
}

// Mul returns a times b.
func Mul(a, b int64) (int64, bool) {
	return product(size(a), size(b), (a < 0) != (b < 0))
}

// Neg returns -a.
func Neg(a int64) (int64, bool) {
	return Sub(0, a)
}

// Div returns a / b, rounded down.
func Div(a, b int64) (int64, bool) {
	q, r, ok := divide(a, b)
	// Go rounds towards 0, which is up where the exact quotient is negative.
	if ok && r != 0 && (r < 0) != (b < 0) {
		q--
	}
	return q, ok
}

// Ceil returns a / b, rounded up.
func Ceil(a, b int64) (int64, bool) {
	q, r, ok := divide(a, b)
	// Go rounds towards 0, which is down where the exact quotient is positive.
	if ok && r != 0 && (r < 0) == (b < 0) {
		q++
	}
	return q, ok
}

// Mod returns what Div(a, b) leaves of a; it always fits, even where Div does not.
func Mod(a, b int64) (int64, bool) {
	if b == 0 {
		return 0, false
	}
	r := a % b
	if r != 0 && (r < 0) != (b < 0) {
		r += b
	}
	return r, true
}

// Gcd returns the greatest common divisor of all of l, 0 if there is none.
func Gcd(l ...int64) (int64, bool) {
	var g uint64
	for _, a := range l {
		g = common(g, size(a))
	}
	return signed(g, false)
}

// Lcm returns the least common multiple of a and b, 0 if one of them is 0.
func Lcm(a, b int64) (int64, bool) {
	if a == 0 || b == 0 {
		return 0, true
	}
	m, n := size(a), size(b)
	return product(m/common(m, n), n, false)
}

// Bezout returns g, the Gcd of a and b, and x and y with a x + b y = g.
func Bezout(a, b int64) (int64, int64, int64, bool) {
	// At every step m is |a| x + |b| y, and n is |a| u + |b| v.
	m, x, y := size(a), int64(1), int64(0)
	n, u, v := size(b), int64(0), int64(1)
	for n != 0 {
		q := m / n
		m, n = n, m%n
		// Only where n has just become 0 can u or v wrap round, and then neither is used again.
		x, u = u, x-int64(q)*u
		y, v = v, y-int64(q)*v
	}
	g, ok := signed(m, false)
	if !ok {
		return 0, 0, 0, false
	}
	if a < 0 {
		x = -x
	}
	if b < 0 {
		y = -y
	}
	return g, x, y, true
}

// divide returns the quotient, rounded towards 0, and the remainder, which has the sign of a.
func divide(a, b int64) (q, r int64, ok bool) {
	if b == 0 || b == -1 && a == -tooBig {
		return 0, 0, false
	}
	return a / b, a % b, true
}

// product returns the number of the size m times n that is negative if minus.
func product(m, n uint64, minus bool) (int64, bool) {
	high, low := bits.Mul64(m, n)
	if high != 0 {
		return 0, false
	}
	return signed(low, minus)
}

// size returns |a|, which always fits without a sign.
func size(a int64) uint64 {
	if a < 0 {
		return -uint64(a)
	}
	return uint64(a)
}

// signed returns the number of the size n that is negative if minus.
func signed(n uint64, minus bool) (int64, bool) {
	if n > tooBig || n == tooBig && !minus {
		return 0, false
	}
	if minus {
		return int64(-n), true
	}
	return int64(n), true
}

// common returns the greatest common divisor of m and n, 0 if both are 0.
func common(m, n uint64) uint64 {
	if m == 0 || n == 0 {
		return m | n
	}
	twos := halvings(m | n)
	m >>= halvings(m)
	for n != 0 {
		// m is odd, so a factor 2 of n is in no common divisor.
		n >>= halvings(n)
		if n < m {
			m, n = n, m
		}
		n -= m
	}
	return m << twos
}

// halvings counts how often n can be halved without a remainder; 64 times if n is 0.
func halvings(n uint64) int {
	for i := range 64 {
		if n>>i&1 == 1 {
			return i
		}
	}
	return 64
}

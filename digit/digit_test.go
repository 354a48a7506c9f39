package digit

import (
	"math"
	"math/big"
	"strings"
	"testing"

	"sequitur/api"
)

const (
	lowest  = -1 << 63
	highest = 1<<63 - 1
)

// numbers are the small numbers, those at every power of two and of ten, and some that a fixed rule scatters.
func numbers() []int64 {
	var l []int64
	for i := range int64(1200) {
		l = append(l, i, -i)
	}
	for i := range 64 {
		p := int64(uint64(1) << i)
		l = append(l, p, p-1, p+1, -p, 1-p, -1-p)
	}
	for p := int64(1); p <= highest/10; p *= 10 {
		l = append(l, 10*p, 10*p-1, 10*p+1, -10*p, 1-10*p, -1-10*p)
	}
	x := uint64(88172645463325252)
	for i := range 2000 {
		x ^= x << 13
		x ^= x >> 7
		x ^= x << 17
		l = append(l, int64(x)>>(i%60))
	}
	return l
}

// texts are all texts of up to most of the parts.
func texts(most int, parts ...string) []string {
	l := []string{""}
	for from := 0; most > 0; most-- {
		to := len(l)
		for ; from < to; from++ {
			for _, p := range parts {
				l = append(l, l[from]+p)
			}
		}
	}
	return l
}

// longTexts are texts of digits around the edges of 64 bits, of 31 bits, and far beyond, with something before or after them.
func longTexts() []string {
	var l []string
	for _, edge := range []string{
		"9223372036854775807", "9223372036854775808", "9223372036854775809", "9223372036854775810", "10000000000000000000",
		"18446744073709551615", "18446744073709551616", "18446744073709551617", "99999999999999999999", "922337203685477580",
		"2147483646", "2147483647", "2147483648", "4294967296", "4294967297", "9999999999", "10000000000", "12147483647", "999999999", "1000000000",
		"340282366920938463463374607431768211456", strings.Repeat("7", 100), "1" + strings.Repeat("0", 60), strings.Repeat("0", 40),
	} {
		for _, before := range []string{"", "-", "--", "0", "00", "-0", "+", " ", "h", "h-", "h0", "h7", "\x00", "\xff", "ä"} {
			for _, after := range []string{"", "-", "x", " ", "\n", "0", "5", "\x00", "\x80"} {
				l = append(l, before+edge+after)
			}
		}
	}
	return l
}

// exact returns the number whose digits are s, of whatever size, or nil.
func exact(s string) *big.Int {
	n, ok := new(big.Int).SetString(s, 10)
	if !ok || n.String() != s {
		return nil
	}
	return n
}

func checkRead(t *testing.T, s string, want int64, e api.Errno) {
	t.Helper()
	if n, f := Read(s); n != want || f != e {
		t.Errorf("Read(%q) is %d, %d; want %d, %d", s, n, f, want, e)
	}
}

// Promise 2.1.

func TestText(t *testing.T) {
	for _, x := range []struct {
		n int64
		s string
	}{
		{0, "0"}, {1, "1"}, {-1, "-1"}, {9, "9"}, {10, "10"}, {-70, "-70"}, {1000, "1000"}, {907, "907"}, {-1234567890, "-1234567890"},
		{highest, "9223372036854775807"}, {lowest, "-9223372036854775808"}, {lowest + 1, "-9223372036854775807"},
	} {
		if s := Text(x.n); s != x.s {
			t.Errorf("Text(%d) is %q", x.n, s)
		}
	}
	for _, n := range numbers() {
		if s := Text(n); s != big.NewInt(n).String() {
			t.Errorf("Text(%d) is %q", n, s)
		}
	}
}

func TestRead(t *testing.T) {
	for _, x := range []struct {
		s string
		n int64
		e api.Errno
	}{
		{"0", 0, api.OK}, {"7", 7, api.OK}, {"-12", -12, api.OK}, {"-70", -70, api.OK}, {"100", 100, api.OK}, {"1234567890", 1234567890, api.OK},
		{"9223372036854775807", highest, api.OK}, {"-9223372036854775807", lowest + 1, api.OK}, {"-9223372036854775808", lowest, api.OK},
		{"9223372036854775808", 0, api.ErrRange}, {"-9223372036854775809", 0, api.ErrRange}, {"9223372036854775810", 0, api.ErrRange},
		{"18446744073709551616", 0, api.ErrRange}, {"18446744073709551617", 0, api.ErrRange}, {"-18446744073709551616", 0, api.ErrRange},
		{"99999999999999999999", 0, api.ErrRange}, {"-1" + strings.Repeat("0", 300), 0, api.ErrRange},
	} {
		checkRead(t, x.s, x.n, x.e)
	}
}

func TestReadRefusesOtherTexts(t *testing.T) {
	for _, s := range []string{
		"", "-", "--", "--1", "-0", "-00", "00", "007", "-007", "01", "0-", "0x1", "1-", "1-1", "+1", "+", "+0", "-+1",
		" 1", "1 ", "1 2", "\t1", "1\n", "1_000", "1,000", "1.0", "1e3", "a", "1a", "a1", "/", ":", "1/", "1:", "\x001", "1\x00", "\xff", "1\xb2",
		"٣", "1٣", "１", "²", "−1", "Inf", "NaN", "0b1", "0o7", "ä1",
	} {
		checkRead(t, s, 0, api.ErrForm)
	}
}

// A text that is no digits is told so even where what stands ahead of the fault is beyond 64 bits.
func TestFormAheadOfRange(t *testing.T) {
	for _, s := range []string{
		"09223372036854775808", "-09223372036854775808", "9223372036854775808x", "-99999999999999999999-", "99999999999999999999 ",
		strings.Repeat("9", 1000) + "a", strings.Repeat("0", 1000), "-" + strings.Repeat("0", 1000), "00" + strings.Repeat("9", 30),
	} {
		checkRead(t, s, 0, api.ErrForm)
	}
}

func TestReadIsExact(t *testing.T) {
	l := append(texts(5, "-", "0", "1", "9", "+", "x"), longTexts()...)
	for _, n := range numbers() {
		l = append(l, big.NewInt(n).String())
	}
	for _, s := range l {
		switch n := exact(s); {
		case n == nil:
			checkRead(t, s, 0, api.ErrForm)
		case !n.IsInt64():
			checkRead(t, s, 0, api.ErrRange)
		default:
			checkRead(t, s, n.Int64(), api.OK)
		}
	}
}

// Every byte that is no digit spoils a text, wherever it stands; a - only does not at the start.
func TestReadKnowsTenDigits(t *testing.T) {
	for b := range 256 {
		c := string([]byte{byte(b)})
		digit := c >= "0" && c <= "9"
		for _, s := range []string{c, "1" + c, "1" + c + "2", c + "2"} {
			_, e := Read(s)
			want := api.ErrForm
			if digit && (c != "0" || s[0] != '0' || s == "0") || s == "-2" {
				want = api.OK
			}
			if e != want {
				t.Errorf("Read(%q) is %d; want %d", s, e, want)
			}
		}
	}
}

func TestReadLongTexts(t *testing.T) {
	digits := strings.Repeat("123456789", 1<<18)
	checkRead(t, digits, 0, api.ErrRange)
	checkRead(t, "-"+digits, 0, api.ErrRange)
	checkRead(t, "0"+digits, 0, api.ErrForm)
	checkRead(t, digits+"-", 0, api.ErrForm)
}

func TestNat(t *testing.T) {
	for _, x := range []struct {
		s    string
		most int
		n    int
		e    api.Errno
	}{
		{"0", 11, 0, api.OK}, {"1", 11, 1, api.OK}, {"10", 11, 10, api.OK}, {"11", 11, 11, api.OK}, {"12", 11, 0, api.ErrRange}, {"100", 11, 0, api.ErrRange},
		{"0", 0, 0, api.OK}, {"1", 0, 0, api.ErrRange}, {"0", -1, 0, api.ErrRange}, {"-1", -1, 0, api.ErrRange}, {"-5", -1, 0, api.ErrRange}, {"0", math.MinInt, 0, api.ErrRange},
		{"-1", 11, 0, api.ErrRange}, {"-1", math.MaxInt, 0, api.ErrRange}, {"-9223372036854775808", math.MaxInt, 0, api.ErrRange}, {"-9223372036854775808", math.MinInt, 0, api.ErrRange},
		{"65536", api.MaxText, 65536, api.OK}, {"65537", api.MaxText, 0, api.ErrRange}, {"2147483647", 1<<31 - 1, 1<<31 - 1, api.OK}, {"2147483648", 1<<31 - 1, 0, api.ErrRange},
		{"4294967297", 11, 0, api.ErrRange}, {Text(math.MaxInt), math.MaxInt, math.MaxInt, api.OK}, {Text(math.MaxInt), math.MaxInt - 1, 0, api.ErrRange},
		{"9223372036854775808", math.MaxInt, 0, api.ErrRange}, {"-9223372036854775809", 11, 0, api.ErrRange}, {"18446744073709551617", 11, 0, api.ErrRange},
		{"", 11, 0, api.ErrForm}, {"-", 11, 0, api.ErrForm}, {"-0", 11, 0, api.ErrForm}, {"00", 11, 0, api.ErrForm}, {"07", 11, 0, api.ErrForm}, {"x", 11, 0, api.ErrForm},
		{"+1", 11, 0, api.ErrForm}, {"1 ", 11, 0, api.ErrForm}, {"x", -1, 0, api.ErrForm}, {"99999999999999999999x", 11, 0, api.ErrForm},
	} {
		if n, e := Nat(x.s, x.most); n != x.n || e != x.e {
			t.Errorf("Nat(%q, %d) is %d, %d; want %d, %d", x.s, x.most, n, e, x.n, x.e)
		}
	}
}

func TestNatAtEveryMost(t *testing.T) {
	for most := -3; most <= 120; most++ {
		for n := -3; n <= 120; n++ {
			want, e := n, api.OK
			if n < 0 || n > most {
				want, e = 0, api.ErrRange
			}
			if m, f := Nat(Text(int64(n)), most); m != want || f != e {
				t.Errorf("Nat of %d, at most %d, is %d, %d", n, most, m, f)
			}
		}
	}
}

// Promise 2.2.

func TestIndex(t *testing.T) {
	for _, x := range []struct {
		base string
		n    int
		s    string
	}{
		{"h", 0, "h"}, {"h", -1, "h"}, {"h", math.MinInt, "h"}, {"h", 1, "h1"}, {"h", 3, "h3"}, {"h", 10, "h10"}, {"h", 1200, "h1200"},
		{"", 0, ""}, {"", -7, ""}, {"", 1, "1"}, {"", 12, "12"}, {"a0", 12, "a012"}, {"x1", 2, "x12"}, {"x-", 5, "x-5"}, {"-", 5, "-5"},
		{"h", 1<<31 - 1, "h2147483647"}, {"h", 1 << 31, "h2147483648"}, {"h", math.MaxInt, "h" + big.NewInt(math.MaxInt).String()},
		{"a b\x00\xff", 1, "a b\x00\xff1"}, {"a b\x00\xff", 0, "a b\x00\xff"},
	} {
		if s := Index(x.base, x.n); s != x.s {
			t.Errorf("Index(%q, %d) is %q; want %q", x.base, x.n, s, x.s)
		}
	}
}

func checkPart(t *testing.T, s, base string, n int, ok bool) {
	t.Helper()
	if b, m, is := Part(s); b != base || m != n || is != ok {
		t.Errorf("Part(%q) is %q, %d, %v; want %q, %d, %v", s, b, m, is, base, n, ok)
	}
}

func TestPart(t *testing.T) {
	for _, x := range []struct {
		s, base string
		n       int
	}{
		{"h12", "h", 12}, {"h1", "h", 1}, {"h9", "h", 9}, {"h10", "h", 10}, {"h100", "h", 100}, {"a012", "a0", 12}, {"a0012", "a00", 12}, {"012", "0", 12}, {"01", "0", 1},
		{"a102", "a", 102}, {"a1b2", "a1b", 2}, {"a1 2", "a1 ", 2}, {"h\x001", "h\x00", 1}, {"\xff1", "\xff", 1}, {"ä7", "ä", 7}, {"²3", "²", 3},
		{"h2147483646", "h", 1<<31 - 2}, {"h2147483647", "h", 1<<31 - 1}, {"h2147483648", "h2", 147483648}, {"h3000000001", "h300000000", 1},
		{"x99999999999", "x99", 999999999}, {"2147483648", "2", 147483648}, {"99999999999", "99", 999999999}, {"h12147483647", "h1", 1<<31 - 1}, {"h02147483647", "h0", 1<<31 - 1},
		{"-5", "-", 5}, {"a-5", "a-", 5}, {"a--5", "a--", 5}, {"-05", "-0", 5}, {"+5", "+", 5},
	} {
		checkPart(t, x.s, x.base, x.n, true)
	}
}

func TestPartDoesNotSplit(t *testing.T) {
	for _, s := range []string{
		"", "h", "hyp", "a0", "a00", "0", "00", "1", "9", "12", "2147483647", "-", "-0", "a-0", "h ", "12h", "1 ", "h1\n", "h1\x00", "h٣", "²",
		"h10000000000", "h3000000000", "10000000000", "h1" + strings.Repeat("0", 30), strings.Repeat("0", 30),
	} {
		checkPart(t, s, s, 0, false)
	}
}

// split looks for the shortest prefix among all of them.
func split(s string) (string, int, bool) {
	for i := range len(s) + 1 {
		n := exact(s[i:])
		if n == nil || n.Sign() <= 0 || n.Cmp(big.NewInt(1<<31-1)) > 0 {
			continue
		}
		if i == 0 {
			break
		}
		return s[:i], int(n.Int64()), true
	}
	return s, 0, false
}

// manyTexts are the texts that Part is held against: short ones of all kinds, and long ones at the edges.
func manyTexts() []string {
	l := append(texts(6, "h", "0", "1", "9", "-"), longTexts()...)
	for _, n := range numbers() {
		l = append(l, Text(n), "h"+Text(n), "h0"+Text(n), "h00"+Text(n))
	}
	return append(l, texts(4, "0", "00", "2147483647", "2147483648", "999", "h")...)
}

func TestPartFindsTheShortestPrefix(t *testing.T) {
	for _, s := range manyTexts() {
		base, n, ok := split(s)
		checkPart(t, s, base, n, ok)
	}
}

func TestPartLongTexts(t *testing.T) {
	zeros := strings.Repeat("0", 1<<22)
	checkPart(t, "h"+zeros, "h"+zeros, 0, false)
	checkPart(t, "h"+zeros+"7", "h"+zeros, 7, true)
	ones := strings.Repeat("1", 1<<22)
	checkPart(t, ones+"2222222222", ones+"2", 222222222, true)
	checkPart(t, ones, ones[:len(ones)-10], 1111111111, true)
}

// Promise 2.3.

func TestReadInvertsText(t *testing.T) {
	for _, n := range numbers() {
		checkRead(t, Text(n), n, api.OK)
	}
}

func TestTextInvertsRead(t *testing.T) {
	read := 0
	for _, s := range append(texts(6, "-", "0", "1", "7", "+"), longTexts()...) {
		n, e := Read(s)
		if e != api.OK {
			continue
		}
		read++
		if Text(n) != s {
			t.Errorf("Read(%q) is %d, of the text %q", s, n, Text(n))
		}
	}
	if read < 1000 {
		t.Error("only", read, "texts were read")
	}
}

func TestPartInvertsIndex(t *testing.T) {
	l := []int{1, 2, 9, 10, 11, 99, 100, 1<<31 - 2, 1<<31 - 1}
	for n := 1; n <= 1<<31-1-n/7; n += n/7 + 1 {
		l = append(l, n)
	}
	for _, base := range []string{"h", "hyp", "x1y", "-", "a-", "0-", " ", "+", "/", ":", "\x00", "\xff", "h²", "h٣", "12 "} {
		for _, n := range l {
			checkPart(t, Index(base, n), base, n, true)
		}
	}
}

// Where the number, the base or its end is another than promise 2.3 names, Part finds another split or none.
func TestPartDoesNotInvertOtherIndexes(t *testing.T) {
	checkPart(t, Index("h", 0), "h", 0, false)
	checkPart(t, Index("h", -3), "h", 0, false)
	checkPart(t, Index("h", 1<<31), "h2", 147483648, true)
	checkPart(t, Index("", 7), "7", 0, false)
	checkPart(t, Index("h1", 2), "h", 12, true)
	checkPart(t, Index("h0", 2), "h0", 2, true)
}

func TestIndexInvertsPart(t *testing.T) {
	cut := 0
	for _, s := range manyTexts() {
		base, n, ok := Part(s)
		if Index(base, n) != s {
			t.Errorf("Part(%q) is %q and %d, which Index makes %q", s, base, n, Index(base, n))
		}
		if ok {
			cut++
		}
	}
	if cut < 1000 {
		t.Error("only", cut, "texts were split")
	}
}

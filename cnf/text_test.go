package cnf

import (
	"math"
	"slices"
	"strconv"
	"strings"
	"testing"

	"sequitur/api"
	"sequitur/sample"
)

// lines is a text of the lines, each of which ends with a line feed.
func lines(l ...string) string { return strings.Join(append(l, ""), "\n") }

// fails holds Read against an error and its line.
func fails(t *testing.T, s string, at int, e api.Errno) {
	t.Helper()
	checkRead(t, s, api.Cnf{}, at, e)
}

// numerals are n times s with a space between each two of them.
func numerals(n int, s string) string { return strings.Join(slices.Repeat([]string{s}, n), " ") }

// Promise 18.2.

func TestRead(t *testing.T) {
	for s, want := range map[string]api.Cnf{
		"p cnf 0 0\n":            {},
		"p cnf 7 0\n":            set(7),
		"p cnf 0 1\n0\n":         of(0, ";"),
		"p cnf 2 2\n1 -2 0\n0\n": of(2, "1 -2; ;"),
		"p cnf 3 4\n1 -2 1 0\n3 0\n2 -2 0\n-2 1 0\n":      of(3, "1 -2 1; 3; 2 -2; -2 1;"),
		"p cnf 1024 1\n1024 -1024 1000 -10 1 0\n":         of(1024, "1024 -1024 1000 -10 1;"),
		"c\nc a\np cnf 2 1\ncnf\nc 1 0\n-1 2 0\nc\nccc\n": of(2, "-1 2;"),
		"p cnf 12 3\n12 0\n12 0\n-12 0\n":                 of(12, "12; 12; -12;"),
		"p cnf 2 2\n-2 -1 -2 0\n2 2 2 0\n":                of(2, "-2 -1 -2; 2 2 2;"),
	} {
		checkRead(t, s, want, 0, api.OK)
	}
	fails(t, lines("p cnf 1 1", "2 0"), 1, api.ErrArg)
}

// What is missing is told behind the last line, be it ignored or not.
func TestReadEnds(t *testing.T) {
	fails(t, "", 0, api.ErrEnd)
	for n := range 5 {
		ignored := strings.Repeat("c p cnf 0 0\n", n)
		fails(t, ignored, n, api.ErrEnd)
		fails(t, "p cnf 2 1\n"+ignored, n+1, api.ErrEnd)
		fails(t, ignored+"p cnf 2 3\n1 0\n"+ignored+"0\n"+ignored, 3*n+3, api.ErrEnd)
		checkRead(t, ignored+"p cnf 2 3\n1 0\n"+ignored+"0\n"+ignored+"2 0\n"+ignored, of(2, "1; ; 2;"), 0, api.OK)
		for m := n + 1; m < n+3; m++ {
			fails(t, "p cnf 0 "+strconv.Itoa(m)+"\n"+strings.Repeat("0\n", n), n+1, api.ErrEnd)
		}
	}
}

// A line without a line feed is none that can be read, whatever it is.
func TestReadWithoutLineFeed(t *testing.T) {
	for _, s := range []string{"p cnf 1 0", "p cnf 2000 0", "p cnf 0 5000", "p", " ", "x", "0", "c", "c a", "cp cnf 0 0", "\r", "\x00"} {
		fails(t, s, 0, api.ErrForm)
		fails(t, "c\n"+s, 1, api.ErrForm)
		fails(t, "p cnf 1 0\n"+s, 1, api.ErrForm)
		fails(t, "p cnf 1 1\n"+s, 1, api.ErrForm)
		fails(t, "p cnf 1 1\n1 0\n"+s, 2, api.ErrForm)
		fails(t, "p cnf 1 2\n1 0\nc\n"+s, 3, api.ErrForm)
	}
	fails(t, "p cnf 1 1\n1 0", 1, api.ErrForm)
	fails(t, "p cnf 1 1\n2 0", 1, api.ErrForm)
	fails(t, "p cnf 1 1\n"+numerals(65, "1")+" 0", 1, api.ErrForm)
	// A line ahead of it comes first.
	fails(t, "p cnf 1 1\n2 0\n1 0", 1, api.ErrArg)
	fails(t, "p cnf -1 1\n1", 0, api.ErrArg)
	fails(t, "p cnf 1 4097\nc", 0, api.ErrLong)
}

// firstLines are first lines that are none.
func firstLines() []string {
	l := []string{
		"", " ", "p", "p cnf", "p cnf ", "p cnf 1", "p cnf 1 ", "p cnf  1", "p cnf 1 1 ", "p cnf 1 1 1", "p cnf 1 1 0", "p cnf 1 1 x", "p 1 1", "nf 1 1", "1 1", "p 1 1 cnf", "0",
		"P cnf 1 1", "p CNF 1 1", "p Cnf 1 1", "pcnf 1 1", "p cn 1 1", "p cnff 1 1", "q cnf 1 1", "pp cnf 1 1", "p dnf 1 1", "p c 1 1", "x cnf 1 1",
		"p  cnf 1 1", "p cnf  1 1", "p cnf 1  1", "p cnf 1 1  ", " p cnf 1 1", "  p cnf 1 1", "\tp cnf 1 1", "p\tcnf 1 1", "p cnf\t1 1", "p cnf 1\t1", "p cnf 1 1\t", "p cnf 1 1\r", "p cnf 1,1", "p cnf 1 1.", "\ufeffp cnf 1 1", "p cnf 1\u00a01", "p\u00a0cnf 1 1",
		" c", "\tc", "C", "1 c", "\xff", "\x00", "p cnf 1 1\x00",
	}
	for _, n := range []string{"+1", "-0", "--1", "-", "+", "01", "00", "-01", "1-", "1_0", "1e3", "0x1", "1.0", "x", "1x", "x1", "٣", "１", "9223372036854775808", "-9223372036854775809", "18446744073709551617", "99999999999999999999", "1" + strings.Repeat("0", 100)} {
		l = append(l, "p cnf "+n+" 1", "p cnf 1 "+n, "p cnf "+n+" "+n, "p cnf "+n+" 5000", "p cnf 2000 "+n)
	}
	for _, n := range []string{"-1", "-2", "-4097", "-9223372036854775808"} {
		l = append(l, "p cnf 1 "+n, "p cnf -1 "+n, "p cnf 2000 "+n, "p cnf 0 "+n)
	}
	return l
}

func TestReadFirstLine(t *testing.T) {
	for _, s := range firstLines() {
		fails(t, lines(s), 0, api.ErrForm)
		fails(t, lines("c", "c p cnf 1 0", s), 2, api.ErrForm)
		fails(t, lines(s, "p cnf 1 1", "1 0"), 0, api.ErrForm)
		fails(t, lines(s, "c", "x"), 0, api.ErrForm)
	}
}

// Of the numbers, what is no number comes first, then N, then M.
func TestReadNumbersOfTheFirstLine(t *testing.T) {
	at := func(n, m int64) string {
		return lines("c", "p cnf "+strconv.FormatInt(n, 10)+" "+strconv.FormatInt(m, 10))
	}
	for _, n := range []int64{math.MinInt64, -1024, -2, -1, 1025, 1026, 2000, 1 << 32, 1<<32 + 1, math.MaxInt64} {
		for _, m := range []int64{0, 1, 4096, 4097, 1 << 32, math.MaxInt64} {
			fails(t, at(n, m), 1, api.ErrArg)
		}
		for _, m := range []int64{-1, -4097, math.MinInt64} {
			fails(t, at(n, m), 1, api.ErrForm)
		}
	}
	for _, n := range []int64{0, 1, 5, 1023, 1024} {
		for _, m := range []int64{4097, 4098, 5000, 1 << 32, 1<<32 + 1, math.MaxInt64} {
			fails(t, at(n, m), 1, api.ErrLong)
		}
		for _, m := range []int64{1, 2, 4095, 4096} {
			fails(t, at(n, m), 2, api.ErrEnd)
			checkRead(t, at(n, m)+strings.Repeat("0\n", int(m)), set(int(n), many(int(m), nil)...), 0, api.OK)
		}
		for _, m := range []int64{-1, math.MinInt64} {
			fails(t, at(n, m), 1, api.ErrForm)
		}
		checkRead(t, at(n, 0), set(int(n)), 0, api.OK)
	}
}

// clauseLines are lines of clauses that are none, of the variable 1.
func clauseLines() []string {
	l := []string{
		"", " ", "1", "-1", "1 1", "1 -1 1", "0 0", "0 1", "0 1 0", "1 0 0", "1 0 1 0", "0 0 0", "1 0 1", "x", "p", "p cnf 1 1", "p cnf 1 0",
		" 0", "0 ", " 1 0", "1 0 ", "1  0", "1   0", "  ", "1 1  0", "1  1 0", "\t0", "0\t", "1\t0", "0\r", "1 0\r", "1,0", "1 0.", "1 c 0", " c", "10", "-10", "1 00", "1 -0", "-0", "00", "1\u00a00", "1 0\x00", "\x000", "\xff 0",
	}
	for _, n := range []string{"+1", "-0", "--1", "-", "+", "01", "00", "-01", "1-", "1_0", "1e3", "0x1", "1.0", "x", "1x", "x1", "٣", "9223372036854775808", "-9223372036854775809", "18446744073709551617", "99999999999999999999", "1" + strings.Repeat("0", 100)} {
		l = append(l, n, n+" 0", "1 "+n+" 0", n+" -1 0", "1 "+n, "2 "+n+" 0", "0 "+n)
	}
	return l
}

func TestReadClauseLine(t *testing.T) {
	for _, s := range clauseLines() {
		fails(t, lines("p cnf 1 1", s), 1, api.ErrForm)
		fails(t, lines("p cnf 1 3", "1 0", "c", s), 3, api.ErrForm)
		fails(t, lines("c", "p cnf 1 2", "c", s, "1 0", "0"), 3, api.ErrForm)
		fails(t, lines("p cnf 1 0", s), 1, api.ErrForm)
		fails(t, lines("p cnf 1 1", "1 0", s), 2, api.ErrForm)
		// What is none is told ahead of what is no clause of the variables, or too long a one.
		fails(t, lines("p cnf 0 1", s), 1, api.ErrForm)
		fails(t, lines("p cnf 1 1", numerals(70, "-1")+" "+s+" x"), 1, api.ErrForm)
	}
}

// More lines than M are none, be they right or not.
func TestReadTooManyClauses(t *testing.T) {
	for m := range 5 {
		text := "p cnf 1 " + strconv.Itoa(m) + "\n" + strings.Repeat("1 0\n", m)
		for _, s := range []string{"0", "1 0", "-1 1 0", "2 0", "0 0", "", "x", numerals(65, "1") + " 0", "p cnf 1 1"} {
			fails(t, text+lines(s), m+1, api.ErrForm)
			fails(t, text+lines("c", "c", s), m+3, api.ErrForm)
			fails(t, text+lines("c", s, "0", "c"), m+2, api.ErrForm)
		}
		checkRead(t, text+lines("c 1 0", "c"), set(1, many(m, []int{1})...), 0, api.OK)
	}
}

func TestReadWrongClauses(t *testing.T) {
	clauses, errors := wrongClauses()
	for i, c := range clauses {
		if slices.Contains(c, 0) {
			continue
		}
		s := strings.TrimPrefix(wantText(set(64, c)), "p cnf 64 1\n")
		fails(t, "p cnf 64 1\n"+s, 1, errors[i])
		fails(t, "c\np cnf 64 2\nc\n"+s+"1 0\n", 3, errors[i])
		fails(t, "p cnf 64 4\n1 0\n"+s+"0 0\n", 2, errors[i])
		fails(t, "p cnf 64 3\n1 0\nc\n0\nc\n"+s+"c\n", 5, errors[i])
		fails(t, "p cnf 64 1\n1 0\n"+s, 2, api.ErrForm)
	}
	for _, n := range []string{"0", "1", "2", "1023", "1024"} {
		k, _ := strconv.Atoi(n)
		for _, l := range []int{k, -k} {
			if k > 0 {
				checkRead(t, lines("p cnf "+n+" 1", strconv.Itoa(l)+" 0"), set(k, []int{l}), 0, api.OK)
			}
		}
		for _, l := range []int{k + 1, -k - 1, greatest, -greatest, lowest} {
			fails(t, lines("p cnf "+n+" 2", "0", strconv.Itoa(l)+" 0"), 2, api.ErrArg)
		}
	}
}

func TestReadAtTheLimit(t *testing.T) {
	for _, n := range []int{63, 64} {
		checkRead(t, lines("p cnf 1 1", numerals(n, "-1")+" 0"), set(1, slices.Repeat([]int{-1}, n)), 0, api.OK)
		fails(t, lines("p cnf 0 1", numerals(n, "-1")+" 0"), 1, api.ErrArg)
		fails(t, lines("p cnf 1 1", numerals(n, "-1")), 1, api.ErrForm)
	}
	for _, n := range []int{65, 66, 1000} {
		fails(t, lines("p cnf 1 1", numerals(n, "-1")+" 0"), 1, api.ErrLong)
		fails(t, lines("p cnf 0 1", numerals(n, "-1")+" 0"), 1, api.ErrLong)
		fails(t, lines("p cnf 1 1", numerals(n, "-1")), 1, api.ErrForm)
		fails(t, lines("p cnf 1 1", numerals(n, "-1")+" 0 0"), 1, api.ErrForm)
		fails(t, lines("p cnf 1 1", numerals(n, "-1")+" 99999999999999999999 0"), 1, api.ErrForm)
	}
	c := set(1024)
	for i := range 4096 {
		c.L = append(c.L, slices.Repeat([]int{-1024, 1 + i%1024}, 32))
	}
	s := wantText(c)
	checkRight(t, c, 0, api.OK)
	checkRead(t, s, c, 0, api.OK)
	checkRead(t, strings.ReplaceAll(s, "\n", "\nc\n"), c, 0, api.OK)
	fails(t, s+"0\n", 4097, api.ErrForm)
	fails(t, s[:strings.LastIndex(s, "-1024 1024 ")], 4096, api.ErrForm)
	fails(t, s[:len(s)-1], 4096, api.ErrForm)
	c.L = c.L[:4095]
	fails(t, "p cnf 1024 4096\n"+strings.TrimPrefix(wantText(c), "p cnf 1024 4095\n"), 4096, api.ErrEnd)
}

// followAll holds Read against the chapter for all texts, and tells how often each error was found.
func followAll(t *testing.T, found map[api.Errno]int, texts ...string) {
	t.Helper()
	for _, s := range texts {
		found[followRead(t, s)]++
		if t.Failed() {
			return
		}
	}
}

// joined are the texts of lists of parts.
func joined(lists [][]string) []string {
	var l []string
	for _, parts := range lists {
		l = append(l, strings.Join(parts, ""))
	}
	return l
}

// All texts of few lines follow the chapter, also those of which the last line is not ended.
func TestTextsOfFewLines(t *testing.T) {
	found := map[api.Errno]int{}
	texts := joined(sample.Choices(4, "p cnf 1 1\n", "p cnf 2 2\n", "p cnf 1 0\n", "p cnf 1025 5000\n", "p cnf 1 4097\n", "c\n", "1 0\n", "-2 0\n", "0\n", "1 -1 2 0\n", "\n", "2 1\n"))
	for _, s := range texts {
		followAll(t, found, s)
		if s != "" && len(s) < 30 {
			followAll(t, found, s[:len(s)-1])
		}
	}
	if l := sample.Rare(found, 20, api.OK, api.ErrArg, api.ErrLong, api.ErrForm, api.ErrEnd); len(l) > 0 {
		t.Error(found)
	}
}

// All lines of few parts follow the chapter as the first line and as that of a clause.
func TestLinesOfFewParts(t *testing.T) {
	found := map[api.Errno]int{}
	first := joined(sample.Choices(6, "p", " ", "cnf", "0", "1", "-"))
	for _, s := range first {
		followAll(t, found, s+"\n0\n")
	}
	for _, s := range joined(sample.Choices(4, " ", "0", "1", "-", "4096", "4097", "1024", "1025", "x")) {
		followAll(t, found, "p cnf "+s+"\n")
	}
	for _, s := range joined(sample.Choices(6, " ", "0", "1", "-", "2", "c")) {
		followAll(t, found, "p cnf 1 1\n"+s+"\n")
	}
	if l := sample.Rare(found, 10, api.OK, api.ErrArg, api.ErrLong, api.ErrForm, api.ErrEnd); len(l) > 0 {
		t.Error(found)
	}
}

// Every byte at every place of a text, in place of another one or between two, and every text without some of its bytes follows the chapter.
func TestEveryByteAtEveryPlace(t *testing.T) {
	found := map[api.Errno]int{}
	for _, s := range []string{"c p\np cnf 12 2\n-12 1 0\nc\n2 0\n", "p cnf 1 1\n0\n"} {
		for i := range len(s) + 1 {
			for b := range 256 {
				c := string([]byte{byte(b)})
				followAll(t, found, s[:i]+c+s[i:])
				if i < len(s) {
					followAll(t, found, s[:i]+c+s[i+1:])
				}
			}
			for j := i; j <= len(s); j++ {
				followAll(t, found, s[:i]+s[j:], s[:j]+s[i:])
			}
		}
	}
	if l := sample.Rare(found, 50, api.OK, api.ErrArg, api.ErrForm, api.ErrEnd); len(l) > 0 {
		t.Error(found)
	}
}

// Texts of scattered sets, right and wrong ones, with ignored lines and with changes follow the chapter.
func TestScatteredTexts(t *testing.T) {
	next := sample.Scattered(123456789123456789)
	found := map[api.Errno]int{}
	bits := []string{"c", "c 0\n", "\n", " ", "0", "1", "-", "9", " 0\n", "p cnf 3 3\n", "", "", "64", "1025", "4097", "99999999999999999999"}
	for range 20000 {
		s := wantText(sample.WildSet(next, 1+next(3), 6, 4))
		switch next(4) {
		case 0:
			s = strings.ReplaceAll(s, "\n", "\n"+bits[1])
		case 1:
			s = wantText(sample.WildSet(next, 3, 6, 4, 4, -5, lowest, 0))
		}
		for range next(3) {
			i := next(len(s) + 1)
			s = s[:i] + bits[next(len(bits))] + s[min(len(s), i+next(3)):]
		}
		followAll(t, found, s)
	}
	if l := sample.Rare(found, 100, api.OK, api.ErrArg, api.ErrForm, api.ErrEnd); len(l) > 0 {
		t.Error(found)
	}
}

// Promise 18.4, of texts.

// What is written is read as it was, also with lines between that are ignored.
func TestReadInvertsText(t *testing.T) {
	next := sample.Scattered(987654321987654321)
	n := 0
	all := sets(3)
	for range 5000 {
		all = append(all, sample.WildSet(next, 1+next(1024), 9, 64))
	}
	for _, c := range all {
		s, e := Text(c)
		if e != api.OK {
			continue
		}
		n++
		checkRead(t, s, c, 0, api.OK)
		checkRead(t, "c\n"+strings.ReplaceAll(s, "\n", "\nc 1 0\ncnf\n"), c, 0, api.OK)
		if d, _, _ := Read(s); !Same(c, d) {
			t.Error(s)
		}
	}
	if n < 5300 {
		t.Error(n)
	}
}

// What is read is right, and its text is what was read, but for the lines that are ignored.
func TestWhatIsReadIsRight(t *testing.T) {
	read := 0
	for _, s := range joined(sample.Choices(5, "p cnf 1 1\n", "p cnf 2 2\n", "c\n", "0\n", "1 0\n", "-2 2 1 0\n", "2 -1 2 0\n")) {
		c, _, e := Read(s)
		if e != api.OK {
			continue
		}
		read++
		checkRight(t, c, 0, api.OK)
		if again, _ := Text(c); again != strings.ReplaceAll(s, "c\n", "") {
			t.Errorf("%q is read, but written as %q", s, again)
		}
	}
	if read < 100 {
		t.Error(read)
	}
}

// What holds for all layers.

// Every text ends, also one far longer than that of any right set.
func TestLongTexts(t *testing.T) {
	const n = 1 << 20
	fails(t, strings.Repeat("c\n", n), n, api.ErrEnd)
	fails(t, strings.Repeat("c", n), 0, api.ErrForm)
	fails(t, strings.Repeat("\n", n), 0, api.ErrForm)
	fails(t, strings.Repeat(" ", n)+"\n", 0, api.ErrForm)
	fails(t, strings.Repeat("9", n), 0, api.ErrForm)
	checkRead(t, strings.Repeat("c\n", n)+"p cnf 1 1\n"+strings.Repeat("c 0\n", n)+"-1 0\n"+strings.Repeat("c\n", n), set(1, []int{-1}), 0, api.OK)
	fails(t, strings.Repeat("c\n", n)+"p cnf 1 1\n"+strings.Repeat("c\n", n)+"2 0\n", 2*n+1, api.ErrArg)
	fails(t, "p cnf 1 4096\n"+strings.Repeat("0\n", n), 4097, api.ErrForm)
	fails(t, "p cnf 1 1\n"+strings.Repeat("1 ", n)+"0\n", 1, api.ErrLong)
	fails(t, "p cnf 1 1\n"+strings.Repeat("1 ", n)+"\n", 1, api.ErrForm)
	fails(t, "p cnf 1 1\n"+strings.Repeat("0 ", n)+"0\n", 1, api.ErrForm)
	fails(t, "p cnf 1 1\n"+strings.Repeat("7", n)+" 0\n", 1, api.ErrForm)
	fails(t, "p cnf 1 "+strings.Repeat("7", n)+"\n", 0, api.ErrForm)
	fails(t, "p cnf "+numerals(n, "1")+"\n", 0, api.ErrForm)
}

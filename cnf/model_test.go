package cnf

import (
	"fmt"
	"regexp"
	"slices"
	"strconv"
	"strings"
	"testing"

	"sequitur/api"
	"sequitur/lit"
	"sequitur/sample"
)

// What the chapter says, word by word, with nothing of the package in it.

func wantRight(c api.Cnf) (int, api.Errno) {
	if c.N < 0 || c.N > 1024 {
		return -1, 1
	}
	if len(c.L) > 4096 {
		return -1, 2
	}
	for i, clause := range c.L {
		if e := lit.Right(clause, c.N); e != 0 {
			return i, e
		}
	}
	return 0, 0
}

func wantText(c api.Cnf) string {
	s := []string{fmt.Sprintf("p cnf %d %d\n", c.N, len(c.L))}
	for _, clause := range c.L {
		for _, l := range clause {
			s = append(s, fmt.Sprint(l), " ")
		}
		s = append(s, "0\n")
	}
	return strings.Join(s, "")
}

var (
	firstLine  = regexp.MustCompile(`^p cnf (0|-?[1-9][0-9]*) (0|-?[1-9][0-9]*)\n$`)
	clauseLine = regexp.MustCompile(`^(-?[1-9][0-9]* )*0\n$`)
)

// wantParsed are the numbers that l has the digits of, and whether all of them are of 64 bits.
func wantParsed(l []string) ([]int, bool) {
	var numbers []int
	for _, s := range l {
		n, err := strconv.ParseInt(s, 10, 64)
		if err != nil {
			return nil, false
		}
		numbers = append(numbers, int(n))
	}
	return numbers, true
}

// wantFirst are N and M of the first line that is not ignored.
func wantFirst(line string) (int, int, api.Errno) {
	found := firstLine.FindStringSubmatch(line)
	if found == nil {
		return 0, 0, 7
	}
	l, ok := wantParsed(found[1:])
	switch {
	case !ok || l[1] < 0:
		return 0, 0, 7
	case l[0] < 0 || l[0] > 1024:
		return 0, 0, 1
	case l[1] > 4096:
		return 0, 0, 2
	}
	return l[0], l[1], 0
}

// wantClause is the clause of a further line that is not ignored.
func wantClause(line string, n int) ([]int, api.Errno) {
	if !clauseLine.MatchString(line) {
		return nil, 7
	}
	l, ok := wantParsed(strings.Fields(line))
	if !ok {
		return nil, 7
	}
	l = l[:len(l)-1]
	return l, lit.Right(l, n)
}

func wantRead(s string) (api.Cnf, int, api.Errno) {
	lines := strings.SplitAfter(s, "\n")
	if lines[len(lines)-1] == "" {
		lines = lines[:len(lines)-1]
	}
	c, m := api.Cnf{}, -1
	for i, line := range lines {
		var e api.Errno
		var clause []int
		switch {
		case !strings.HasSuffix(line, "\n"):
			e = 7
		case line[0] == 'c':
		case m < 0:
			c.N, m, e = wantFirst(line)
		case len(c.L) == m:
			e = 7
		default:
			clause, e = wantClause(line, c.N)
			c.L = append(c.L, clause)
		}
		if e != 0 {
			return api.Cnf{}, i, e
		}
	}
	if m < 0 || len(c.L) < m {
		return api.Cnf{}, len(lines), 8
	}
	return c, 0, 0
}

func wantHolds(c api.Cnf, values []bool) (int, bool) {
	for i, clause := range c.L {
		if !lit.Holds(clause, values) {
			return i, false
		}
	}
	return 0, true
}

func wantClean(c api.Cnf) api.Cnf {
	r := api.Cnf{N: c.N}
	for _, clause := range c.L {
		clean, ok := lit.Clean(clause)
		known := slices.ContainsFunc(r.L, func(l []int) bool { return lit.Same(l, clause) })
		if ok && !known {
			r.L = append(r.L, clean)
		}
	}
	return r
}

func wantAdd(c api.Cnf, l [][]int) api.Cnf {
	r := api.Cnf{N: c.N}
	for _, clause := range append(slices.Clip(c.L), l...) {
		r.L = append(r.L, append([]int{}, clause...))
	}
	return r
}

// wantVars inserts the variables one by one, each where it belongs.
func wantVars(c api.Cnf) []int {
	var vars []int
	for _, clause := range c.L {
		for _, l := range clause {
			if !lit.Has(clause, l) {
				continue
			}
			if l < 0 {
				l = -l
			}
			if i, ok := slices.BinarySearch(vars, l); !ok {
				vars = slices.Insert(vars, i, l)
			}
		}
	}
	return vars
}

func wantSame(a, b api.Cnf) bool {
	if a.N != b.N || len(a.L) != len(b.L) {
		return false
	}
	for i := range a.L {
		if !lit.Same(a.L[i], b.L[i]) {
			return false
		}
	}
	return true
}

// Each check holds a call against what it is to answer, and against changed arguments and shared memory.

func stays(t *testing.T, call func(), arguments sample.Data) {
	t.Helper()
	if said := arguments.Changed(call); said != "" {
		t.Error(said)
	}
}

// isSet holds a set that a call answers against the one it is to be.
func isSet(t *testing.T, call func() api.Cnf, want api.Cnf, arguments sample.Data) {
	t.Helper()
	answer := func() sample.Data { return sample.Sets(call()) }
	if said := sample.Wrong(answer, sample.Sets(want), arguments); said != "" {
		t.Error(said)
	}
}

// checkRight holds Right and Text against the error of c, and Text against the text if there is none.
func checkRight(t *testing.T, c api.Cnf, at int, e api.Errno) {
	t.Helper()
	var place int
	var s string
	var f, g api.Errno
	stays(t, func() {
		place, f = Right(c)
		s, g = Text(c)
	}, sample.Sets(c))
	if place != at || f != e {
		t.Errorf("Right(%s) is %d, %d; want %d, %d", sample.SetText(c), place, f, at, e)
	}
	want := ""
	if e == 0 {
		want = wantText(c)
	}
	if s != want || g != e {
		t.Errorf("Text(%s) is %.200q, %d; want %.200q, %d", sample.SetText(c), s, g, want, e)
	}
}

func checkRead(t *testing.T, s string, want api.Cnf, at int, e api.Errno) {
	t.Helper()
	var place int
	var f api.Errno
	isSet(t, func() (c api.Cnf) { c, place, f = Read(s); return c }, want, sample.Data{})
	if place != at || f != e {
		t.Errorf("Read(%.200q) is at %d, %d; want %d, %d", s, place, f, at, e)
	}
}

func checkHolds(t *testing.T, c api.Cnf, values []bool, at int, is bool) {
	t.Helper()
	var place int
	var ok bool
	stays(t, func() { place, ok = Holds(c, values) }, sample.Sets(c).With(sample.Values(values)))
	if place != at || ok != is {
		t.Errorf("Holds(%s; %s) is %d, %v; want %d, %v", sample.SetText(c), sample.ValuesText(values), place, ok, at, is)
	}
}

func checkClean(t *testing.T, c, want api.Cnf) {
	t.Helper()
	isSet(t, func() api.Cnf { return Clean(c) }, want, sample.Sets(c))
}

func checkAdd(t *testing.T, c api.Cnf, l [][]int, want api.Cnf) {
	t.Helper()
	isSet(t, func() api.Cnf { return Add(c, l...) }, want, sample.Sets(c, sample.Set(0, l...)))
}

func checkVars(t *testing.T, c api.Cnf, want ...int) {
	t.Helper()
	answer := func() sample.Data { return sample.Clauses(Vars(c)) }
	if said := sample.Wrong(answer, sample.Clauses(want), sample.Sets(c)); said != "" {
		t.Error(said)
	}
}

// checkSame takes both orders, as neither set comes first in what Same tells.
func checkSame(t *testing.T, a, b api.Cnf, want bool) {
	t.Helper()
	var is, back bool
	stays(t, func() { is, back = Same(a, b), Same(b, a) }, sample.Sets(a, b))
	if is != want || back != want {
		t.Errorf("Same(%s; %s) is %v, and %v the other way round", sample.SetText(a), sample.SetText(b), is, back)
	}
}

// Each follow holds a call against what the chapter says.

// followRight tells which error the chapter wants.
func followRight(t *testing.T, c api.Cnf) api.Errno {
	t.Helper()
	at, e := wantRight(c)
	checkRight(t, c, at, e)
	return e
}

// followRead tells which error the chapter wants.
func followRead(t *testing.T, s string) api.Errno {
	t.Helper()
	c, at, e := wantRead(s)
	checkRead(t, s, c, at, e)
	return e
}

// followSet holds the calls of one set but Right and Text against the chapter.
func followSet(t *testing.T, c api.Cnf) {
	t.Helper()
	checkClean(t, c, wantClean(c))
	checkVars(t, c, wantVars(c)...)
}

func followHolds(t *testing.T, c api.Cnf, values []bool) {
	t.Helper()
	at, ok := wantHolds(c, values)
	checkHolds(t, c, values, at, ok)
}

func followAdd(t *testing.T, c api.Cnf, l [][]int) {
	t.Helper()
	checkAdd(t, c, l, wantAdd(c, l))
}

func followSame(t *testing.T, a, b api.Cnf) {
	t.Helper()
	checkSame(t, a, b, wantSame(a, b))
}

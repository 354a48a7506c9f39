package lit

import (
	"math"
	"slices"
	"testing"

	"sequitur/api"
	"sequitur/sample"
)

const (
	lowest   = math.MinInt
	greatest = math.MaxInt
)

// What the chapter says, word by word, with nothing of the package in it.

func wantLiteral(l int) bool { return l != 0 && l != lowest }

func wantVariable(l int) int {
	if l < 0 {
		return -l
	}
	return l
}

func wantRight(c []int, n int) api.Errno {
	if len(c) > 64 {
		return 2
	}
	for _, l := range c {
		if !wantLiteral(l) || wantVariable(l) > n {
			return 1
		}
	}
	return 0
}

func wantHas(c []int, l int) bool {
	for _, x := range c {
		if x == l && wantLiteral(x) {
			return true
		}
	}
	return false
}

// wantAhead tells whether the literal k stands ahead of the literal l.
func wantAhead(k, l int) bool {
	if wantVariable(k) == wantVariable(l) {
		return k < 0 && l > 0
	}
	return wantVariable(k) < wantVariable(l)
}

func wantClean(c []int) ([]int, bool) {
	var r []int
	ok := true
	for _, l := range c {
		if !wantLiteral(l) || wantHas(r, l) {
			continue
		}
		ok = ok && !wantHas(r, -l)
		i := 0
		for i < len(r) && wantAhead(r[i], l) {
			i++
		}
		r = slices.Insert(r, i, l)
	}
	return r, ok
}

func wantWithin(a, b []int) bool {
	for _, l := range a {
		if wantLiteral(l) && !wantHas(b, l) {
			return false
		}
	}
	return true
}

func wantSame(a, b []int) bool {
	for _, l := range slices.Concat(a, b) {
		if wantHas(a, l) != wantHas(b, l) {
			return false
		}
	}
	return true
}

func wantPivot(a, b []int) (int, bool) {
	found := map[int]bool{}
	for _, l := range a {
		if wantLiteral(l) && wantHas(b, -l) {
			found[wantVariable(l)] = true
		}
	}
	for v := range found {
		if len(found) == 1 {
			return v, true
		}
	}
	return 0, false
}

func wantResolve(a, b []int, v int) ([]int, api.Errno) {
	if !wantLiteral(v) || !wantHas(a, v) || !wantHas(b, -v) {
		return nil, 1
	}
	var rest []int
	for _, l := range a {
		if l != v {
			rest = append(rest, l)
		}
	}
	for _, l := range b {
		if l != -v {
			rest = append(rest, l)
		}
	}
	r, ok := wantClean(rest)
	if !ok {
		return nil, 4
	}
	return r, 0
}

// wantValues is how many literals of c hold, with multiplicity.
func wantValues(c []int, values []bool) int {
	n := 0
	for i, value := range values {
		for _, l := range c {
			if value && l == i+1 || !value && l == -i-1 {
				n++
			}
		}
	}
	return n
}

// Each check holds a call against what it is to answer, and against changed arguments and shared memory.

func stays(t *testing.T, call func(), c ...[]int) {
	t.Helper()
	if said := sample.Clauses(c...).Changed(call); said != "" {
		t.Error(said)
	}
}

// isList holds a list that a call answers against the one it is to be.
func isList(t *testing.T, call func() []int, want []int, c ...[]int) {
	t.Helper()
	answer := func() sample.Data { return sample.Clauses(call()) }
	if said := sample.Wrong(answer, sample.Clauses(want), sample.Clauses(c...)); said != "" {
		t.Error(said)
	}
}

func checkRight(t *testing.T, c []int, n int, want api.Errno) {
	t.Helper()
	var e api.Errno
	stays(t, func() { e = Right(c, n) }, c)
	if e != want {
		t.Errorf("Right(%s, %d) is %d; want %d", sample.ClauseText(c), n, e, want)
	}
}

func checkClean(t *testing.T, c, want []int, is bool) {
	t.Helper()
	var ok bool
	isList(t, func() (l []int) { l, ok = Clean(c); return l }, want, c)
	if ok != is {
		t.Errorf("Clean(%s) is %v", sample.ClauseText(c), ok)
	}
}

func checkHas(t *testing.T, c []int, l int, want bool) {
	t.Helper()
	var is bool
	stays(t, func() { is = Has(c, l) }, c)
	if is != want {
		t.Errorf("Has(%s, %d) is %v", sample.ClauseText(c), l, is)
	}
}

func checkWithin(t *testing.T, a, b []int, want bool) {
	t.Helper()
	var is bool
	stays(t, func() { is = Within(a, b) }, a, b)
	if is != want {
		t.Errorf("Within(%s; %s) is %v", sample.ClauseText(a), sample.ClauseText(b), is)
	}
}

// checkSame takes both orders, as none of the two lists comes first in what Same tells.
func checkSame(t *testing.T, a, b []int, want bool) {
	t.Helper()
	var is, back bool
	stays(t, func() { is, back = Same(a, b), Same(b, a) }, a, b)
	if is != want || back != want {
		t.Errorf("Same(%s; %s) is %v, and %v the other way round", sample.ClauseText(a), sample.ClauseText(b), is, back)
	}
}

// checkPivot takes both orders, as a variable has two opposites either way.
func checkPivot(t *testing.T, a, b []int, want int, is bool) {
	t.Helper()
	var v, back int
	var ok, also bool
	stays(t, func() {
		v, ok = Pivot(a, b)
		back, also = Pivot(b, a)
	}, a, b)
	if v != want || ok != is || back != want || also != is {
		t.Errorf("Pivot(%s; %s) is %d, %v, and %d, %v the other way round; want %d, %v", sample.ClauseText(a), sample.ClauseText(b), v, ok, back, also, want, is)
	}
}

// checkResolve takes both orders, the other one by the opposite.
func checkResolve(t *testing.T, a, b []int, v int, want []int, e api.Errno) {
	t.Helper()
	var f, g api.Errno
	isList(t, func() (l []int) { l, f = Resolve(a, b, v); return l }, want, a, b)
	isList(t, func() (l []int) { l, g = Resolve(b, a, -v); return l }, want, a, b)
	if f != e || g != e {
		t.Errorf("Resolve(%s; %s) by %d is %d, and %d the other way round; want %d", sample.ClauseText(a), sample.ClauseText(b), v, f, g, e)
	}
}

// checkValues holds Holds and Count against how many literals hold.
func checkValues(t *testing.T, c []int, values []bool, want int) {
	t.Helper()
	var is bool
	var n int
	if said := sample.Clauses(c).With(sample.Values(values)).Changed(func() { is, n = Holds(c, values), Count(c, values) }); said != "" {
		t.Error(said)
	}
	if is != (want > 0) || n != want {
		t.Errorf("Holds(%s; %s) is %v, Count %d; want %d", sample.ClauseText(c), sample.ValuesText(values), is, n, want)
	}
}

// Each follow holds a call against what the chapter says.

func followRight(t *testing.T, c []int, n int) {
	t.Helper()
	checkRight(t, c, n, wantRight(c, n))
}

func followClean(t *testing.T, c []int) {
	t.Helper()
	want, ok := wantClean(c)
	checkClean(t, c, want, ok)
}

// followPair holds all calls of two lists but Resolve against the chapter.
func followPair(t *testing.T, a, b []int) {
	t.Helper()
	checkWithin(t, a, b, wantWithin(a, b))
	checkSame(t, a, b, wantSame(a, b))
	v, ok := wantPivot(a, b)
	checkPivot(t, a, b, v, ok)
}

// followResolve tells which error the chapter wants.
func followResolve(t *testing.T, a, b []int, v int) api.Errno {
	t.Helper()
	want, e := wantResolve(a, b, v)
	checkResolve(t, a, b, v, want, e)
	return e
}

func followValues(t *testing.T, c []int, values []bool) {
	t.Helper()
	checkValues(t, c, values, wantValues(c, values))
}

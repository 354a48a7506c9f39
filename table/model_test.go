package table

import (
	"slices"
	"testing"

	"sequitur/api"
	"sequitur/cnf"
	"sequitur/lit"
	"sequitur/sample"
)

// What the chapter says, word by word, with nothing of the package in it.

// power is 2^n.
func power(n int) int {
	p := 1
	for range n {
		p *= 2
	}
	return p
}

func wantValues(n, at int) []bool {
	if n < 0 || n > 16 || at < 0 || at > power(n)-1 {
		return nil
	}
	var values []bool
	for range n {
		values = append(values, at%2 == 1)
		at /= 2
	}
	return values
}

// wantLiteral tells whether l holds under the assignment with the number at.
func wantLiteral(l, at int) bool {
	if l < 0 {
		return at/power(-l-1)%2 == 0
	}
	return at/power(l-1)%2 == 1
}

func wantClause(clause []int, at int) bool {
	return slices.ContainsFunc(clause, func(l int) bool { return wantLiteral(l, at) })
}

func wantSet(c api.Cnf, at int) bool {
	return !slices.ContainsFunc(c.L, func(clause []int) bool { return !wantClause(clause, at) })
}

func wantError(c api.Cnf) api.Errno {
	_, e := cnf.Right(c)
	if e == 0 && c.N > 16 {
		e = 2
	}
	return e
}

// wantNumbers are the numbers of the assignments under which all clauses of c hold.
func wantNumbers(c api.Cnf) []int {
	var l []int
	for at := 0; wantError(c) == 0 && at < power(c.N); at++ {
		if wantSet(c, at) {
			l = append(l, at)
		}
	}
	return l
}

func wantImplies(c api.Cnf, clause []int) (bool, api.Errno) {
	if _, e := cnf.Right(c); e != 0 {
		return false, e
	}
	if e := lit.Right(clause, c.N); e != 0 {
		return false, e
	}
	if c.N > 16 {
		return false, 2
	}
	for at := range power(c.N) {
		if wantSet(c, at) && !wantClause(clause, at) {
			return false, 0
		}
	}
	return true, 0
}

func wantEqual(a, b api.Cnf) (bool, api.Errno) {
	if _, e := cnf.Right(a); e != 0 {
		return false, e
	}
	if _, e := cnf.Right(b); e != 0 {
		return false, e
	}
	if a.N != b.N {
		return false, 1
	}
	if a.N > 16 {
		return false, 2
	}
	return slices.Equal(wantNumbers(a), wantNumbers(b)), 0
}

// Each check holds calls against what they are to answer, and against changed arguments and shared memory.

// isData holds the values that a call answers against those they are to be.
func isData(t *testing.T, call func() [][]bool, want [][]bool, arguments sample.Data) {
	t.Helper()
	answer := func() sample.Data { return sample.Values(call()...) }
	if said := sample.Wrong(answer, sample.Values(want...), arguments); said != "" {
		t.Error(said)
	}
}

func stays(t *testing.T, call func(), arguments sample.Data) {
	t.Helper()
	if said := arguments.Changed(call); said != "" {
		t.Error(said)
	}
}

func checkValues(t *testing.T, n, at int, want ...bool) {
	t.Helper()
	isData(t, func() [][]bool { return [][]bool{Values(n, at), Values(n, at)} }, [][]bool{want, want}, sample.Data{})
}

// checkSet holds First, Count and All against the numbers of all assignments under which c holds, or against the error.
func checkSet(t *testing.T, c api.Cnf, e api.Errno, numbers ...int) {
	t.Helper()
	all := make([][]bool, len(numbers))
	for i, at := range numbers {
		all[i] = wantValues(c.N, at)
	}
	isData(t, func() [][]bool { return slices.Collect(All(c)) }, all, sample.Sets(c))
	first := [][]bool{nil}
	if len(all) > 0 {
		first = all[:1]
	}
	var is bool
	var f api.Errno
	isData(t, func() (l [][]bool) { l = make([][]bool, 1); l[0], is, f = First(c); return l }, first, sample.Sets(c))
	if is != (len(all) > 0) || f != e {
		t.Errorf("First(%s) is %v, %d; want %v, %d", sample.SetText(c), is, f, len(all) > 0, e)
	}
	checkCount(t, c, e, len(all))
}

func checkCount(t *testing.T, c api.Cnf, e api.Errno, want int) {
	t.Helper()
	var n int
	var f api.Errno
	stays(t, func() { n, f = Count(c) }, sample.Sets(c))
	if n != want || f != e {
		t.Errorf("Count(%s) is %d, %d; want %d, %d", sample.SetText(c), n, f, want, e)
	}
}

func checkImplies(t *testing.T, c api.Cnf, clause []int, want bool, e api.Errno) {
	t.Helper()
	var is bool
	var f api.Errno
	stays(t, func() { is, f = Implies(c, clause) }, sample.Sets(c).With(sample.Clauses(clause)))
	if is != want || f != e {
		t.Errorf("Implies(%s; %s) is %v, %d; want %v, %d", sample.SetText(c), sample.ClauseText(clause), is, f, want, e)
	}
}

func checkEqual(t *testing.T, a, b api.Cnf, want bool, e api.Errno) {
	t.Helper()
	var is bool
	var f api.Errno
	stays(t, func() { is, f = Equal(a, b) }, sample.Sets(a, b))
	if is != want || f != e {
		t.Errorf("Equal(%s; %s) is %v, %d; want %v, %d", sample.SetText(a), sample.SetText(b), is, f, want, e)
	}
}

// checkAlike holds Equal against what it is to tell of right sets, in whichever order.
func checkAlike(t *testing.T, a, b api.Cnf, want bool) {
	t.Helper()
	checkEqual(t, a, b, want, api.OK)
	checkEqual(t, b, a, want, api.OK)
}

// Each follow holds calls against what the chapter says, and tells its error.

func followSet(t *testing.T, c api.Cnf) api.Errno {
	t.Helper()
	e := wantError(c)
	checkSet(t, c, e, wantNumbers(c)...)
	return e
}

func followImplies(t *testing.T, c api.Cnf, clause []int) (bool, api.Errno) {
	t.Helper()
	want, e := wantImplies(c, clause)
	checkImplies(t, c, clause, want, e)
	return want, e
}

func followEqual(t *testing.T, a, b api.Cnf) (bool, api.Errno) {
	t.Helper()
	want, e := wantEqual(a, b)
	checkEqual(t, a, b, want, e)
	return want, e
}

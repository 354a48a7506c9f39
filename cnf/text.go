package cnf

import (
	"slices"
	"strings"

	"sequitur/api"
	"sequitur/digit"
	"sequitur/lit"
)

// head is what the first line of a text begins with.
const head = "p cnf "

// Text returns the text of c, if c is right.
func Text(c api.Cnf) (string, api.Errno) {
	if _, e := Right(c); e != api.OK {
		return "", e
	}
	var b strings.Builder
	b.WriteString(head + digits(c.N) + " " + digits(len(c.L)) + "\n")
	for _, clause := range c.L {
		for _, l := range clause {
			b.WriteString(digits(l) + " ")
		}
		b.WriteString("0\n")
	}
	return b.String(), api.OK
}

// Read returns the set of which s is the text, or the first error and its line.
func Read(s string) (api.Cnf, int, api.Errno) {
	r := reader{clauses: -1}
	lines := 0
	for ; s != ""; lines++ {
		line, rest, ended := strings.Cut(s, "\n")
		e := api.ErrForm
		// A line is to be ended even if it is ignored.
		if ended {
			e = r.take(line)
		}
		if e != api.OK {
			return api.Cnf{}, lines, e
		}
		s = rest
	}
	if len(r.set.L) != r.clauses {
		return api.Cnf{}, lines, api.ErrEnd
	}
	return r.set, 0, api.OK
}

// reader is what has been read of a text, line by line.
type reader struct {
	set     api.Cnf
	clauses int // how many the set is to have; -1 ahead of the first line
}

// take reads one more line.
func (r *reader) take(line string) api.Errno {
	switch {
	case strings.HasPrefix(line, "c"):
		return api.OK
	case r.clauses < 0:
		return r.first(line)
	}
	return r.clause(line)
}

// first reads the first line that is not ignored.
func (r *reader) first(line string) api.Errno {
	after, ok := strings.CutPrefix(line, head)
	l := numbers(after)
	switch {
	case !ok || len(l) != 2 || l[1] < 0:
		return api.ErrForm
	case l[0] < 0 || l[0] > api.MaxLitVar:
		return api.ErrArg
	case l[1] > api.MaxClause:
		return api.ErrLong
	}
	r.set.N, r.clauses = l[0], l[1]
	return api.OK
}

// clause reads the line of a clause.
func (r *reader) clause(line string) api.Errno {
	l := numbers(line)
	last := len(l) - 1
	if len(r.set.L) == r.clauses || last < 0 || slices.Index(l, 0) != last {
		return api.ErrForm
	}
	e := lit.Right(l[:last], r.set.N)
	if e == api.OK {
		r.set.L = append(r.set.L, l[:last])
	}
	return e
}

// numbers returns the numbers whose digits, with single spaces between them, are s; none if s is anything else.
func numbers(s string) []int {
	var l []int
	for more := true; more; {
		var part string
		part, s, more = strings.Cut(s, " ")
		n, e := digit.Read(part)
		if e != api.OK {
			return nil
		}
		l = append(l, int(n))
	}
	return l
}

// digits returns the digits of n.
func digits(n int) string { return digit.Text(int64(n)) }

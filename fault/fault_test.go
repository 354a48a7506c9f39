package fault

import (
	"errors"
	"fmt"
	"io/fs"
	"slices"
	"sort"
	"strconv"
	"strings"
	"testing"

	"sequitur/api"
)

const (
	lowest  = -1 << 63
	highest = 1<<63 - 1
)

// errnos are all numbers of api, and numbers that api does not have.
func errnos() []api.Errno {
	return []api.Errno{
		api.OK, api.ErrArg, api.ErrLong, api.ErrNone, api.ErrSame, api.ErrRange, api.ErrDeep, api.ErrForm, api.ErrEnd, api.ErrFuel, api.ErrName,
		api.ErrSort, api.ErrArity, api.ErrBound, api.ErrUnify, api.ErrOccur, api.ErrRule, api.ErrHyp, api.ErrVar, api.ErrGoal, api.ErrOpen,
		api.ErrFact, api.ErrStuck, api.ErrStep, api.ErrModel, api.ErrTrue, -1, 16, 33, 1000, lowest, highest,
	}
}

func offsets() []int {
	return []int{lowest, lowest + 1, -70, -1, 0, 1, 9, 10, 12, 65536, highest - 1, highest}
}

// oddTexts are parts and texts with any bytes.
func oddTexts() []string {
	return []string{"", " ", ":", ": ", "a: b", "line", "axiom a", "\n", "a\nb", "%s%d", "\x00", "\xff\xfe", "ä", "error 7 at 12", strings.Repeat("p", 5000)}
}

// Errors that no Within has made.

// plain has no Unwrap.
type plain struct{ s string }

func (p plain) Error() string { return p.s }

// wrap has an Unwrap of its own, and no part.
type wrap struct {
	part string
	err  error
}

func (w wrap) Error() string { return w.part + ": " + w.err.Error() }
func (w wrap) Unwrap() error { return w.err }

// many has the Unwrap of several errors.
type many struct{ l []error }

func (m many) Error() string   { return strconv.Itoa(len(m.l)) }
func (m many) Unwrap() []error { return m.l }

// posing is no *Fault, but stands for one.
type posing struct{ f *Fault }

func (p posing) Error() string { return "posing" }
func (p posing) As(x any) bool {
	f, ok := x.(**Fault)
	if ok {
		*f = p.f
	}
	return ok
}

// carrying has the methods of a *Fault and of an error within, but is none.
type carrying struct{ *Fault }

// wild panics whatever it is asked.
type wild struct{ n int }

func (w *wild) Error() string { return strconv.Itoa(w.n) }
func (w *wild) Unwrap() error { return &wild{w.n} }
func (w *wild) As(any) bool   { return w.n > 0 }

func checkFind(t *testing.T, err error, e api.Errno, at int, ok bool) {
	t.Helper()
	if f, n, found := Find(err); f != e || n != at || found != ok {
		t.Errorf("Find(%#v) is %d, %d, %v; want %d, %d, %v", err, f, n, found, e, at, ok)
	}
}

func checkParts(t *testing.T, err error, want ...string) {
	t.Helper()
	if got := Parts(err); !slices.Equal(got, want) {
		t.Errorf("Parts(%#v) is %q; want %q", err, got, want)
	}
}

// Promise 4.1.

func TestMake(t *testing.T) {
	for _, at := range offsets() {
		for _, e := range errnos() {
			err := Make(e, at)
			if e == api.OK {
				if err != nil {
					t.Errorf("Make(OK, %d) is %#v", at, err)
				}
				continue
			}
			f, ok := err.(*Fault)
			if !ok || f == nil || *f != (Fault{Err: e, At: at}) {
				t.Errorf("Make(%d, %d) is %#v", e, at, err)
				continue
			}
			if s := err.Error(); s != fmt.Sprintf("error %d at %d", int(e), at) {
				t.Errorf("the text of Make(%d, %d) is %q", e, at, s)
			}
			if n, ok := f.Unwrap().(api.Errno); !ok || n != e || !errors.Is(err, e) || errors.Is(err, api.OK) {
				t.Errorf("Make(%d, %d) wraps %#v", e, at, f.Unwrap())
			}
		}
	}
}

func TestMakeIsNew(t *testing.T) {
	a, b := Make(api.ErrForm, 12), Make(api.ErrForm, 12)
	if a.(*Fault) == b.(*Fault) {
		t.Error("two calls of Make return one fault")
	}
}

func TestTextOfAFault(t *testing.T) {
	for _, x := range []struct {
		f Fault
		s string
	}{
		{Fault{api.ErrForm, 12}, "error 7 at 12"}, {Fault{api.ErrTrue, 0}, "error 32 at 0"}, {Fault{api.ErrArg, -5}, "error 1 at -5"}, {Fault{-3, 4}, "error -3 at 4"},
		{Fault{api.ErrLong, lowest}, "error 2 at -9223372036854775808"}, {Fault{highest, highest}, "error 9223372036854775807 at 9223372036854775807"},
	} {
		if s := x.f.Error(); s != x.s {
			t.Errorf("the text of %v is %q; want %q", x.f, s, x.s)
		}
	}
}

// A fault with the code OK is never made, but may be written: it is told as it is.
func TestFaultWithoutError(t *testing.T) {
	f := &Fault{At: 5}
	if f.Error() != "error 0 at 5" || f.Unwrap() == nil || f.Unwrap() != error(api.OK) {
		t.Errorf("%q, %#v", f.Error(), f.Unwrap())
	}
	checkFind(t, f, api.OK, 5, true)
	checkFind(t, Within(f, "x"), api.OK, 5, true)
}

func TestNilFault(t *testing.T) {
	var f *Fault
	if f.Error() != "" || f.Unwrap() != nil {
		t.Errorf("%q, %#v", f.Error(), f.Unwrap())
	}
	checkFind(t, f, api.OK, 0, false)
	checkParts(t, f)
	w := Within(f, "part")
	if w == nil || w.Error() != "part: " || errors.Unwrap(w) != error(f) {
		t.Errorf("a nil fault within a part is %#v", w)
	}
	checkFind(t, w, api.OK, 0, false)
	checkFind(t, wrap{"x", w}, api.OK, 0, false)
	checkParts(t, Within(wrap{"x", w}, "outer"), "outer", "part")
	// The first fault is the nil one: what comes behind it does not count.
	checkFind(t, errors.Join(f, Make(api.ErrEnd, 3)), api.OK, 0, false)
	checkFind(t, errors.Join(Make(api.ErrEnd, 3), f), api.ErrEnd, 3, true)
}

func TestWithin(t *testing.T) {
	for _, part := range oddTexts() {
		if err := Within(nil, part); err != nil {
			t.Errorf("Within(nil, %q) is %#v", part, err)
		}
		for _, s := range oddTexts() {
			for _, err := range []error{&plain{s}, Within(&plain{s}, part), &wrap{s, &plain{part}}} {
				w := Within(err, part)
				if w.Error() != part+": "+err.Error() || errors.Unwrap(w) != err || !errors.Is(w, err) {
					t.Errorf("Within(%#v, %q) is %#v", err, part, w)
				}
			}
		}
	}
	if s := Within(Make(api.ErrForm, 12), "line").Error(); s != "line: error 7 at 12" {
		t.Error(s)
	}
	if s := Within(api.ErrSort, "").Error(); s != ": error 11" {
		t.Error(s)
	}
}

func TestWithinIsNew(t *testing.T) {
	err := Make(api.ErrForm, 12)
	a, b := Within(err, "a"), Within(err, "b")
	c := Within(a, "c")
	if a.Error() != "a: error 7 at 12" || b.Error() != "b: error 7 at 12" || c.Error() != "c: a: error 7 at 12" || err.Error() != "error 7 at 12" {
		t.Errorf("%q, %q, %q, %q", a, b, c, err)
	}
}

func TestFind(t *testing.T) {
	checkFind(t, nil, api.OK, 0, false)
	for _, err := range []error{errors.New("x"), api.ErrForm, plain{"error 7 at 12"}, wrap{"a", plain{"b"}}, Within(api.ErrForm, "a"), many{}, errors.Join(plain{"a"}, api.ErrEnd)} {
		checkFind(t, err, api.OK, 0, false)
		checkFind(t, Within(err, "part"), api.OK, 0, false)
	}
	for _, e := range errnos()[1:] {
		for _, at := range offsets() {
			err := Make(e, at)
			for _, x := range []error{err, Within(err, "a"), wrap{"a", err}, Within(wrap{"a", Within(err, "b")}, "c"), fmt.Errorf("odd %w", err), errors.Join(plain{"a"}, err)} {
				checkFind(t, x, e, at, true)
			}
		}
	}
}

// Of several faults, the first one in the sense of errors.As.
func TestFindTheFirst(t *testing.T) {
	a, b := Make(api.ErrEnd, 9), Make(api.ErrForm, 3)
	checkFind(t, many{[]error{plain{"x"}, Within(a, "p"), b}}, api.ErrEnd, 9, true)
	checkFind(t, many{[]error{b, a}}, api.ErrForm, 3, true)
	checkFind(t, Within(many{[]error{many{}, wrap{"x", errors.Join(plain{"y"}, b)}, a}}, "p"), api.ErrForm, 3, true)
	checkFind(t, fmt.Errorf("%w, %w", Within(a, "p"), b), api.ErrEnd, 9, true)
	checkFind(t, posing{a.(*Fault)}, api.ErrEnd, 9, true)
	checkFind(t, errors.Join(Within(posing{b.(*Fault)}, "p"), a), api.ErrForm, 3, true)
	checkFind(t, errors.Join(posing{}, a), api.OK, 0, false)
	checkFind(t, carrying{a.(*Fault)}, api.OK, 0, false)
}

func TestParts(t *testing.T) {
	checkParts(t, nil)
	for _, err := range []error{Make(api.ErrForm, 1), errors.New("x"), api.ErrForm, plain{"a: b"}, wrap{"a", plain{"b"}}, posing{}, carrying{&Fault{api.ErrEnd, 2}}} {
		checkParts(t, err)
		checkParts(t, Within(err, "one"), "one")
		checkParts(t, Within(Within(err, "in"), "out"), "out", "in")
		checkParts(t, wrap{"no", Within(wrap{"no", wrap{"no", Within(err, "in")}}, "out")}, "out", "in")
		checkParts(t, fmt.Errorf("odd %w", Within(err, "one")), "one")
		checkParts(t, Within(fmt.Errorf("odd %w", Within(err, "in")), "out"), "out", "in")
	}
	checkParts(t, Within(Within(Make(api.ErrEnd, 2), "same"), "same"), "same", "same")
	for _, part := range oddTexts() {
		checkParts(t, Within(Within(api.ErrEnd, part), ""), "", part)
	}
}

// An Unwrap that returns several errors ends the chain, even if they are one.
func TestPartsEndAtSeveralErrors(t *testing.T) {
	in := Within(Make(api.ErrForm, 1), "in")
	for _, err := range []error{errors.Join(in), errors.Join(in, in), many{}, many{[]error{in}}, fmt.Errorf("%w, %w", in, in)} {
		checkParts(t, err)
		checkParts(t, Within(err, "out"), "out")
	}
}

func TestPartsAreNew(t *testing.T) {
	err := Within(Within(Make(api.ErrForm, 1), "in"), "out")
	l := Parts(err)
	l[0], l[1] = "x", "y"
	_ = append(l[:1], "z")
	checkParts(t, err, "out", "in")
}

// Errors whose own methods panic have no text, and nothing in them is found.
func TestErrorsThatPanic(t *testing.T) {
	for _, err := range []error{(*wild)(nil), (*wrap)(nil), (*fs.PathError)(nil), (*plain)(nil), (*many)(nil), (*posing)(nil), wrap{"x", (*wild)(nil)}} {
		checkFind(t, err, api.OK, 0, false)
		checkParts(t, err)
		w := Within(Within(err, "in"), "out")
		if s := w.Error(); s != "out: in: " {
			t.Errorf("the text is %q", s)
		}
		checkFind(t, w, api.OK, 0, false)
		checkParts(t, w, "out", "in")
	}
}

// Promise 4.2.

// lineOf finds the line and the column of at as the chapter says it, byte by byte; before is what the line has ahead of it.
func lineOf(s string, at int) (line, column int, before string) {
	line, column = 1, 1
	for i := 0; i < at && i < len(s); i++ {
		column++
		before += s[i : i+1]
		if s[i] == 10 {
			line, column, before = line+1, 1, ""
		}
	}
	return line, column, before
}

// places calls f with short texts of all kinds, and with offsets in and around each.
func places(f func(s string, at int)) {
	l := []string{""}
	for from, most := 0, 5; most > 0; most-- {
		to := len(l)
		for ; from < to; from++ {
			for _, p := range []string{"\n", "a", "\r", "\t", "\xc3"} {
				l = append(l, l[from]+p)
			}
		}
	}
	l = append(l, "one\n\ntwo", "\r\n\r\n", "äöü\nß", "\x00\n\xff\xfe\n", "  x\n", strings.Repeat("\n", 300), strings.Repeat("ab\n", 200)+"c", strings.Repeat("x", 400))
	for _, s := range l {
		for at := -2; at <= len(s)+2; at++ {
			f(s, at)
		}
		for _, at := range offsets() {
			f(s, at)
		}
	}
}

func TestWhere(t *testing.T) {
	for _, x := range []struct {
		s                string
		at, line, column int
	}{
		{"", 0, 1, 1}, {"", 5, 1, 1}, {"", -5, 1, 1}, {"", lowest, 1, 1}, {"", highest, 1, 1},
		{"abc", 0, 1, 1}, {"abc", 2, 1, 3}, {"abc", 3, 1, 4}, {"abc", 4, 1, 4}, {"abc", highest, 1, 4}, {"abc", -1, 1, 1}, {"abc", lowest, 1, 1},
		{"a\nbc", 0, 1, 1}, {"a\nbc", 1, 1, 2}, {"a\nbc", 2, 2, 1}, {"a\nbc", 3, 2, 2}, {"a\nbc", 4, 2, 3}, {"a\nbc", 5, 2, 3},
		{"abc\n", 3, 1, 4}, {"abc\n", 4, 2, 1}, {"abc\n", 5, 2, 1}, {"abc\n", highest, 2, 1}, {"\n", 0, 1, 1}, {"\n", 1, 2, 1},
		{"\n\n\n", 0, 1, 1}, {"\n\n\n", 1, 2, 1}, {"\n\n\n", 2, 3, 1}, {"\n\n\n", 3, 4, 1}, {"a\r\nb", 2, 1, 3}, {"a\r\nb", 3, 2, 1}, {"ä\nü", 2, 1, 3}, {"ä\nü", 4, 2, 2},
	} {
		if line, column := Where(x.s, x.at); line != x.line || column != x.column {
			t.Errorf("Where(%q, %d) is %d, %d; want %d, %d", x.s, x.at, line, column, x.line, x.column)
		}
	}
	places(func(s string, at int) {
		l, c, _ := lineOf(s, at)
		if line, column := Where(s, at); line != l || column != c {
			t.Errorf("Where(%q, %d) is %d, %d; want %d, %d", s, at, line, column, l, c)
		}
	})
}

func TestMark(t *testing.T) {
	for _, x := range []struct {
		s    string
		at   int
		want string
	}{
		{"a\nbc", 3, "bc\n ^"}, {"a\nbc", 0, "a\n^"}, {"a\nbc", 1, "a\n ^"}, {"a\nbc", 2, "bc\n^"}, {"a\nbc", 4, "bc\n  ^"}, {"a\nbc", 5, "bc\n  ^"}, {"a\nbc", highest, "bc\n  ^"},
		{"a\nbc", -1, "a\n^"}, {"a\nbc", lowest, "a\n^"}, {"", 0, "\n^"}, {"", 9, "\n^"}, {"", -9, "\n^"}, {"\n", 0, "\n^"}, {"\n", 1, "\n^"}, {"abc\n", 3, "abc\n   ^"}, {"abc\n", 4, "\n^"},
		{"a\n\nb", 2, "\n^"}, {"a\nbc\nd", 3, "bc\n ^"}, {"\ta\tb", 3, "\ta\tb\n   ^"}, {"ab\r\nc", 1, "ab\r\n ^"}, {"ab\r\nc", 3, "ab\r\n   ^"}, {"äb", 2, "äb\n  ^"},
	} {
		if s := Mark(x.s, x.at); s != x.want {
			t.Errorf("Mark(%q, %d) is %q; want %q", x.s, x.at, s, x.want)
		}
	}
	places(func(s string, at int) {
		line, _, before := lineOf(s, at)
		want := strings.Split(s, "\n")[line-1] + "\n"
		for range len(before) {
			want += " "
		}
		if got := Mark(s, at); got != want+"^" {
			t.Errorf("Mark(%q, %d) is %q; want %q", s, at, got, want+"^")
		}
	})
}

func TestFirst(t *testing.T) {
	for _, x := range []struct {
		l    []Fault
		want Fault
		ok   bool
	}{
		{nil, Fault{}, false}, {[]Fault{}, Fault{}, false}, {[]Fault{{}}, Fault{}, false}, {[]Fault{{api.OK, -7}, {api.OK, 0}, {api.OK, 9}}, Fault{}, false},
		{[]Fault{{api.ErrForm, 0}}, Fault{api.ErrForm, 0}, true}, {[]Fault{{api.ErrForm, highest}}, Fault{api.ErrForm, highest}, true},
		{[]Fault{{api.ErrForm, lowest}, {api.ErrEnd, lowest}}, Fault{api.ErrForm, lowest}, true}, {[]Fault{{api.ErrForm, highest}, {api.ErrEnd, lowest}}, Fault{api.ErrEnd, lowest}, true},
		{[]Fault{{api.OK, 1}, {api.ErrEnd, 7}, {api.ErrForm, 2}, {api.ErrLong, 2}}, Fault{api.ErrForm, 2}, true},
		{[]Fault{{api.ErrLong, 2}, {api.ErrForm, 2}, {api.OK, -3}}, Fault{api.ErrLong, 2}, true},
		{[]Fault{{api.ErrEnd, 5}, {api.ErrEnd, 4}, {api.ErrEnd, 6}}, Fault{api.ErrEnd, 4}, true},
		{[]Fault{{api.OK, 5}, {-1, 4}}, Fault{-1, 4}, true}, {[]Fault{{99, -1}, {api.ErrArg, 0}}, Fault{99, -1}, true},
	} {
		if f, ok := First(x.l); f != x.want || ok != x.ok {
			t.Errorf("First(%v) is %v, %v; want %v, %v", x.l, f, ok, x.want, x.ok)
		}
	}
}

// First is held against sorting, over all lists of up to five of some faults; the lists stay as they are.
func TestFirstOfAllLists(t *testing.T) {
	some := []Fault{{api.OK, 0}, {api.OK, -1}, {api.ErrForm, 0}, {api.ErrEnd, 0}, {api.ErrForm, -1}, {api.ErrLong, 3}}
	var lists func(l []Fault, most int)
	lists = func(l []Fault, most int) {
		kept := slices.Clone(l)
		var faults []Fault
		for _, f := range l {
			if f.Err != api.OK {
				faults = append(faults, f)
			}
		}
		sort.SliceStable(faults, func(i, j int) bool { return faults[i].At < faults[j].At })
		want := append(faults, Fault{})[0]
		if f, ok := First(l); f != want || ok != (len(faults) > 0) || !slices.Equal(l, kept) {
			t.Errorf("First(%v) is %v, %v; want %v", kept, f, ok, want)
		}
		if most > 0 {
			for _, f := range some {
				lists(append(slices.Clone(l), f), most-1)
			}
		}
	}
	lists(nil, 5)
}

// Promise 4.3.

// wrapping puts err within parts, and some of them within errors of other packages, n times.
func wrapping(err error, n int) (error, []string) {
	var parts []string
	for i := range n {
		switch i % 5 {
		case 1:
			err = wrap{"x", err}
		case 3:
			err = errors.Join(plain{"y"}, err)
			parts = nil
		default:
			parts = append(parts, "p"+strconv.Itoa(i))
			err = Within(err, "p"+strconv.Itoa(i))
		}
	}
	slices.Reverse(parts)
	return err, parts
}

func TestWrappingKeepsTheFault(t *testing.T) {
	for _, e := range errnos()[1:] {
		for _, at := range offsets() {
			for n := range 12 {
				err, parts := wrapping(Make(e, at), n)
				checkFind(t, err, e, at, true)
				checkParts(t, err, parts...)
				if !errors.Is(err, e) {
					t.Errorf("wrapped %d times, the fault is no error %d", n, e)
				}
			}
		}
	}
}

// As deep as the document lets errors be nested in one another.
func TestWrappingDeep(t *testing.T) {
	const deep = 1 << 16
	err := Make(api.ErrOccur, 77)
	for i := range deep {
		err = Within(err, strconv.Itoa(i%10))
	}
	checkFind(t, err, api.ErrOccur, 77, true)
	l := Parts(err)
	if len(l) != deep || l[0] != strconv.Itoa((deep-1)%10) || l[deep-1] != "0" {
		t.Errorf("%d parts", len(l))
	}
	if s := err.Error(); s != strings.Join(l, ": ")+": error 15 at 77" {
		t.Errorf("a text of %d bytes", len(s))
	}
}

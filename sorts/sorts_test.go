package sorts

import (
	"slices"
	"strconv"
	"strings"
	"testing"

	"sequitur/api"
	"sequitur/sample"
)

// brief keeps a long list out of the messages.
var brief = sample.NamesText

// What the chapter says, word by word, with nothing of the package in it.

func wantValid(s api.Sort) bool {
	return sample.Named(s) && s != "Bool" && s != "Int"
}

func wantRight(l []api.Sort) api.Errno {
	if len(l) > 64 {
		return api.ErrLong
	}
	for i, s := range l {
		if !wantValid(s) {
			return api.ErrName
		}
		for _, earlier := range l[:i] {
			if earlier == s {
				return api.ErrSame
			}
		}
	}
	return api.OK
}

func wantAll(l []api.Sort) []api.Sort {
	all := []api.Sort{"Bool", "Int"}
	for _, s := range l {
		all = append(all, s)
	}
	return all
}

func wantPlace(l []api.Sort, s api.Sort) int {
	for i, x := range wantAll(l) {
		if x == s {
			return i
		}
	}
	return -1
}

func wantPut(l []api.Sort, s api.Sort) ([]api.Sort, api.Errno) {
	if !wantValid(s) {
		return nil, api.ErrName
	}
	for _, x := range l {
		if x == s {
			return nil, api.ErrSame
		}
	}
	if len(l) >= 64 {
		return nil, api.ErrLong
	}
	return append(wantAll(l)[2:], s), api.OK
}

func checkRight(t *testing.T, l []api.Sort, want api.Errno) {
	t.Helper()
	before := slices.Clone(l)
	if got := Right(l); got != want {
		t.Errorf("Right(%s) is %d; want %d", brief(l), got, want)
	}
	if !slices.Equal(l, before) {
		t.Errorf("Right changed %s to %s", brief(before), brief(l))
	}
}

func checkPut(t *testing.T, l []api.Sort, s api.Sort, want []api.Sort, e api.Errno) {
	t.Helper()
	before := slices.Clone(l)
	got, f := Put(l, s)
	if !slices.Equal(got, want) || f != e {
		t.Errorf("Put(%s, %q) is %s, %d; want %s, %d", brief(l), s, brief(got), f, brief(want), e)
	}
	if !slices.Equal(l, before) {
		t.Errorf("Put changed %s to %s", brief(before), brief(l))
	}
}

// checkPlace holds both queries of a sort against its place, -1 for a sort that is not known.
func checkPlace(t *testing.T, l []api.Sort, s api.Sort, want int) {
	t.Helper()
	before := slices.Clone(l)
	if got := Place(l, s); got != want {
		t.Errorf("Place(%s, %q) is %d; want %d", brief(l), s, got, want)
	}
	if got := Known(l, s); got != (want >= 0) {
		t.Errorf("Known(%s, %q) is %v", brief(l), s, got)
	}
	if !slices.Equal(l, before) {
		t.Errorf("a query changed %s to %s", brief(before), brief(l))
	}
}

func checkAll(t *testing.T, l []api.Sort) {
	t.Helper()
	before, want := slices.Clone(l), wantAll(l)
	if got := All(l); !slices.Equal(got, want) {
		t.Errorf("All(%s) is %s; want %s", brief(l), brief(got), brief(want))
	}
	if !slices.Equal(l, before) {
		t.Errorf("All changed %s to %s", brief(before), brief(l))
	}
}

// many is n different valid names.
func many(n int) []api.Sort {
	l := make([]api.Sort, n)
	for i := range l {
		l[i] = "S" + strconv.Itoa(i)
	}
	return l
}

// with is l with s in place of its element i.
func with(l []api.Sort, i int, s api.Sort) []api.Sort {
	l = slices.Clone(l)
	l[i] = s
	return l
}

// good are valid names, all different.
func good() []api.Sort {
	return append(slices.DeleteFunc(sample.Names(), func(s string) bool { return s == "Bool" || s == "Int" }), "A", "B", "a", "A''1'")
}

// bad are texts that are no valid names, all different.
func bad() []api.Sort { return append(sample.NoNames(), "Bool", "Int") }

// mixed are texts of which any two lists of the tests below are made: good and bad ones, and what is always known.
func mixed() []api.Sort {
	return []api.Sort{"A", "B", "b'", "true", "Bool", "Int", "", "1", "A\xff", strings.Repeat("a", 32), strings.Repeat("a", 33)}
}

// someLists calls f with every list of at most three of the texts above, and with lists at the limit that have an error or two at any place.
func someLists(f func([]api.Sort)) {
	pool := mixed()
	f(nil)
	for _, a := range pool {
		f([]api.Sort{a})
		for _, b := range pool {
			f([]api.Sort{a, b})
			for _, c := range pool {
				f([]api.Sort{a, b, c})
			}
		}
	}
	for n := 62; n <= 66; n++ {
		l := many(n)
		f(l)
		for i := range l {
			f(with(l, i, pool[i%len(pool)]))
			f(with(l, i, l[(i+7)%n]))
			f(with(with(l, i, "qed"), (i*5+1)%n, l[(i*3+2)%n]))
		}
	}
}

// Promise 5.1.

func TestRight(t *testing.T) {
	checkRight(t, nil, api.OK)
	checkRight(t, []api.Sort{}, api.OK)
	checkRight(t, []api.Sort{"A"}, api.OK)
	checkRight(t, []api.Sort{"A", "B"}, api.OK)
	checkRight(t, []api.Sort{"B", "A", "a", "A'"}, api.OK)
	checkRight(t, []api.Sort{"A", "B", "A"}, api.ErrSame)
	checkRight(t, []api.Sort{"A", "A"}, api.ErrSame)
	checkRight(t, []api.Sort{"A", "B", "B"}, api.ErrSame)
	checkRight(t, []api.Sort{"A", "true"}, api.ErrName)
	checkRight(t, good(), api.OK)
	reversed := good()
	slices.Reverse(reversed)
	checkRight(t, reversed, api.OK)
}

func TestRightAtTheLimit(t *testing.T) {
	for n, want := range map[int]api.Errno{1: api.OK, 63: api.OK, 64: api.OK, 65: api.ErrLong, 66: api.ErrLong, 1000: api.ErrLong, 1 << 13: api.ErrLong} {
		checkRight(t, many(n), want)
	}
	if api.MaxSorts != 64 {
		t.Error(api.MaxSorts)
	}
}

func TestRightOfWrongNames(t *testing.T) {
	for _, s := range good() {
		checkRight(t, []api.Sort{s}, api.OK)
		checkRight(t, []api.Sort{s, s}, api.ErrSame)
		checkRight(t, []api.Sort{s, "Other", s}, api.ErrSame)
	}
	for _, s := range bad() {
		checkRight(t, []api.Sort{s}, api.ErrName)
		checkRight(t, []api.Sort{s, s}, api.ErrName)
		checkRight(t, []api.Sort{"A", s}, api.ErrName)
		checkRight(t, []api.Sort{s, "A"}, api.ErrName)
		checkRight(t, append(many(63), s), api.ErrName)
	}
	if n := len(sample.Words()); n != 34 {
		t.Error(n, "words")
	}
}

// Of several elements that have an error the first one counts; if there are too many elements, none of them does.
func TestTheFirstErrorCounts(t *testing.T) {
	checkRight(t, []api.Sort{"A", "A", "true"}, api.ErrSame)
	checkRight(t, []api.Sort{"A", "true", "A"}, api.ErrName)
	checkRight(t, []api.Sort{"true", "A", "A"}, api.ErrName)
	checkRight(t, []api.Sort{"A", "B", "B", "1", "Int"}, api.ErrSame)
	checkRight(t, []api.Sort{"A", "Int", "B", "B"}, api.ErrName)
	checkRight(t, []api.Sort{"A", "", "", "A"}, api.ErrName)
	full := many(64)
	checkRight(t, with(with(full, 62, "S3"), 63, "S 3"), api.ErrSame)
	checkRight(t, with(with(full, 62, "S 3"), 63, "S3"), api.ErrName)
	checkRight(t, with(full, 63, "S0"), api.ErrSame)
	checkRight(t, with(full, 63, "S62"), api.ErrSame)
	checkRight(t, with(full, 0, "S63"), api.ErrSame)
	long := many(65)
	for _, s := range []api.Sort{"true", "", "Bool", "S1", "S64"} {
		for _, i := range []int{0, 1, 63, 64} {
			checkRight(t, with(long, i, s), api.ErrLong)
		}
	}
	checkRight(t, make([]api.Sort, 65), api.ErrLong)
	checkRight(t, make([]api.Sort, 64), api.ErrName)
	checkRight(t, slices.Repeat([]api.Sort{"A"}, 65), api.ErrLong)
	checkRight(t, slices.Repeat([]api.Sort{"A"}, 64), api.ErrSame)
}

// Every byte is tried alone, as the second and as the last one of a name.
func TestEveryByte(t *testing.T) {
	for b := range 256 {
		c := string([]byte{byte(b)})
		for _, s := range []api.Sort{c, "A" + c, c + "A", "A" + c + "A", "A" + strings.Repeat("a", 30) + c, strings.Repeat("a", 32) + c} {
			want := api.ErrName
			if wantValid(s) {
				want = api.OK
			}
			checkRight(t, []api.Sort{s}, want)
			if want == api.OK {
				checkPut(t, []api.Sort{"Other"}, s, []api.Sort{"Other", s}, api.OK)
			} else {
				checkPut(t, []api.Sort{"Other"}, s, nil, api.ErrName)
			}
		}
	}
}

func TestPut(t *testing.T) {
	checkPut(t, nil, "A", []api.Sort{"A"}, api.OK)
	checkPut(t, []api.Sort{}, "A", []api.Sort{"A"}, api.OK)
	checkPut(t, []api.Sort{"A"}, "B", []api.Sort{"A", "B"}, api.OK)
	checkPut(t, []api.Sort{"B", "C"}, "A", []api.Sort{"B", "C", "A"}, api.OK)
	checkPut(t, []api.Sort{"A"}, "a", []api.Sort{"A", "a"}, api.OK)
	checkPut(t, []api.Sort{"A"}, "true", nil, api.ErrName)
	checkPut(t, []api.Sort{"A"}, "A", nil, api.ErrSame)
	checkPut(t, []api.Sort{"B", "A", "C"}, "A", nil, api.ErrSame)
	checkPut(t, []api.Sort{"B", "C", "A"}, "A", nil, api.ErrSame)
	for _, s := range good() {
		checkPut(t, nil, s, []api.Sort{s}, api.OK)
		checkPut(t, []api.Sort{"Other"}, s, []api.Sort{"Other", s}, api.OK)
		checkPut(t, []api.Sort{"Other", s}, s, nil, api.ErrSame)
	}
	for _, s := range bad() {
		checkPut(t, nil, s, nil, api.ErrName)
		checkPut(t, []api.Sort{"A"}, s, nil, api.ErrName)
	}
}

func TestPutAtTheLimit(t *testing.T) {
	for _, n := range []int{0, 1, 62, 63} {
		checkPut(t, many(n), "A", append(many(n), "A"), api.OK)
	}
	for _, n := range []int{64, 65, 66, 1000} {
		checkPut(t, many(n), "A", nil, api.ErrLong)
	}
}

// A name that is none comes ahead of one that is there, and this ahead of a list that is full.
func TestPutErrorsInOrder(t *testing.T) {
	for _, s := range bad() {
		checkPut(t, []api.Sort{s}, s, nil, api.ErrName)
		checkPut(t, many(64), s, nil, api.ErrName)
		checkPut(t, append(many(64), s), s, nil, api.ErrName)
	}
	for _, n := range []int{63, 64, 65, 1000} {
		l := many(n)
		for _, i := range []int{0, 1, n / 2, n - 1} {
			checkPut(t, l, l[i], nil, api.ErrSame)
		}
	}
}

// Put takes lists that are not valid, and looks at nothing in them but whether s is there.
func TestPutToWrongLists(t *testing.T) {
	for _, s := range bad() {
		checkPut(t, []api.Sort{s, s}, "A", []api.Sort{s, s, "A"}, api.OK)
		checkPut(t, []api.Sort{s, "A"}, "A", nil, api.ErrSame)
	}
	checkPut(t, []api.Sort{"A", "A"}, "B", []api.Sort{"A", "A", "B"}, api.OK)
	checkPut(t, []api.Sort{"A", "A"}, "A", nil, api.ErrSame)
	checkPut(t, []api.Sort{"Bool", "Int", "true"}, "A", []api.Sort{"Bool", "Int", "true", "A"}, api.OK)
	empty := make([]api.Sort, 65)
	checkPut(t, empty[:63], "A", with(empty[:64], 63, "A"), api.OK)
	checkPut(t, empty[:64], "A", nil, api.ErrLong)
	checkPut(t, empty, "A", nil, api.ErrLong)
	checkPut(t, append(empty, "A"), "A", nil, api.ErrSame)
}

// The result must not lie in what is free behind the list, where a second Put would write over the first one's.
func TestPutSharesNoMemory(t *testing.T) {
	for _, n := range []int{0, 1, 2, 30, 62, 63} {
		room := append(many(n), slices.Repeat([]api.Sort{"free"}, 10)...)
		l := room[:n]
		first, e := Put(l, "First")
		second, f := Put(l, "Second")
		if e != api.OK || f != api.OK || !slices.Equal(first, append(many(n), "First")) || !slices.Equal(second, append(many(n), "Second")) {
			t.Fatalf("%s, %d; %s, %d", brief(first), e, brief(second), f)
		}
		third, e := Put(first, "Third")
		for i := range first {
			first[i] = "spoilt"
		}
		_ = append(first, "spoilt", "spoilt")
		if !slices.Equal(l, many(n)) || !slices.Equal(second, append(many(n), "Second")) {
			t.Errorf("a changed result changed %s or %s", brief(l), brief(second))
		}
		if e == api.OK && !slices.Equal(third, append(many(n), "First", "Third")) {
			t.Errorf("a changed list changed the result %s", brief(third))
		}
		for i := range l {
			l[i] = "spoilt"
		}
		if !slices.Equal(second, append(many(n), "Second")) {
			t.Errorf("a changed argument changed the result %s", brief(second))
		}
		for _, s := range room[n:] {
			if s != "free" {
				t.Errorf("Put wrote %q behind the list", s)
			}
		}
	}
}

// Promise 5.2.

func TestKnownAndPlace(t *testing.T) {
	l := []api.Sort{"A", "B"}
	checkPlace(t, l, "Bool", 0)
	checkPlace(t, l, "Int", 1)
	checkPlace(t, l, "A", 2)
	checkPlace(t, l, "B", 3)
	for _, s := range []api.Sort{"C", "", "a", "b", "A ", " B", "A'", "AB", "bool", "int", "BOOL", "INT", "Bool ", "Int\x00", "Boo", "In", "true", "sort", "0", "\xff", "ä", strings.Repeat("A", api.MaxText+1)} {
		checkPlace(t, l, s, -1)
	}
	for _, empty := range [][]api.Sort{nil, {}} {
		checkPlace(t, empty, "Bool", 0)
		checkPlace(t, empty, "Int", 1)
		for _, s := range append(good(), bad()...) {
			if s != "Bool" && s != "Int" {
				checkPlace(t, empty, s, -1)
			}
		}
	}
	for _, n := range []int{63, 64, 65, 1000} {
		for i, s := range many(n) {
			checkPlace(t, many(n), s, i+2)
		}
		checkPlace(t, many(n), "S"+strconv.Itoa(n), -1)
		checkPlace(t, many(n), "Int", 1)
	}
}

// A list need not be valid: whatever stands in it is known, and Bool and Int are known ahead of it.
func TestQueriesOfWrongLists(t *testing.T) {
	for _, s := range bad() {
		if s != "Bool" && s != "Int" {
			checkPlace(t, []api.Sort{"A", s}, s, 3)
			checkPlace(t, []api.Sort{s, "A", s}, s, 2)
			checkPlace(t, []api.Sort{"A", "B"}, s, -1)
		}
	}
	checkPlace(t, []api.Sort{"Bool"}, "Bool", 0)
	checkPlace(t, []api.Sort{"Int", "Bool"}, "Bool", 0)
	checkPlace(t, []api.Sort{"Int", "Int"}, "Int", 1)
	checkPlace(t, []api.Sort{"A", "B", "A"}, "A", 2)
	checkPlace(t, []api.Sort{"Bool", "B", "A", "B"}, "B", 3)
	checkPlace(t, []api.Sort{"", "\xff", ""}, "\xff", 3)
	checkPlace(t, make([]api.Sort, 100), "", 2)
	checkPlace(t, append(make([]api.Sort, 100), "A", "A"), "A", 102)
}

func TestAll(t *testing.T) {
	for l, want := range map[string]string{"": "Bool Int", "A": "Bool Int A", "B A": "Bool Int B A", "A A": "Bool Int A A", "Int Bool": "Bool Int Int Bool", "true 1 $": "Bool Int true 1 $"} {
		if got := All(strings.Fields(l)); strings.Join(got, " ") != want {
			t.Errorf("All(%q) is %q; want %q", l, got, want)
		}
	}
	if got := All(nil); !slices.Equal(got, []api.Sort{"Bool", "Int"}) {
		t.Errorf("%q", got)
	}
	for _, l := range [][]api.Sort{nil, {}, {""}, {"", ""}, good(), bad(), many(63), many(64), many(65), many(1000), make([]api.Sort, 100)} {
		checkAll(t, l)
	}
}

func TestAllSharesNoMemory(t *testing.T) {
	for _, n := range []int{0, 1, 63, 65} {
		room := append(many(n), slices.Repeat([]api.Sort{"free"}, 10)...)
		l := room[:n]
		first, second := All(l), All(l)
		for i := range first {
			first[i] = "spoilt"
		}
		_ = append(first, "spoilt")
		if !slices.Equal(l, many(n)) || !slices.Equal(second, wantAll(many(n))) || !slices.Equal(All(l), second) {
			t.Errorf("a changed result changed %s or %s", brief(l), brief(second))
		}
		for i := range l {
			l[i] = "spoilt"
		}
		if !slices.Equal(second, wantAll(many(n))) || slices.Contains(room[n:], "spoilt") {
			t.Errorf("%s, %q", brief(second), room[n:])
		}
	}
}

// All calls answer as the chapter says, word by word, for valid lists and for others.
func TestCallsFollowTheChapter(t *testing.T) {
	errors := map[api.Errno]int{}
	queries := append(mixed(), "S0", "S5", "S61", "S63", "S65", "qed", "C", "bool")
	someLists(func(l []api.Sort) {
		want := wantRight(l)
		errors[want]++
		checkRight(t, l, want)
		checkAll(t, l)
		for _, s := range queries {
			checkPlace(t, l, s, wantPlace(l, s))
			after, e := wantPut(l, s)
			checkPut(t, l, s, after, e)
		}
	})
	if errors[api.OK] < 10 || errors[api.ErrName] < 1000 || errors[api.ErrSame] < 50 || errors[api.ErrLong] < 100 {
		t.Error("too few lists of a kind:", errors)
	}
}

// Promise 5.3.

// What was known ahead of a Put is known behind it, at the same place, and the new sort stands last.
func TestPutToAValidListIsValid(t *testing.T) {
	names := append(append(many(70), mixed()...), good()...)
	put, valid := 0, []api.Sort(nil)
	for range 3 {
		for _, s := range names {
			after, e := Put(valid, s)
			if e != api.OK {
				continue
			}
			put++
			checkRight(t, after, api.OK)
			for i, x := range All(valid) {
				checkPlace(t, after, x, i)
			}
			checkPlace(t, valid, s, -1)
			checkPlace(t, after, s, len(after)+1)
			valid = after
		}
		slices.Reverse(names)
	}
	if put != 64 || len(valid) != 64 {
		t.Error(put, "sorts were put;", len(valid), "are there")
	}
	someLists(func(l []api.Sort) {
		if Right(l) != api.OK {
			return
		}
		for _, s := range names {
			if after, e := Put(l, s); e == api.OK {
				checkRight(t, after, api.OK)
			}
		}
	})
}

func TestKnownSortsStandAtTheirPlaces(t *testing.T) {
	queries := append(mixed(), many(67)...)
	someLists(func(l []api.Sort) {
		all := All(l)
		for _, s := range queries {
			i := Place(l, s)
			if Known(l, s) != (i >= 0 && i < len(all) && all[i] == s) {
				t.Errorf("%q in %s: known is %v, the place is %d", s, brief(l), Known(l, s), i)
			}
		}
		for i, s := range all {
			if first := Place(l, s); !Known(l, s) || first < 0 || first > i || all[first] != s {
				t.Errorf("%q in %s: the place is %d", s, brief(l), first)
			}
		}
	})
}

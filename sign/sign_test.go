package sign

import (
	"slices"
	"strconv"
	"strings"
	"testing"

	"sequitur/api"
	"sequitur/sample"
)

// Short names for what the tests are full of.
var (
	fn, sg                = sample.Fun, sample.Sign
	good, bad, words      = sample.Names, sample.NoNames, sample.Words
	equalFuns, equalSigns = sample.EqualFuns, sample.EqualSigns
	copyFun, copySign     = sample.TwinFun, sample.TwinSign
	briefFun, briefSign   = sample.FunText, sample.SignText
	brief, wantName       = sample.NamesText, sample.Named
	spoilFun, spoilNames  = sample.SpoilFun, sample.SpoilNames
	spoil                 = sample.SpoilSign
)

// What the chapter says, word by word, with nothing of the package in it.

func wantKnown(l []api.Sort, s api.Sort) bool {
	return s == "Bool" || s == "Int" || slices.Contains(l, s)
}

func wantCheck(s api.Sign, f api.Fun) api.Errno {
	if !wantName(f.Name) {
		return api.ErrName
	}
	if len(f.Args) > 8 {
		return api.ErrArity
	}
	for _, a := range f.Args {
		if a == "Bool" || !wantKnown(s.Sorts, a) {
			return api.ErrSort
		}
	}
	if !wantKnown(s.Sorts, f.Res) {
		return api.ErrSort
	}
	return api.OK
}

func wantSorts(l []api.Sort) api.Errno {
	if len(l) > 64 {
		return api.ErrLong
	}
	for i, x := range l {
		if !wantName(x) || x == "Bool" || x == "Int" {
			return api.ErrName
		}
		if slices.Contains(l[:i], x) {
			return api.ErrSame
		}
	}
	return api.OK
}

func wantRight(s api.Sign) api.Errno {
	if e := wantSorts(s.Sorts); e != api.OK {
		return e
	}
	if len(s.Funs) > 256 {
		return api.ErrLong
	}
	names := map[string]bool{}
	for _, f := range s.Funs {
		if e := wantCheck(s, f); e != api.OK {
			return e
		}
		if names[f.Name] {
			return api.ErrSame
		}
		names[f.Name] = true
	}
	return api.OK
}

func wantFind(s api.Sign, name string) (api.Fun, bool) {
	for _, f := range s.Funs {
		if f.Name == name {
			return f, true
		}
	}
	return api.Fun{}, false
}

func wantSort(s api.Sign, name api.Sort) (api.Sign, api.Errno) {
	if !wantName(name) || name == "Bool" || name == "Int" {
		return api.Sign{}, api.ErrName
	}
	if slices.Contains(s.Sorts, name) {
		return api.Sign{}, api.ErrSame
	}
	if len(s.Sorts) >= 64 {
		return api.Sign{}, api.ErrLong
	}
	if _, ok := wantFind(s, name); ok {
		return api.Sign{}, api.ErrSame
	}
	after := copySign(s)
	after.Sorts = append(after.Sorts, name)
	return after, api.OK
}

func wantFun(s api.Sign, f api.Fun) (api.Sign, api.Errno) {
	if e := wantCheck(s, f); e != api.OK {
		return api.Sign{}, e
	}
	if _, ok := wantFind(s, f.Name); ok || wantKnown(s.Sorts, f.Name) {
		return api.Sign{}, api.ErrSame
	}
	if len(s.Funs) >= 256 {
		return api.Sign{}, api.ErrLong
	}
	after := copySign(s)
	after.Funs = append(after.Funs, copyFun(f))
	return after, api.OK
}

func wantConsts(s api.Sign, of api.Sort) []string {
	var l []string
	for _, f := range s.Funs {
		if len(f.Args) == 0 && f.Res == of {
			l = append(l, f.Name)
		}
	}
	return l
}

// unchanged calls f and holds s against what it was ahead of the call.
func unchanged(t *testing.T, s api.Sign, f func()) {
	t.Helper()
	if said := (sample.Data{Signs: []api.Sign{s}}).Changed(f); said != "" {
		t.Error(said)
	}
}

func checkRight(t *testing.T, s api.Sign, want api.Errno) {
	t.Helper()
	unchanged(t, s, func() {
		t.Helper()
		if got := Right(s); got != want {
			t.Errorf("Right(%s) is %d; want %d", briefSign(s), got, want)
		}
	})
}

func checkCheck(t *testing.T, s api.Sign, f api.Fun, want api.Errno) {
	t.Helper()
	before := copyFun(f)
	unchanged(t, s, func() {
		t.Helper()
		if got := Check(s, f); got != want {
			t.Errorf("Check(%s, %s) is %d; want %d", briefSign(s), briefFun(f), got, want)
		}
	})
	if !equalFuns(f, before) {
		t.Errorf("Check changed %s to %s", briefFun(before), briefFun(f))
	}
}

func checkSort(t *testing.T, s api.Sign, name api.Sort, want api.Sign, e api.Errno) {
	t.Helper()
	unchanged(t, s, func() {
		t.Helper()
		if got, f := Sort(s, name); !equalSigns(got, want) || f != e {
			t.Errorf("Sort(%s, %s) is %s, %d; want %s, %d", briefSign(s), brief([]string{name}), briefSign(got), f, briefSign(want), e)
		}
	})
}

func checkFun(t *testing.T, s api.Sign, f api.Fun, want api.Sign, e api.Errno) {
	t.Helper()
	before := copyFun(f)
	unchanged(t, s, func() {
		t.Helper()
		if got, g := Fun(s, f); !equalSigns(got, want) || g != e {
			t.Errorf("Fun(%s, %s) is %s, %d; want %s, %d", briefSign(s), briefFun(f), briefSign(got), g, briefSign(want), e)
		}
	})
	if !equalFuns(f, before) {
		t.Errorf("Fun changed %s to %s", briefFun(before), briefFun(f))
	}
}

func checkFind(t *testing.T, s api.Sign, name string, want api.Fun, ok bool) {
	t.Helper()
	unchanged(t, s, func() {
		t.Helper()
		if got, found := Find(s, name); !equalFuns(got, want) || found != ok {
			t.Errorf("Find(%s, %s) is %s, %v; want %s, %v", briefSign(s), brief([]string{name}), briefFun(got), found, briefFun(want), ok)
		}
	})
}

func checkSame(t *testing.T, a, b api.Sign, want bool) {
	t.Helper()
	unchanged(t, a, func() {
		t.Helper()
		unchanged(t, b, func() {
			t.Helper()
			if Same(a, b) != want || Same(b, a) != want {
				t.Errorf("Same(%s; %s) is %v, and %v the other way round; want %v", briefSign(a), briefSign(b), Same(a, b), Same(b, a), want)
			}
		})
	})
}

func checkConsts(t *testing.T, s api.Sign, of api.Sort, want []string) {
	t.Helper()
	unchanged(t, s, func() {
		t.Helper()
		if got := Consts(s, of); !slices.Equal(got, want) {
			t.Errorf("Consts(%s, %s) is %s; want %s", briefSign(s), brief([]string{of}), brief(got), brief(want))
		}
	})
}

// many is a signature of the sorts A and B and n functions with different names, valid if they are not too many.
func many(n int) api.Sign {
	s := sg("A B")
	for i := range n {
		s.Funs = append(s.Funs, fn("f"+strconv.Itoa(i), []string{"", "A", "A Int", "B A B"}[i%4], []api.Sort{"A", "B", "Int", "Bool"}[i/4%4]))
	}
	return s
}

// manySorts is a signature of n different sorts without functions.
func manySorts(n int) api.Sign {
	s := api.Sign{}
	for i := range n {
		s.Sorts = append(s.Sorts, "S"+strconv.Itoa(i))
	}
	return s
}

// with is s with f in place of its function i.
func with(s api.Sign, i int, f api.Fun) api.Sign {
	s.Funs = slices.Clone(s.Funs)
	s.Funs[i] = f
	return s
}

// plus is s with the functions behind its own.
func plus(s api.Sign, funs ...api.Fun) api.Sign {
	s.Funs = slices.Concat(s.Funs, funs)
	return s
}

// strange are sorts that no signature of the tests has, and texts that are no names.
func strange() []api.Sort {
	return []api.Sort{"C", "", " ", "a", "A ", " A", "AA", "A'", "bool", "BOOL", "Boo", "Bools", "int", "INT", "In", "Int ", "true", "sort", "1", "\xff", "A\x00", "ä", strings.Repeat("A", 33), strings.Repeat("A", api.MaxText+1)}
}

// pool are functions of which the signatures of the tests below are made: some of them fit, some have one error, some have several.
func pool() []api.Fun {
	return []api.Fun{
		fn("c", "", "A"), fn("c", "", "B"), fn("d", "", "Int"), fn("f", "A", "A"), fn("f", "A Int", "Bool"), fn("p", "", "Bool"), fn("A", "A", "A"), fn("B", "", "B"), fn("Int", "", "Int"), fn("Bool", "Int", "A"),
		fn("g", "A A A A A A A A", "A"), fn("g", "A A A A A A A A A", "A"), fn("h", "Bool", "A"), fn("h", "A Bool", "C"), fn("h", "C", "Bool"), fn("c", "", "C"), {Name: "c", Args: []api.Sort{""}, Res: ""},
		fn("qed", "", "A"), fn("true", "Bool Bool Bool Bool Bool Bool Bool Bool Bool", "C"), {}, {Name: "1", Args: make([]api.Sort, 9)}, {Name: "e", Args: make([]api.Sort, 9)}, fn(strings.Repeat("a", 33), "", "A"),
	}
}

// somePools are lists of sorts of the signatures of the tests below.
func somePools() [][]api.Sort {
	return [][]api.Sort{nil, {"A"}, {"A", "B"}, {"B", "A", "C"}, {"c", "f"}, {"A", "A"}, {"A", "Bool"}, {"Int", "C"}, {"", "A"}, {"true", "C", "C"}}
}

// someSigns calls f with signatures of the sorts and at most two of the functions above, and with signatures at the limits that have an error or two at many places.
func someSigns(f func(api.Sign)) {
	l := pool()
	for _, names := range somePools() {
		f(api.Sign{Sorts: names})
		for _, x := range l {
			f(api.Sign{Sorts: names, Funs: []api.Fun{x}})
			for _, y := range l {
				f(api.Sign{Sorts: names, Funs: []api.Fun{x, y}})
			}
		}
	}
	for n := 254; n <= 258; n++ {
		s := many(n)
		f(s)
		for i, x := range l {
			f(with(s, (i*37+5)%n, x))
			f(with(with(s, (i*11)%n, x), (i*53+n-1)%n, s.Funs[(i*29+3)%n]))
		}
	}
	for n := 63; n <= 66; n++ {
		for _, x := range l {
			s := manySorts(n)
			f(plus(s, x))
			f(api.Sign{Sorts: append(s.Sorts, x.Name, "A"), Funs: []api.Fun{x}})
			s.Sorts[n/2] = "A"
			f(plus(s, x, fn("S1", "", "S2")))
		}
	}
}

// Promise 6.1.

func TestCheck(t *testing.T) {
	s := sg("A B")
	for _, f := range []api.Fun{
		fn("c", "", "A"), fn("c", "", "B"), fn("c", "", "Int"), fn("r", "", "Bool"), fn("f", "A", "A"), fn("f", "A B Int A", "B"), fn("p", "A Int", "Bool"), fn("f", "Int Int", "Int"), {Name: "f", Args: []api.Sort{}, Res: "A"},
	} {
		checkCheck(t, s, f, api.OK)
		checkCheck(t, sg("B A C"), f, api.OK)
	}
	checkCheck(t, sg("A"), fn("f", "A", "A"), api.OK)
	checkCheck(t, sg("A"), fn("p", "Bool", "A"), api.ErrSort)
	checkCheck(t, sg("A"), fn("true", "", "A"), api.ErrName)
	checkCheck(t, api.Sign{}, fn("c", "", "Int"), api.OK)
	checkCheck(t, api.Sign{}, fn("p", "Int", "Bool"), api.OK)
	checkCheck(t, api.Sign{}, fn("c", "", "A"), api.ErrSort)
	checkCheck(t, api.Sign{}, fn("p", "A", "Bool"), api.ErrSort)
	checkCheck(t, api.Sign{}, api.Fun{}, api.ErrName)
	checkCheck(t, s, api.Fun{}, api.ErrName)
	checkCheck(t, s, api.Fun{Name: "f"}, api.ErrSort)
}

func TestCheckOfNames(t *testing.T) {
	for _, s := range []api.Sign{{}, sg("A"), many(256)} {
		for _, name := range good() {
			checkCheck(t, s, fn(name, "Int", "Bool"), api.OK)
		}
		for _, name := range bad() {
			checkCheck(t, s, fn(name, "Int", "Bool"), api.ErrName)
		}
	}
	if n := len(words()); n != 34 {
		t.Error(n, "words")
	}
	for b := range 256 {
		c := string([]byte{byte(b)})
		for _, name := range []string{c, "f" + c, c + "f", "f" + strings.Repeat("a", 30) + c, strings.Repeat("a", 32) + c} {
			f := fn(name, "", "Int")
			checkCheck(t, api.Sign{}, f, wantCheck(api.Sign{}, f))
		}
	}
}

// Neither the names that are there nor what else is wrong with a signature matters to Check.
func TestCheckOfTakenNamesAndWrongSignatures(t *testing.T) {
	s := sg("A B", fn("f", "A", "A"), fn("f", "", "B"), fn("true", "C", "D"))
	for _, name := range []string{"f", "A", "B", "Int", "Bool", "g"} {
		checkCheck(t, s, fn(name, "A", "B"), api.OK)
	}
	checkCheck(t, many(300), fn("f0", "A Int", "B"), api.OK)
	checkCheck(t, many(300), fn("f0", "A C", "B"), api.ErrSort)
	checkCheck(t, manySorts(1000), fn("f", "S0 S999", "S998"), api.OK)
	checkCheck(t, manySorts(1000), fn("f", "S0 S1000", "S998"), api.ErrSort)
	wrong := api.Sign{Sorts: []api.Sort{"Bool", "A", "A", "true", "", "1", "Int"}}
	checkCheck(t, wrong, api.Fun{Name: "f", Args: []api.Sort{"true", "", "1", "A", "Int"}, Res: "1"}, api.OK)
	checkCheck(t, wrong, api.Fun{Name: "f", Res: ""}, api.OK)
	checkCheck(t, wrong, fn("f", "Bool", "A"), api.ErrSort)
	checkCheck(t, wrong, fn("f", "A Bool", "true"), api.ErrSort)
	checkCheck(t, wrong, fn("f", "2", "A"), api.ErrSort)
	checkCheck(t, wrong, fn("f", "1", "2"), api.ErrSort)
}

func TestCheckOfArgs(t *testing.T) {
	s := sg("A B")
	for n := range 9 {
		checkCheck(t, s, api.Fun{Name: "f", Args: slices.Repeat([]api.Sort{"A"}, n), Res: "B"}, api.OK)
		checkCheck(t, s, api.Fun{Name: "f", Args: slices.Repeat([]api.Sort{"Int"}, n), Res: "Bool"}, api.OK)
		for i := range n {
			for _, a := range append(strange(), "Bool") {
				args := slices.Repeat([]api.Sort{"A"}, n)
				args[i] = a
				checkCheck(t, s, api.Fun{Name: "f", Args: args, Res: "A"}, api.ErrSort)
			}
		}
	}
	for _, n := range []int{9, 10, 16, 64, 65, 256, 257, 1 << 16} {
		checkCheck(t, s, api.Fun{Name: "f", Args: slices.Repeat([]api.Sort{"A"}, n), Res: "B"}, api.ErrArity)
	}
	if api.MaxArgs != 8 || api.MaxFuns != 256 {
		t.Error(api.MaxArgs, api.MaxFuns)
	}
}

func TestCheckOfRes(t *testing.T) {
	for _, args := range []string{"", "A", "Int B A"} {
		for _, res := range []api.Sort{"A", "B", "Int", "Bool"} {
			checkCheck(t, sg("A B"), fn("f", args, res), api.OK)
		}
		for _, res := range strange() {
			checkCheck(t, sg("A B"), fn("f", args, res), api.ErrSort)
		}
	}
}

// A wrong name comes ahead of too many Args, and these come ahead of a wrong sort.
func TestCheckErrorsInOrder(t *testing.T) {
	nine := slices.Repeat([]api.Sort{"A"}, 9)
	wrong := slices.Repeat([]api.Sort{"Bool"}, 9)
	for _, name := range []string{"", "true", "1", strings.Repeat("a", 33)} {
		for _, args := range [][]api.Sort{nil, {"A"}, {"Bool"}, {"C"}, nine, wrong} {
			for _, res := range []api.Sort{"A", "Bool", "C", ""} {
				checkCheck(t, sg("A"), api.Fun{Name: name, Args: args, Res: res}, api.ErrName)
			}
		}
	}
	for _, args := range [][]api.Sort{nine, wrong, make([]api.Sort, 9), make([]api.Sort, 300)} {
		for _, res := range []api.Sort{"A", "Bool", "C", ""} {
			checkCheck(t, sg("A"), api.Fun{Name: "f", Args: args, Res: res}, api.ErrArity)
		}
	}
}

func TestRight(t *testing.T) {
	for _, s := range []api.Sign{
		{}, {Sorts: []api.Sort{}, Funs: []api.Fun{}}, sg("A"), sg("B A"), sg("", fn("c", "", "Int")), sg("", fn("c", "", "Int"), fn("p", "Int", "Bool")), sg("A", fn("f", "A", "A")), sg("A", fn("f", "A", "A"), fn("F", "A", "A")),
		sg("A B", fn("c", "", "A"), fn("f", "A B", "B"), fn("d", "", "A")), many(1), many(17), manySorts(64),
	} {
		checkRight(t, s, api.OK)
	}
	checkRight(t, sg("A", fn("p", "Bool", "A")), api.ErrSort)
	checkRight(t, sg("A", fn("true", "", "A")), api.ErrName)
	checkRight(t, sg("A", fn("f", "A", "A"), fn("f", "A", "A")), api.ErrSame)
	checkRight(t, sg("A", fn("f", "A", "A"), fn("g", "A", "A"), fn("f", "", "Bool")), api.ErrSame)
	checkRight(t, sg("A", fn("f", "B", "A")), api.ErrSort)
	checkRight(t, sg("A", fn("f", "A", "B")), api.ErrSort)
	checkRight(t, sg("", fn("f", "", "A")), api.ErrSort)
	checkRight(t, sg("A", fn("f", "A A A A A A A A", "A")), api.OK)
	checkRight(t, sg("A", fn("f", "A A A A A A A A A", "A")), api.ErrArity)
	checkRight(t, sg("A", api.Fun{}), api.ErrName)
	checkRight(t, api.Sign{Funs: make([]api.Fun, 1)}, api.ErrName)
}

// A function with the name of a sort, of Bool or of Int is right.
func TestRightOfNamesOfSorts(t *testing.T) {
	checkRight(t, sg("A B", fn("A", "A", "B"), fn("B", "", "A")), api.OK)
	checkRight(t, sg("A", fn("Int", "", "Int"), fn("Bool", "Int", "Bool")), api.OK)
	checkRight(t, sg("A", fn("A", "", "A"), fn("A", "", "A")), api.ErrSame)
	checkRight(t, sg("A", fn("Int", "", "A"), fn("Int", "", "A")), api.ErrSame)
}

func TestRightOfNames(t *testing.T) {
	all := sg("A")
	for _, name := range good() {
		checkRight(t, sg("A", fn(name, "", "A")), api.OK)
		checkRight(t, sg("A", fn(name, "", "A"), fn(name, "", "A")), api.ErrSame)
		checkRight(t, sg("A", fn("other", "", "A"), fn(name, "", "A"), fn("another", "A", "A"), fn(name, "A", "Int")), api.ErrSame)
		all = plus(all, fn(name, "A", "Int"))
	}
	checkRight(t, all, api.OK)
	for _, name := range bad() {
		checkRight(t, sg("A", fn(name, "", "A")), api.ErrName)
		checkRight(t, sg("A", fn(name, "", "A"), fn(name, "", "A")), api.ErrName)
		checkRight(t, sg("A", fn("f", "", "A"), fn(name, "", "A")), api.ErrName)
		checkRight(t, plus(many(255), fn(name, "", "A")), api.ErrName)
	}
}

func TestRightAtTheLimits(t *testing.T) {
	for n, want := range map[int]api.Errno{1: api.OK, 64: api.OK, 65: api.OK, 254: api.OK, 255: api.OK, 256: api.OK, 257: api.ErrLong, 258: api.ErrLong, 1000: api.ErrLong, 1 << 14: api.ErrLong} {
		checkRight(t, many(n), want)
	}
	for n, want := range map[int]api.Errno{1: api.OK, 63: api.OK, 64: api.OK, 65: api.ErrLong, 66: api.ErrLong, 256: api.ErrLong} {
		checkRight(t, manySorts(n), want)
		checkRight(t, plus(manySorts(n), fn("f", "S0", "S0")), want)
	}
	full := many(256)
	full.Sorts = manySorts(62).Sorts
	full.Sorts = append(full.Sorts, "A", "B")
	checkRight(t, full, api.OK)
}

// The sorts come first, then the number of functions, and then one function after another.
func TestRightErrorsInOrder(t *testing.T) {
	wrong := []api.Fun{fn("true", "", "A")}
	for _, funs := range [][]api.Fun{nil, wrong, many(257).Funs, make([]api.Fun, 300)} {
		checkRight(t, api.Sign{Sorts: []api.Sort{"A", "A"}, Funs: funs}, api.ErrSame)
		checkRight(t, api.Sign{Sorts: []api.Sort{"A", "Bool"}, Funs: funs}, api.ErrName)
		checkRight(t, api.Sign{Sorts: []api.Sort{"A", "B", "A", "true"}, Funs: funs}, api.ErrSame)
		checkRight(t, api.Sign{Sorts: []api.Sort{"A", "", "A"}, Funs: funs}, api.ErrName)
		checkRight(t, api.Sign{Sorts: make([]api.Sort, 65), Funs: funs}, api.ErrLong)
	}
	checkRight(t, api.Sign{Sorts: []api.Sort{"A", "A"}, Funs: []api.Fun{fn("f", "C", "A")}}, api.ErrSame)
	for _, f := range pool() {
		for _, i := range []int{0, 1, 128, 255, 256} {
			checkRight(t, with(many(257), i, f), api.ErrLong)
		}
	}
	checkRight(t, api.Sign{Funs: make([]api.Fun, 257)}, api.ErrLong)
	checkRight(t, api.Sign{Funs: make([]api.Fun, 256)}, api.ErrName)
}

// Of several functions that have an error the first one counts; of several errors of one function that of Check.
func TestTheFirstErrorCounts(t *testing.T) {
	f, same := fn("f", "A", "A"), fn("f", "", "Int")
	name, arity, sort := fn("sort", "", "A"), fn("a", "A A A A A A A A A", "A"), fn("s", "Bool", "A")
	checkRight(t, sg("A", f, same, name, arity, sort), api.ErrSame)
	checkRight(t, sg("A", f, name, same, arity, sort), api.ErrName)
	checkRight(t, sg("A", f, arity, name, same, sort), api.ErrArity)
	checkRight(t, sg("A", f, sort, arity, name, same), api.ErrSort)
	checkRight(t, sg("A", f, fn("f", "Bool", "A")), api.ErrSort)
	checkRight(t, sg("A", f, fn("f", "", "C")), api.ErrSort)
	checkRight(t, sg("A", f, fn("f", "A A A A A A A A A", "A")), api.ErrArity)
	checkRight(t, sg("A", name, name), api.ErrName)
	checkRight(t, sg("A", fn("f", "", "C"), f), api.ErrSort)
	checkRight(t, sg("A", sort, f, f), api.ErrSort)
	checkRight(t, sg("A", f, f, sort), api.ErrSame)
	full := many(256)
	for _, i := range []int{1, 2, 100, 254, 255} {
		for _, j := range []int{0, i / 2, i - 1} {
			double := with(full, i, fn(full.Funs[j].Name, "A", "B"))
			checkRight(t, double, api.ErrSame)
			checkRight(t, with(double, j, full.Funs[j]), api.ErrSame)
			checkRight(t, with(full, i, fn(full.Funs[j].Name, "", "C")), api.ErrSort)
		}
		for e, x := range map[api.Errno]api.Fun{api.ErrName: name, api.ErrArity: arity, api.ErrSort: sort} {
			checkRight(t, with(full, i, x), e)
			checkRight(t, with(with(full, i, x), i-1, x), e)
			checkRight(t, with(with(full, i, x), 0, fn("p", "", "C")), api.ErrSort)
		}
	}
}

// Promise 6.2.

func TestSort(t *testing.T) {
	checkSort(t, api.Sign{}, "A", sg("A"), api.OK)
	checkSort(t, api.Sign{Sorts: []api.Sort{}, Funs: []api.Fun{}}, "A", sg("A"), api.OK)
	checkSort(t, sg("A"), "B", sg("A B"), api.OK)
	checkSort(t, sg("B C"), "A", sg("B C A"), api.OK)
	checkSort(t, sg("A", fn("f", "A", "A"), fn("c", "", "Int")), "B", sg("A B", fn("f", "A", "A"), fn("c", "", "Int")), api.OK)
	checkSort(t, sg("A", fn("f", "A", "A")), "F", sg("A F", fn("f", "A", "A")), api.OK)
	checkSort(t, sg("A"), "A", api.Sign{}, api.ErrSame)
	checkSort(t, sg("B A C"), "A", api.Sign{}, api.ErrSame)
	checkSort(t, sg("A"), "Bool", api.Sign{}, api.ErrName)
	checkSort(t, sg("A"), "Int", api.Sign{}, api.ErrName)
	checkSort(t, sg("A", fn("f", "A", "A")), "f", api.Sign{}, api.ErrSame)
	checkSort(t, sg("A", fn("c", "", "A"), fn("f", "A", "A")), "c", api.Sign{}, api.ErrSame)
	for _, s := range []api.Sign{{}, sg("A", fn("h", "A", "A")), sg("A B", many(256).Funs[2:]...)} {
		for _, name := range good() {
			want, e := copySign(s), api.OK
			want.Sorts = append(want.Sorts, name)
			if name == "Bool" || name == "Int" {
				want, e = api.Sign{}, api.ErrName
			}
			checkSort(t, s, name, want, e)
		}
		for _, name := range bad() {
			checkSort(t, s, name, api.Sign{}, api.ErrName)
		}
	}
}

func TestSortAtTheLimits(t *testing.T) {
	for _, n := range []int{0, 1, 62, 63} {
		checkSort(t, manySorts(n), "A", api.Sign{Sorts: append(manySorts(n).Sorts, "A")}, api.OK)
	}
	for _, n := range []int{64, 65, 66, 1000} {
		checkSort(t, manySorts(n), "A", api.Sign{}, api.ErrLong)
	}
	for _, n := range []int{255, 256, 257, 1000} {
		want := many(n)
		want.Sorts = append(want.Sorts, "C")
		checkSort(t, many(n), "C", want, api.OK)
		for _, i := range []int{0, 1, n / 2, n - 1} {
			checkSort(t, many(n), "f"+strconv.Itoa(i), api.Sign{}, api.ErrSame)
		}
	}
}

// All errors of a list of sorts come ahead of a function with the name.
func TestSortErrorsInOrder(t *testing.T) {
	for _, n := range []int{64, 65, 1000} {
		checkSort(t, plus(manySorts(n), fn("f", "", "Int")), "f", api.Sign{}, api.ErrLong)
		checkSort(t, plus(manySorts(n), fn("S0", "", "Int")), "S0", api.Sign{}, api.ErrSame)
		checkSort(t, plus(manySorts(n), fn("true", "", "Int")), "true", api.Sign{}, api.ErrName)
	}
	checkSort(t, plus(manySorts(63), fn("f", "", "Int")), "f", api.Sign{}, api.ErrSame)
	checkSort(t, sg("A", fn("A", "", "A")), "A", api.Sign{}, api.ErrSame)
	for _, name := range append(bad(), "Bool", "Int") {
		checkSort(t, api.Sign{Sorts: []api.Sort{name}, Funs: []api.Fun{{Name: name}}}, name, api.Sign{}, api.ErrName)
	}
}

// Sort and Fun look at nothing in a signature but what the chapter names.
func TestSortAndFunOfWrongSignatures(t *testing.T) {
	wrong := api.Sign{Sorts: []api.Sort{"A", "A", "Bool", "true", ""}, Funs: []api.Fun{fn("f", "C", "D"), fn("f", "", "A"), {}, fn("g", "A A A A A A A A A", ""), fn("qed", "Bool", "A")}}
	want := copySign(wrong)
	want.Sorts = append(want.Sorts, "B")
	checkSort(t, wrong, "B", want, api.OK)
	checkSort(t, wrong, "f", api.Sign{}, api.ErrSame)
	checkSort(t, wrong, "g", api.Sign{}, api.ErrSame)
	checkSort(t, wrong, "A", api.Sign{}, api.ErrSame)
	checkSort(t, wrong, "qed", api.Sign{}, api.ErrName)
	want = copySign(wrong)
	want.Funs = append(want.Funs, api.Fun{Name: "h", Args: []api.Sort{"true", "", "A"}, Res: ""})
	checkFun(t, wrong, api.Fun{Name: "h", Args: []api.Sort{"true", "", "A"}, Res: ""}, want, api.OK)
	checkFun(t, wrong, fn("h", "C", "A"), api.Sign{}, api.ErrSort)
	checkFun(t, wrong, fn("h", "Bool", "A"), api.Sign{}, api.ErrSort)
	checkFun(t, wrong, fn("g", "A", "A"), api.Sign{}, api.ErrSame)
	checkFun(t, wrong, fn("A", "A", "A"), api.Sign{}, api.ErrSame)
	long := api.Sign{Sorts: manySorts(100).Sorts, Funs: []api.Fun{fn("f", "S99", "S98")}}
	checkFun(t, long, fn("g", "S97", "S96"), plus(long, fn("g", "S97", "S96")), api.OK)
	checkFun(t, long, fn("S99", "S97", "S96"), api.Sign{}, api.ErrSame)
}

func TestFun(t *testing.T) {
	s := sg("A B", fn("c", "", "A"), fn("f", "A", "A"))
	checkFun(t, api.Sign{}, fn("c", "", "Int"), sg("", fn("c", "", "Int")), api.OK)
	checkFun(t, api.Sign{Sorts: []api.Sort{}, Funs: []api.Fun{}}, fn("p", "Int", "Bool"), sg("", fn("p", "Int", "Bool")), api.OK)
	for _, f := range []api.Fun{fn("d", "", "A"), fn("F", "A B Int", "B"), fn("p", "B", "Bool"), fn("a", "", "Int"), fn("ff", "A A A A A A A A", "A"), {Name: "e", Args: []api.Sort{}, Res: "A"}} {
		checkFun(t, s, f, sg("A B", fn("c", "", "A"), fn("f", "A", "A"), f), api.OK)
	}
	for _, f := range []api.Fun{fn("c", "", "A"), fn("f", "A", "A"), fn("f", "", "Int"), fn("c", "B B", "Bool"), fn("A", "", "A"), fn("B", "A", "A"), fn("Int", "", "A"), fn("Int", "", "Int"), fn("Bool", "", "A"), fn("Bool", "A", "Bool")} {
		checkFun(t, s, f, api.Sign{}, api.ErrSame)
	}
	checkFun(t, s, fn("A", "", "B"), api.Sign{}, api.ErrSame)
	checkFun(t, sg("", fn("c", "", "Int")), fn("A", "", "Int"), sg("", fn("c", "", "Int"), fn("A", "", "Int")), api.OK)
	checkFun(t, api.Sign{}, fn("Int", "", "Int"), api.Sign{}, api.ErrSame)
	checkFun(t, api.Sign{}, fn("Bool", "", "Bool"), api.Sign{}, api.ErrSame)
	checkFun(t, s, fn("g", "Bool", "A"), api.Sign{}, api.ErrSort)
	checkFun(t, s, fn("g", "A", "C"), api.Sign{}, api.ErrSort)
	checkFun(t, s, fn("g", "C", "A"), api.Sign{}, api.ErrSort)
	checkFun(t, s, fn("g", "A A A A A A A A A", "A"), api.Sign{}, api.ErrArity)
	checkFun(t, s, api.Fun{}, api.Sign{}, api.ErrName)
	for _, name := range good() {
		if name != "f" && name != "Int" && name != "Bool" {
			checkFun(t, s, fn(name, "B", "A"), plus(s, fn(name, "B", "A")), api.OK)
		}
	}
	for _, name := range bad() {
		checkFun(t, s, fn(name, "B", "A"), api.Sign{}, api.ErrName)
	}
}

func TestFunAtTheLimit(t *testing.T) {
	f := fn("g", "A Int", "B")
	for _, n := range []int{0, 1, 63, 64, 65, 254, 255} {
		checkFun(t, many(n), f, plus(many(n), f), api.OK)
	}
	for _, n := range []int{256, 257, 258, 1000} {
		checkFun(t, many(n), f, api.Sign{}, api.ErrLong)
	}
	checkFun(t, plus(manySorts(64), fn("f", "", "Int")), fn("g", "S63", "S0"), plus(manySorts(64), fn("f", "", "Int"), fn("g", "S63", "S0")), api.OK)
}

// An error of the function comes ahead of a name that is there, and this ahead of a signature that is full.
func TestFunErrorsInOrder(t *testing.T) {
	for _, n := range []int{1, 255, 256, 257} {
		s := plus(many(n), fn("true", "", "A"))
		for _, i := range []int{0, n / 2, n - 1} {
			name := "f" + strconv.Itoa(i)
			checkFun(t, s, fn(name, "A", "A"), api.Sign{}, api.ErrSame)
			checkFun(t, s, fn(name, "Bool", "A"), api.Sign{}, api.ErrSort)
			checkFun(t, s, fn(name, "A", "C"), api.Sign{}, api.ErrSort)
			checkFun(t, s, fn(name, "A A A A A A A A A", "A"), api.Sign{}, api.ErrArity)
		}
		for _, name := range []string{"A", "B", "Int", "Bool"} {
			checkFun(t, s, fn(name, "", "A"), api.Sign{}, api.ErrSame)
			checkFun(t, s, fn(name, "Bool", "A"), api.Sign{}, api.ErrSort)
		}
		checkFun(t, s, fn("true", "Bool", "C"), api.Sign{}, api.ErrName)
	}
	for _, n := range []int{256, 257} {
		checkFun(t, many(n), fn("g", "C", "A"), api.Sign{}, api.ErrSort)
		checkFun(t, many(n), fn("1", "C", "A"), api.Sign{}, api.ErrName)
	}
}

func TestFind(t *testing.T) {
	s := sg("A B", fn("c", "", "A"), fn("f", "A B", "B"), fn("d", "", "Int"), fn("p", "A", "Bool"))
	for _, f := range s.Funs {
		checkFind(t, s, f.Name, f, true)
	}
	for _, name := range append(bad(), "C", "F", "cc", "A", "B", "Bool", "Int", "c ", " c") {
		checkFind(t, s, name, api.Fun{}, false)
		checkFind(t, api.Sign{}, name, api.Fun{}, false)
	}
	checkFind(t, api.Sign{}, "f", api.Fun{}, false)
	for _, n := range []int{255, 256, 257, 1000} {
		s := many(n)
		for i, f := range s.Funs {
			if i < 3 || i > n-3 || i%50 == 0 {
				checkFind(t, s, f.Name, f, true)
			}
		}
		checkFind(t, s, "f"+strconv.Itoa(n), api.Fun{}, false)
	}
}

// Find looks at names alone, and the first one counts.
func TestFindInWrongSignatures(t *testing.T) {
	one, two, three := fn("f", "C", "D"), fn("f", "", "A"), fn("f", "A", "A")
	checkFind(t, sg("A", one, two, three), "f", one, true)
	checkFind(t, sg("A", two, one), "f", two, true)
	checkFind(t, sg("A", fn("g", "", "A"), three, fn("h", "", "A"), two), "f", three, true)
	for _, name := range append(bad(), "A", "Int", "Bool") {
		f := api.Fun{Name: name, Args: make([]api.Sort, 12), Res: "nowhere"}
		checkFind(t, sg("A", two, f, api.Fun{Name: name}), name, f, true)
	}
	checkFind(t, sg("A", api.Fun{}), "", api.Fun{}, true)
	checkFind(t, sg("A", two, api.Fun{Res: "x"}), "", api.Fun{Res: "x"}, true)
}

func TestSame(t *testing.T) {
	f := fn("f", "A B", "A")
	s := sg("A B", fn("c", "", "A"), f)
	checkSame(t, s, s, true)
	checkSame(t, s, copySign(s), true)
	checkSame(t, api.Sign{}, api.Sign{}, true)
	checkSame(t, s, api.Sign{}, false)
	checkSame(t, api.Sign{}, sg("A"), false)
	checkSame(t, api.Sign{}, sg("", fn("c", "", "Int")), false)
	for _, other := range []api.Sign{
		sg("A"), sg("B A"), sg("A B C"), sg("A C"), sg("a B"), sg("AB"), sg("A A B"),
	} {
		checkSame(t, sg("A B"), other, false)
		checkSame(t, s, plus(other, s.Funs...), false)
	}
	for _, g := range []api.Fun{
		fn("g", "A B", "A"), fn("F", "A B", "A"), fn("", "A B", "A"), fn("f", "B A", "A"), fn("f", "A", "A"), fn("f", "B", "A"), fn("f", "", "A"), fn("f", "A B B", "A"), fn("f", "A A", "A"), fn("f", "AB", "A"), fn("f", "A B", "B"),
		fn("f", "A B", ""), fn("f", "A B", "Bool"), fn("f", "A B A", ""), {},
	} {
		checkSame(t, sg("A B", f), sg("A B", g), false)
		checkSame(t, s, with(s, 1, g), false)
		checkSame(t, plus(s, f), plus(s, g), false)
		checkSame(t, plus(s, f, g), plus(s, g, f), false)
		checkSame(t, plus(s, g), plus(s, g), true)
	}
	checkSame(t, s, sg("A B", f), false)
	checkSame(t, s, plus(s, f), false)
	checkSame(t, s, sg("A B", f, fn("c", "", "A")), false)
	checkSame(t, many(300), many(300), true)
	checkSame(t, many(300), many(299), false)
	checkSame(t, many(300), with(many(300), 299, f), false)
}

// A nil list and an empty one are the same, wherever they stand.
func TestSameOfEmptyLists(t *testing.T) {
	lists := [][]api.Sort{nil, {}, make([]api.Sort, 0, 5)}
	for _, l := range lists {
		for _, m := range lists {
			checkSame(t, api.Sign{Sorts: l}, api.Sign{Sorts: m, Funs: []api.Fun{}}, true)
			checkSame(t, sg("A", api.Fun{Name: "c", Args: l, Res: "A"}), sg("A", api.Fun{Name: "c", Args: m, Res: "A"}), true)
			checkSame(t, sg("A", api.Fun{Name: "c", Args: l, Res: "A"}), sg("A", api.Fun{Name: "c", Args: m, Res: "B"}), false)
		}
		checkSame(t, api.Sign{Sorts: l}, api.Sign{Sorts: []api.Sort{""}}, false)
		checkSame(t, sg("A", api.Fun{Name: "c", Args: l, Res: "A"}), sg("A", api.Fun{Name: "c", Args: []api.Sort{""}, Res: "A"}), false)
		checkSame(t, sg("A", api.Fun{Args: l}), sg("A"), false)
	}
}

func TestConsts(t *testing.T) {
	s := sg("A B", fn("c", "", "A"), fn("f", "A", "A"), fn("d", "", "A"))
	checkConsts(t, s, "A", []string{"c", "d"})
	for _, of := range append(strange(), "B", "Int", "Bool", "c") {
		checkConsts(t, s, of, nil)
		checkConsts(t, api.Sign{}, of, nil)
	}
	s = sg("A B", fn("z", "", "A"), fn("p", "", "Bool"), fn("q", "Int", "Bool"), fn("n", "", "Int"), fn("g", "A", "Int"), fn("b", "", "B"), api.Fun{Name: "a", Args: []api.Sort{}, Res: "A"}, fn("r", "", "Bool"), fn("h", "B A", "A"))
	checkConsts(t, s, "A", []string{"z", "a"})
	checkConsts(t, s, "B", []string{"b"})
	checkConsts(t, s, "Int", []string{"n"})
	checkConsts(t, s, "Bool", []string{"p", "r"})
	checkConsts(t, s, "", nil)
	for _, n := range []int{255, 256, 257, 1000} {
		for _, of := range []api.Sort{"A", "B", "Int", "Bool", "C"} {
			checkConsts(t, many(n), of, wantConsts(many(n), of))
		}
	}
}

// A signature need not be valid: Consts looks at Args and Res alone, and repeats a name.
func TestConstsOfWrongSignatures(t *testing.T) {
	s := sg("A A true", fn("c", "", "A"), fn("c", "", "A"), fn("true", "", "C"), api.Fun{}, fn("A", "", "A"), fn("c", "", "C"), fn("c", "A A A A A A A A A", "C"), api.Fun{Name: "x", Args: []api.Sort{""}})
	checkConsts(t, s, "A", []string{"c", "c", "A"})
	checkConsts(t, s, "C", []string{"true", "c"})
	checkConsts(t, s, "", []string{""})
	checkConsts(t, s, "true", nil)
}

// roomy is s in memory of its own with free elements behind each of its lists; the second result tells whether one of them was written to.
func roomy(s api.Sign) (api.Sign, func() bool) {
	names := func(l []string) []string {
		return append(slices.Clone(l), "free", "free", "free")[:len(l)]
	}
	free := func(l []string) bool {
		return slices.Equal(l[len(l):len(l)+3], []string{"free", "free", "free"})
	}
	c := api.Sign{Sorts: names(s.Sorts)}
	for _, f := range append(slices.Clone(s.Funs), fn("free", "", "free"), fn("free", "", "free")) {
		c.Funs = append(c.Funs, api.Fun{Name: f.Name, Args: names(f.Args), Res: f.Res})
	}
	c.Funs = c.Funs[:len(s.Funs)]
	lists := [][]string{c.Sorts}
	for _, f := range c.Funs {
		lists = append(lists, f.Args)
	}
	funs := c.Funs
	return c, func() bool {
		for _, f := range funs[len(funs) : len(funs)+2] {
			if f.Name != "free" || f.Res != "free" {
				return true
			}
		}
		return slices.ContainsFunc(lists, func(l []string) bool { return !free(l) })
	}
}

// Neither may a result lie in what an argument is made of or in what is free behind it, nor two results or two lists of one result in each other.
func TestResultsShareNoMemory(t *testing.T) {
	g := fn("g", "B A Int", "Bool")
	for _, n := range []int{0, 1, 2, 3, 5, 40, 255} {
		for _, call := range []func(api.Sign, string) (api.Sign, api.Errno){
			func(s api.Sign, name string) (api.Sign, api.Errno) { return Sort(s, name) },
			func(s api.Sign, name string) (api.Sign, api.Errno) { return Fun(s, fn(name, "B A Int", "Bool")) },
			func(s api.Sign, name string) (api.Sign, api.Errno) { return Fun(s, fn(name, "", "A")) },
		} {
			s, written := roomy(many(n))
			first, e := call(s, "First")
			second, f := call(s, "Second")
			if e != api.OK || f != api.OK || written() || !equalSigns(s, many(n)) {
				t.Fatalf("%d and %d; behind a list was written: %v; the signature is %s", e, f, written(), briefSign(s))
			}
			wantFirst, wantSecond := copySign(first), copySign(second)
			if slices.Contains(wantSecond.Sorts, "First") || slices.ContainsFunc(wantSecond.Funs, func(f api.Fun) bool { return f.Name == "First" }) {
				t.Errorf("the second result is %s", briefSign(wantSecond))
			}
			spoil(first)
			if written() || !equalSigns(s, many(n)) || !equalSigns(second, wantSecond) {
				t.Errorf("a changed result changed %s or %s", briefSign(s), briefSign(second))
			}
			third, _ := call(s, "First")
			spoil(s)
			if !equalSigns(second, wantSecond) || !equalSigns(third, wantFirst) {
				t.Errorf("a changed argument changed %s or %s", briefSign(second), briefSign(third))
			}
		}
		s := many(n)
		f := copyFun(g)
		after, _ := Fun(s, f)
		spoilFun(&f)
		if !equalSigns(after, plus(many(n), g)) {
			t.Errorf("a changed function changed %s", briefSign(after))
		}
	}
}

// The function that is added may lie in the memory of the signature, and functions may share their Args.
func TestListsOfOneResultShareNoMemory(t *testing.T) {
	shared := []api.Sort{"A", "B", "A"}
	s := api.Sign{Sorts: shared[:2], Funs: []api.Fun{{Name: "f", Args: shared[:2], Res: "A"}, {Name: "g", Args: shared, Res: "A"}, {Name: "h", Args: shared[1:], Res: "B"}}}
	for _, last := range []string{"Sort", "Fun"} {
		var after, want api.Sign
		var e api.Errno
		if last == "Sort" {
			after, e = Sort(s, "C")
			want, _ = wantSort(s, "C")
		} else {
			after, e = Fun(s, api.Fun{Name: "i", Args: shared, Res: "B"})
			want, _ = wantFun(s, api.Fun{Name: "i", Args: shared, Res: "B"})
		}
		if e != api.OK || !equalSigns(after, want) {
			t.Fatalf("%s: %d, %s", last, e, briefSign(after))
		}
		for i := range after.Funs {
			want.Funs[i].Args = slices.Repeat([]api.Sort{"spoilt"}, len(want.Funs[i].Args))
			spoilNames(after.Funs[i].Args)
			if !equalSigns(after, want) || !slices.Equal(shared, []api.Sort{"A", "B", "A"}) {
				t.Errorf("%s: the Args of the function %d share memory: %s", last, i, briefSign(after))
			}
		}
		spoilNames(after.Sorts)
		if !slices.Equal(shared, []api.Sort{"A", "B", "A"}) {
			t.Errorf("%s: the sorts share memory", last)
		}
	}
}

func TestWhatIsFoundSharesNoMemory(t *testing.T) {
	s, written := roomy(many(8))
	for i, want := range many(8).Funs {
		f, _ := Find(s, want.Name)
		g, _ := Find(s, want.Name)
		spoilFun(&f)
		if written() || !equalSigns(s, many(8)) || !equalFuns(g, want) {
			t.Errorf("a changed result changed %s or %s", briefSign(s), briefFun(g))
		}
		spoilNames(s.Funs[i].Args)
		if !equalFuns(g, want) {
			t.Errorf("a changed argument changed %s", briefFun(g))
		}
		s, written = roomy(many(8))
	}
	for _, of := range []api.Sort{"A", "B", "C"} {
		want := wantConsts(s, of)
		l, m := Consts(s, of), Consts(s, of)
		spoilNames(l)
		if !slices.Equal(m, want) || !equalSigns(s, many(8)) || !slices.Equal(Consts(s, of), want) {
			t.Errorf("a changed result changed %s or %s", briefSign(s), brief(m))
		}
	}
}

// A call answers by what it is given alone: neither an earlier call nor an earlier content of the same memory counts.
func TestNothingIsKept(t *testing.T) {
	s := sg("A", fn("c", "", "A"))
	checkRight(t, s, api.OK)
	checkFind(t, s, "c", fn("c", "", "A"), true)
	checkConsts(t, s, "A", []string{"c"})
	s.Sorts[0], s.Funs[0].Name = "B", "d"
	checkRight(t, s, api.ErrSort)
	checkFind(t, s, "c", api.Fun{}, false)
	checkCheck(t, s, fn("c", "", "A"), api.ErrSort)
	checkFun(t, s, fn("c", "", "B"), plus(s, fn("c", "", "B")), api.OK)
	s.Funs[0].Res = "B"
	checkRight(t, s, api.OK)
	checkConsts(t, s, "A", nil)
	checkConsts(t, s, "B", []string{"d"})
	checkSort(t, s, "A", sg("B A", fn("d", "", "B")), api.OK)
	checkSort(t, s, "A", sg("B A", fn("d", "", "B")), api.OK)
	checkSame(t, s, sg("B", fn("d", "", "B")), true)
}

// All calls answer as the chapter says, word by word, for valid signatures and for others.
func TestCallsFollowTheChapter(t *testing.T) {
	errors := map[api.Errno]int{}
	names := []string{"A", "B", "C", "c", "f", "Int", "Bool", "", "true", "f5", "S3", "S64", strings.Repeat("a", 32), strings.Repeat("a", 33)}
	last := api.Sign{}
	someSigns(func(s api.Sign) {
		want := wantRight(s)
		errors[want]++
		checkRight(t, s, want)
		for _, name := range names {
			after, e := wantSort(s, name)
			checkSort(t, s, name, after, e)
			f, ok := wantFind(s, name)
			checkFind(t, s, name, f, ok)
			checkConsts(t, s, name, wantConsts(s, name))
		}
		for _, f := range pool() {
			checkCheck(t, s, f, wantCheck(s, f))
			after, e := wantFun(s, f)
			checkFun(t, s, f, after, e)
		}
		checkSame(t, s, copySign(s), true)
		checkSame(t, s, last, equalSigns(s, last))
		last = s
	})
	if errors[api.OK] < 200 || errors[api.ErrName] < 1000 || errors[api.ErrSame] < 500 || errors[api.ErrLong] < 100 || errors[api.ErrSort] < 500 || errors[api.ErrArity] < 50 {
		t.Error("too few signatures of a kind:", errors)
	}
}

// Promise 6.3.

// checkGrown holds what is found in after, which is before with a sort or a function more, against what was found before.
func checkGrown(t *testing.T, before, after api.Sign) {
	t.Helper()
	checkRight(t, after, api.OK)
	for _, f := range before.Funs {
		if g, ok := Find(after, f.Name); !ok || !equalFuns(g, f) || Check(after, f) != api.OK {
			t.Errorf("%s is %s, %v, %d in %s", briefFun(f), briefFun(g), ok, Check(after, f), briefSign(after))
		}
	}
	for _, of := range append([]api.Sort{"Bool", "Int"}, before.Sorts...) {
		old, l := Consts(before, of), Consts(after, of)
		if len(l) < len(old) || !slices.Equal(l[:len(old)], old) || len(l) > len(old)+1 {
			t.Errorf("the constants of %s are %s, and %s with one more in %s", of, brief(old), brief(l), briefSign(after))
		}
	}
	if !slices.Equal(after.Sorts[:len(before.Sorts)], before.Sorts) || !equalSigns(api.Sign{Funs: after.Funs[:len(before.Funs)]}, api.Sign{Funs: before.Funs}) {
		t.Errorf("%s became %s", briefSign(before), briefSign(after))
	}
	checkSame(t, before, after, false)
}

// checkSortAdded and checkFunAdded tell whether the call succeeded.
func checkSortAdded(t *testing.T, s api.Sign, name api.Sort) (api.Sign, bool) {
	t.Helper()
	after, e := Sort(s, name)
	if e != api.OK {
		return s, false
	}
	checkGrown(t, s, after)
	if len(after.Sorts) != len(s.Sorts)+1 || after.Sorts[len(s.Sorts)] != name || len(after.Funs) != len(s.Funs) {
		t.Errorf("%s became %s", briefSign(s), briefSign(after))
	}
	checkCheck(t, s, fn("x", "", name), api.ErrSort)
	checkCheck(t, after, fn("x", name, name), api.OK)
	checkSort(t, after, name, api.Sign{}, api.ErrSame)
	return after, true
}

func checkFunAdded(t *testing.T, s api.Sign, f api.Fun) (api.Sign, bool) {
	t.Helper()
	after, e := Fun(s, f)
	if e != api.OK {
		return s, false
	}
	checkGrown(t, s, after)
	if len(after.Sorts) != len(s.Sorts) || len(after.Funs) != len(s.Funs)+1 || !equalFuns(after.Funs[len(s.Funs)], f) {
		t.Errorf("%s became %s", briefSign(s), briefSign(after))
	}
	checkFind(t, s, f.Name, api.Fun{}, false)
	checkFind(t, after, f.Name, f, true)
	checkFun(t, after, f, api.Sign{}, api.ErrSame)
	checkConsts(t, after, f.Res, wantConsts(after, f.Res))
	return after, true
}

func TestValidSignaturesStayValid(t *testing.T) {
	names := []string{"A", "B", "C", "c", "f", "g", "h", "S64", strings.Repeat("a", 32), "Int", "true", ""}
	grown := 0
	someSigns(func(s api.Sign) {
		if Right(s) != api.OK || len(s.Funs) > 2 && len(s.Funs) < 255 {
			return
		}
		for _, name := range names {
			if _, ok := checkSortAdded(t, s, name); ok {
				grown++
			}
		}
		for _, f := range pool() {
			if _, ok := checkFunAdded(t, s, f); ok {
				grown++
			}
		}
	})
	if grown < 1000 {
		t.Error("too few signatures grew:", grown)
	}
}

// From the empty signature on both calls lead to a full one, and what was there stays.
func TestFromEmptyToFull(t *testing.T) {
	s, added := api.Sign{}, 0
	for i := range 300 {
		n := strconv.Itoa(i)
		known := append([]api.Sort{"Int"}, s.Sorts...)
		f := api.Fun{Name: "f" + n, Args: slices.Repeat(known[i%len(known):], 8)[:i%9], Res: known[i*7%len(known)]}
		for _, add := range []func() (api.Sign, bool){
			func() (api.Sign, bool) { return checkSortAdded(t, s, "S"+n) },
			func() (api.Sign, bool) { return checkFunAdded(t, s, f) },
			func() (api.Sign, bool) { return checkSortAdded(t, s, f.Name) },
			func() (api.Sign, bool) { return checkFunAdded(t, s, fn("S"+n, "", "Int")) },
		} {
			if after, ok := add(); ok {
				s, added = after, added+1
			}
		}
	}
	if len(s.Sorts) != 64 || len(s.Funs) != 256 || added != 320 || Right(s) != api.OK {
		t.Error(len(s.Sorts), "sorts and", len(s.Funs), "functions of", added, "steps")
	}
	for _, f := range s.Funs {
		checkFind(t, s, f.Name, f, true)
	}
}

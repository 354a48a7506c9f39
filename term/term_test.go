package term

import (
	"cmp"
	"math"
	"slices"
	"sort"
	"strconv"
	"strings"
	"testing"

	"sequitur/api"
	"sequitur/sample"
)

// Short names for what the tests are full of.
var (
	v, bound, app, num = sample.Var, sample.Bound, sample.App, sample.Num
	add, sub, neg, mul = sample.Add, sample.Sub, sample.Neg, sample.Mul
	with, chain, sized = sample.WithArgs, sample.Chain, sample.SizedTerm
	equal, twin, spoil = sample.EqualTerms, sample.TwinTerm, sample.SpoilTerm
	text, texts        = sample.TermText, sample.TermTexts
)

// What the chapter says, word by word, with nothing of the package in it.

// listed are all parts of t in preorder, repeated ones too.
func listed(t api.Term) []api.Term {
	l := []api.Term{t}
	for _, a := range t.Args {
		l = append(l, listed(a)...)
	}
	return l
}

func wantSize(t api.Term) int { return min(len(listed(t)), 4097) }

func wantDepth(t api.Term) int {
	d := 1
	for _, a := range t.Args {
		d = max(d, wantDepth(a)+1)
	}
	return min(d, 65)
}

func wantPart(p api.Term) api.Errno {
	fewest, most := map[int]int{5: 2, 6: 2, 7: 1, 8: 1}, map[int]int{3: 8, 5: 2, 6: 2, 7: 1, 8: 1}
	if !strings.Contains(" 1 2 3 4 5 6 7 8 ", " "+strconv.Itoa(p.Op)+" ") {
		return api.ErrForm
	}
	if p.Op == 2 && p.Num < 0 || p.Name != "" && p.Op != 1 && p.Op != 3 || p.Num != 0 && p.Op != 2 && p.Op != 4 && p.Op != 8 {
		return api.ErrForm
	}
	if n := len(p.Args); n < fewest[p.Op] || n > most[p.Op] {
		return api.ErrArity
	}
	return api.OK
}

func wantRight(t api.Term) api.Errno {
	if wantDepth(t) > 64 {
		return api.ErrDeep
	}
	if wantSize(t) > 4096 {
		return api.ErrLong
	}
	for _, p := range listed(t) {
		if e := wantPart(p); e != api.OK {
			return e
		}
	}
	return api.OK
}

// wantCompare looks for the first part, in preorder, that differs: up to there both have the same parts at the same places.
func wantCompare(a, b api.Term) int {
	k, l := listed(a), listed(b)
	for i := range min(len(k), len(l)) {
		x, y := k[i], l[i]
		switch {
		case x.Op != y.Op:
			return cmp.Compare(x.Op, y.Op)
		case x.Num != y.Num:
			return cmp.Compare(x.Num, y.Num)
		case x.Name != y.Name:
			return strings.Compare(x.Name, y.Name)
		case len(x.Args) != len(y.Args):
			return cmp.Compare(len(x.Args), len(y.Args))
		}
	}
	return 0
}

func wantNames(l []api.Term) []string {
	found := map[string]bool{}
	for _, t := range l {
		for _, p := range listed(t) {
			if p.Op == 1 {
				found[p.Name] = true
			}
		}
	}
	names := []string{}
	for name := range found {
		names = append(names, name)
	}
	sort.Strings(names)
	return names
}

func wantParts(t api.Term) []api.Term {
	var l []api.Term
	for _, p := range listed(t) {
		if !slices.ContainsFunc(l, func(q api.Term) bool { return equal(p, q) }) {
			l = append(l, p)
		}
	}
	return l
}

func wantHas(t, part api.Term) bool {
	return slices.ContainsFunc(listed(t), func(p api.Term) bool { return equal(p, part) })
}

func wantReplace(t, from, to api.Term) api.Term {
	if equal(t, from) {
		return to
	}
	r := api.Term{Op: t.Op, Name: t.Name, Num: t.Num}
	for _, a := range t.Args {
		r.Args = append(r.Args, wantReplace(a, from, to))
	}
	return r
}

// unchanged calls f and holds the terms against what they were ahead of the call.
func unchanged(t *testing.T, f func(), l ...api.Term) {
	t.Helper()
	if s := sample.Changed(f, api.Claim{Terms: l}); s != "" {
		t.Error(s)
	}
}

// fresh reports an answer that shares memory with the arguments, or within itself.
func fresh(t *testing.T, answer []api.Term, arguments ...api.Term) {
	t.Helper()
	if sample.Shares(api.Claim{Terms: answer}, api.Claim{Terms: arguments}) {
		t.Errorf("the answer of %s shares memory: %s", texts(arguments), texts(answer))
	}
}

func checkRight(t *testing.T, x api.Term, want api.Errno) {
	t.Helper()
	unchanged(t, func() {
		t.Helper()
		if got := Right(x); got != want {
			t.Errorf("Right(%s) is %d; want %d", text(x), got, want)
		}
	}, x)
}

func checkMeasures(t *testing.T, x api.Term, size, depth int) {
	t.Helper()
	unchanged(t, func() {
		t.Helper()
		if n, d := Size(x), Depth(x); n != size || d != depth {
			t.Errorf("%s has size %d and depth %d; want %d and %d", text(x), n, d, size, depth)
		}
	}, x)
}

func checkCompare(t *testing.T, a, b api.Term, want int) {
	t.Helper()
	unchanged(t, func() {
		t.Helper()
		if got, back := Compare(a, b), Compare(b, a); got != want || back != -want {
			t.Errorf("Compare(%s; %s) is %d, and %d the other way round; want %d", text(a), text(b), got, back, want)
		}
		if got, back := Same(a, b), Same(b, a); got != (want == 0) || back != got {
			t.Errorf("Same(%s; %s) is %v, and %v the other way round", text(a), text(b), got, back)
		}
	}, a, b)
}

func checkNames(t *testing.T, want []string, l ...api.Term) {
	t.Helper()
	unchanged(t, func() {
		t.Helper()
		if got := Names(l...); !slices.Equal(got, want) {
			t.Errorf("Names(%s) is %q; want %q", texts(l), got, want)
		}
	}, l...)
}

func checkParts(t *testing.T, x api.Term, want ...api.Term) {
	t.Helper()
	unchanged(t, func() {
		t.Helper()
		got := Parts(x)
		if !slices.EqualFunc(got, want, equal) {
			t.Errorf("Parts(%s) are %s; want %s", text(x), texts(got), texts(want))
		}
		fresh(t, got, x)
	}, x)
}

func checkHas(t *testing.T, x, part api.Term, want bool) {
	t.Helper()
	unchanged(t, func() {
		t.Helper()
		if got := Has(x, part); got != want {
			t.Errorf("Has(%s; %s) is %v", text(x), text(part), got)
		}
	}, x, part)
}

func checkReplace(t *testing.T, x, from, to, want api.Term) {
	t.Helper()
	unchanged(t, func() {
		t.Helper()
		got := Replace(x, from, to)
		if !equal(got, want) {
			t.Errorf("Replace(%s; %s; %s) is %s; want %s", text(x), text(from), text(to), text(got), text(want))
		}
		fresh(t, []api.Term{got}, x, from, to)
	}, x, from, to)
}

func checkCopy(t *testing.T, x api.Term) {
	t.Helper()
	unchanged(t, func() {
		t.Helper()
		got := Copy(x)
		if !equal(got, x) {
			t.Errorf("Copy(%s) is %s", text(x), text(got))
		}
		fresh(t, []api.Term{got}, x)
	}, x)
}

// xs are n variables of the name x.
func xs(n int) []api.Term { return sample.Vars(n, "x") }

// wraps put a term one level deeper, each in a way of its own.
func wraps() []func(api.Term) api.Term {
	return []func(api.Term) api.Term{
		func(t api.Term) api.Term { return app("f", t) },
		neg,
		func(t api.Term) api.Term { return mul(3, t) },
		func(t api.Term) api.Term { return add(t, num(1)) },
		func(t api.Term) api.Term { return sub(bound(0), t) },
		func(t api.Term) api.Term { return app("g", v("x"), t, app("c")) },
	}
}

// leaves are terms without Args, right and wrong ones.
func leaves() []api.Term {
	return []api.Term{
		v("x"), v("y"), v(""), v("\xff"), app("x"), app("f"), app(""), bound(0), bound(1), bound(-1), num(0), num(1), num(-1), {}, {Op: 9}, {Op: -1}, {Op: api.TVar, Name: "x", Num: 1}, {Op: api.TApp, Name: "f", Num: -1},
		{Op: api.TBound, Name: "x"}, {Op: api.TNum, Name: "x"}, {Op: api.TNum, Name: "x", Num: 1}, {Op: api.TAdd}, {Op: api.TNeg}, {Op: api.TMul, Num: 2}, {Op: api.TVar, Name: "x", Args: []api.Term{}},
	}
}

// someTerms are small terms: the leaves, all ways to put some of them together, and terms in which parts occur several times.
func someTerms() []api.Term {
	l := leaves()
	small := []api.Term{v("x"), v("y"), app("f"), num(1), {}, {Op: api.TNeg}}
	for _, a := range small {
		l = append(l, neg(a), mul(0, a), mul(2, a), app("f", a), app("g", a), with(v("x"), a), with(bound(1), a), with(num(1), a), with(api.Term{Op: 9}, a), with(api.Term{Op: api.TAdd}, a), with(api.Term{Op: api.TNeg, Num: 1}, a, a))
		for _, b := range small[:4] {
			l = append(l, add(a, b), sub(a, b), app("f", a, b), app("f", app("f", a), b), app("g", b, app("g", a, b)), with(mul(2, a), b, a))
		}
	}
	x, f := v("x"), app("f", v("x"))
	return append(l, chain(2, x), chain(3, x), chain(2, v("y")), chain(9, x), add(f, f), add(chain(2, x), f), app("f", f, chain(2, f), x), sub(add(x, x), add(x, x)), mul(2, mul(2, x)), neg(neg(neg(x))), app("f", add(f, neg(f)), add(f, neg(f))),
		app("f", xs(8)...), app("f", xs(9)...), with(x, x, with(x, x)), with(v("y"), f, x, f), app("f", v("y"), x, v("x'"), v("X"), v("xx")))
}

// Promise 7.1.

func TestRight(t *testing.T) {
	x := v("x")
	for _, y := range []api.Term{
		x, v("x'"), bound(0), bound(1), num(0), num(7), num(-7), app("c"), app("f", x), app("f", x, num(3)), add(x, num(1)), sub(bound(0), x), neg(x), mul(3, x), mul(-3, x), mul(0, x), mul(2, mul(2, neg(x))),
		app("f", add(x, neg(bound(2))), mul(2, app("g", app("c"), app("d")))), with(x, []api.Term{}...), {Op: api.TVar, Name: "x", Args: []api.Term{}},
	} {
		checkRight(t, y, api.OK)
	}
	checkRight(t, api.Term{}, api.ErrForm)
}

func TestWrongOps(t *testing.T) {
	for _, op := range []int{0, -1, 9, 10, 11, -8, 256 + 3, 1<<32 + 3, math.MaxInt, math.MinInt} {
		for _, n := range []int{0, 1, 2, 9} {
			p := api.Term{Op: op, Args: xs(n)}
			checkRight(t, p, api.ErrForm)
			checkRight(t, app("f", p), api.ErrForm)
			checkRight(t, app("f", v("x"), neg(v("x")), add(num(1), p)), api.ErrForm)
		}
	}
}

// proper is a right part with that Op, each time in new memory.
func proper(op int) api.Term {
	switch op {
	case api.TVar:
		return v("x")
	case api.TBound:
		return bound(0)
	case api.TApp:
		return app("f", v("x"))
	case api.TNum:
		return num(0)
	case api.TAdd:
		return add(v("x"), v("y"))
	case api.TSub:
		return sub(v("x"), v("y"))
	case api.TNeg:
		return neg(v("x"))
	}
	return mul(0, v("x"))
}

func TestNums(t *testing.T) {
	least := map[int]int64{api.TBound: 0, api.TNum: math.MinInt64, api.TMul: math.MinInt64}
	for op := api.TVar; op <= api.TMul; op++ {
		for _, n := range []int64{math.MinInt64, -1 << 32, -2, -1, 0, 1, 2, 1 << 32, math.MaxInt64} {
			p, want := proper(op), api.OK
			p.Num = n
			if from, any := least[op]; n != 0 && !any || n < from {
				want = api.ErrForm
			}
			checkRight(t, p, want)
			checkRight(t, app("f", v("x"), neg(p)), want)
		}
	}
}

func TestNamesOfParts(t *testing.T) {
	for op := api.TVar; op <= api.TMul; op++ {
		for _, name := range []string{"", "x", " ", "\x00", "\xff\xfe", "true", "1", "(", "ä", strings.Repeat("x", 33), strings.Repeat("x", api.MaxText+1)} {
			p, want := proper(op), api.OK
			p.Name = name
			if name != "" && op != api.TVar && op != api.TApp {
				want = api.ErrForm
			}
			checkRight(t, p, want)
			checkRight(t, app("f", v("x"), neg(p)), want)
		}
	}
}

func TestNumbersOfArgs(t *testing.T) {
	fits := map[int]string{api.TVar: "0", api.TBound: "0", api.TApp: "0 1 2 3 4 5 6 7 8", api.TNum: "0", api.TAdd: "2", api.TSub: "2", api.TNeg: "1", api.TMul: "1"}
	for op := api.TVar; op <= api.TMul; op++ {
		for _, n := range []int{0, 1, 2, 3, 4, 5, 6, 7, 8, 9, 10, 100} {
			p, want := with(proper(op), xs(n)...), api.ErrArity
			if slices.Contains(strings.Fields(fits[op]), strconv.Itoa(n)) {
				want = api.OK
			}
			checkRight(t, p, want)
			checkRight(t, app("f", v("x"), neg(p)), want)
		}
	}
	if api.MaxArgs != 8 {
		t.Error(api.MaxArgs)
	}
}

// Of one part, a wrong Op, Num or Name comes ahead of a wrong number of Args; of several parts, the first one in preorder counts.
func TestTheFirstErrorCounts(t *testing.T) {
	form, arity := api.Term{Op: api.TNum, Name: "x"}, api.Term{Op: api.TNeg}
	checkRight(t, with(form, v("x")), api.ErrForm)
	checkRight(t, api.Term{Op: api.TNeg, Name: "x"}, api.ErrForm)
	checkRight(t, api.Term{Op: api.TNeg, Num: 1}, api.ErrForm)
	checkRight(t, api.Term{Op: api.TBound, Num: -1, Args: xs(1)}, api.ErrForm)
	checkRight(t, api.Term{Op: api.TApp, Num: 1, Args: xs(9)}, api.ErrForm)
	checkRight(t, api.Term{Op: 9, Args: xs(9)}, api.ErrForm)
	for _, wrap := range wraps() {
		checkRight(t, wrap(form), api.ErrForm)
		checkRight(t, wrap(arity), api.ErrArity)
		checkRight(t, wrap(with(form, arity)), api.ErrForm)
		checkRight(t, wrap(with(arity, form, form)), api.ErrArity)
		checkRight(t, add(wrap(form), wrap(arity)), api.ErrForm)
		checkRight(t, add(wrap(arity), wrap(form)), api.ErrArity)
		checkRight(t, app("f", v("x"), wrap(wrap(arity)), form), api.ErrArity)
		checkRight(t, app("f", v("x"), wrap(wrap(form)), arity), api.ErrForm)
	}
	checkRight(t, app("f", append(xs(8), form)...), api.ErrArity)
	checkRight(t, app("f", append(xs(7), form)...), api.ErrForm)
	checkRight(t, app("f", make([]api.Term, 9)...), api.ErrArity)
	checkRight(t, app("f", make([]api.Term, 8)...), api.ErrForm)
}

func TestDepthAtTheLimit(t *testing.T) {
	for _, wrap := range wraps() {
		for _, leaf := range []api.Term{v("x"), app("c"), num(-1)} {
			for _, n := range []int{1, 2, 62, 63, 64} {
				x := sample.Nested(n-1, leaf, wrap)
				checkRight(t, x, api.OK)
				checkMeasures(t, x, wantSize(x), n)
			}
			for _, n := range []int{65, 66, 67, 200, 1000} {
				x := sample.Nested(n-1, leaf, wrap)
				checkRight(t, x, api.ErrDeep)
				checkMeasures(t, x, wantSize(x), 65)
			}
		}
	}
	if api.MaxDepth != 64 {
		t.Error(api.MaxDepth)
	}
}

func TestSizeAtTheLimit(t *testing.T) {
	for n := range 300 {
		checkMeasures(t, sized(n+1), n+1, wantDepth(sized(n+1)))
	}
	for _, n := range []int{4094, 4095, 4096} {
		checkRight(t, sized(n), api.OK)
		checkMeasures(t, sized(n), n, 5)
		checkRight(t, chain(59, sized(n-59)), api.OK)
		checkMeasures(t, chain(59, sized(n-59)), n, 64)
	}
	for _, n := range []int{4097, 4098, 5000, 100000} {
		checkRight(t, sized(n), api.ErrLong)
		checkMeasures(t, sized(n), 4097, wantDepth(sized(n)))
		checkRight(t, chain(57, sized(n-57)), api.ErrLong)
	}
	checkMeasures(t, chain(59, sized(4038)), 4097, 64)
	checkRight(t, chain(59, sized(4038)), api.ErrLong)
	checkMeasures(t, app("f", xs(4095)...), 4096, 2)
	checkRight(t, app("f", xs(4095)...), api.ErrArity)
	checkMeasures(t, app("f", xs(4096)...), 4097, 2)
	checkRight(t, app("f", xs(4096)...), api.ErrLong)
	checkMeasures(t, app("f", make([]api.Term, 1<<20)...), 4097, 2)
	checkRight(t, app("f", make([]api.Term, 1<<20)...), api.ErrLong)
	if api.MaxSize != 4096 {
		t.Error(api.MaxSize)
	}
}

// The depth comes ahead of the size, and both come ahead of whatever the parts are.
func TestLimitsComeFirst(t *testing.T) {
	wrong := []api.Term{{}, {Op: 9}, {Op: api.TNeg}, {Op: api.TVar, Name: "x", Args: xs(2)}, {Op: api.TBound, Num: -1}}
	for _, w := range wrong {
		e := wantRight(w)
		checkRight(t, chain(62, w), e)
		checkRight(t, chain(64, w), api.ErrDeep)
		checkRight(t, with(w, chain(64, v("x"))), api.ErrDeep)
		checkRight(t, with(w, chain(1000, v("x")), w), api.ErrDeep)
		checkRight(t, with(w, sized(4096)), api.ErrLong)
		checkRight(t, with(w, w, sized(5000)), api.ErrLong)
		checkRight(t, with(w, sized(4096), chain(64, w)), api.ErrDeep)
		checkRight(t, app("f", w, sized(4000), chain(60, w)), e)
		checkRight(t, app("f", sized(4000), chain(60, w)), e)
	}
	for _, n := range []int{4033, 4096, 5000} {
		checkRight(t, app("f", sized(n), chain(63, v("x"))), api.ErrDeep)
		checkRight(t, app("f", chain(63, v("x")), sized(n)), api.ErrDeep)
		checkRight(t, app("f", sized(n), chain(62, v("x"))), api.ErrLong)
		checkRight(t, chain(60, sized(n)), api.ErrDeep)
	}
	checkRight(t, app("f", make([]api.Term, 4096)...), api.ErrLong)
	checkRight(t, app("f", append(make([]api.Term, 4096), chain(63, v("x")))...), api.ErrDeep)
}

// In a term beyond the greatest size the deepest part may stand anywhere.
func TestDepthOfLargeTerms(t *testing.T) {
	wide := slices.Repeat([]api.Term{app("g", v("x"), v("y"))}, 5000)
	for _, n := range []int{1, 2, 61, 62, 63, 64, 100} {
		for _, i := range []int{0, 1, 2500, 4999} {
			l, want := slices.Clone(wide), api.ErrLong
			l[i] = chain(n-1, v("x"))
			if n > 63 {
				want = api.ErrDeep
			}
			checkMeasures(t, app("f", l...), 4097, min(max(n, 2)+1, 65))
			checkRight(t, app("f", l...), want)
		}
	}
}

// Args that several parts share in memory count for each of them: a term may have more parts than anyone could visit.
func TestPartsThatShareMemory(t *testing.T) {
	x, y := v("x"), v("y")
	for d := 2; d <= 70; d++ {
		x, y = app("f", x, y), add(y, x)
		size, want := 4097, api.ErrLong
		if d <= 12 {
			size, want = 1<<d-1, api.OK
		}
		if d > 64 {
			want = api.ErrDeep
		}
		if Size(x) != size || Depth(x) != min(d, 65) || Right(x) != want {
			t.Errorf("depth %d: size %d, depth %d, Right is %d", d, Size(x), Depth(x), Right(x))
		}
	}
	deep := []api.Term{v("x"), chain(50, v("x"))}
	few, more := api.Term{Op: api.TApp, Name: "f", Args: deep[:1]}, api.Term{Op: api.TApp, Name: "f", Args: deep}
	for _, l := range [][]api.Term{{few, more}, {more, few}, {few, few, more, few, more}} {
		checkMeasures(t, app("g", append(xs(5000), l...)...), 4097, 53)
	}
	within := make([]api.Term, 1)
	within[0] = api.Term{Op: api.TApp, Args: within}
	if n, d, e := Size(within[0]), Depth(within[0]), Right(within[0]); n != 4097 || d != 65 || e != api.ErrDeep {
		t.Errorf("a term within itself: size %d, depth %d, %d", n, d, e)
	}
}

func TestSizeAndDepthOfAnyTerm(t *testing.T) {
	checkMeasures(t, app("f", v("x"), num(3)), 3, 2)
	checkMeasures(t, api.Term{}, 1, 1)
	checkMeasures(t, api.Term{Op: 9, Args: make([]api.Term, 3)}, 4, 2)
	checkMeasures(t, with(v("x"), with(num(1), api.Term{})), 3, 3)
	for _, x := range someTerms() {
		checkMeasures(t, x, wantSize(x), wantDepth(x))
	}
}

func TestCompareByEachField(t *testing.T) {
	checkCompare(t, num(3), v("x"), 1)
	checkCompare(t, v("x"), v("y"), -1)
	checkCompare(t, api.Term{}, api.Term{}, 0)
	checkCompare(t, api.Term{}, api.Term{Args: []api.Term{}}, 0)
	checkCompare(t, app("f", v("x")), app("f", api.Term{Op: api.TVar, Name: "x", Args: []api.Term{}}), 0)
	numbers := []int64{math.MinInt64, -1 << 32, -2, -1, 0, 1, 2, 1 << 32, math.MaxInt64 - 1, math.MaxInt64}
	for i, m := range numbers {
		for j, n := range numbers {
			want := cmp.Compare(i, j)
			checkCompare(t, num(m), num(n), want)
			checkCompare(t, app("f", v("x"), mul(m, v("y"))), app("f", v("x"), mul(n, v("y"))), want)
			checkCompare(t, api.Term{Op: int(m)}, api.Term{Op: int(n)}, want)
			checkCompare(t, neg(api.Term{Op: int(m)}), neg(api.Term{Op: int(n)}), want)
		}
	}
	names := []string{"", "\x00", "\x00\x00", "A", "AA", "AB", "B", "Z", "_", "a", "aa", "z", "\x7f", "\x80", "ä", "\xff", "\xff\xff"}
	for i, m := range names {
		for j, n := range names {
			want := cmp.Compare(i, j)
			checkCompare(t, v(m), v(n), want)
			checkCompare(t, app(m, v("x")), app(n, v("x")), want)
			checkCompare(t, app("f", v("x"), neg(v(m))), app("f", v("x"), neg(v(n))), want)
		}
	}
	for m := range 10 {
		for n := range 10 {
			want := cmp.Compare(m, n)
			checkCompare(t, app("f", xs(m)...), app("f", xs(n)...), want)
			checkCompare(t, neg(with(num(1), xs(m)...)), neg(with(num(1), xs(n)...)), want)
		}
	}
	for i := range 8 {
		l := xs(8)
		l[i] = v("y")
		checkCompare(t, app("f", xs(8)...), app("f", l...), -1)
	}
}

// Whatever comes earlier decides: Op, Num, Name, the number of Args, then the Args from the left.
func TestTheFirstDifferenceDecides(t *testing.T) {
	less, more := app("f", v("x")), app("f", v("y"))
	checkCompare(t, api.Term{Op: 1, Num: 9, Name: "z", Args: xs(9)}, api.Term{Op: 2}, -1)
	checkCompare(t, api.Term{Op: 1, Num: 1, Name: "z", Args: xs(9)}, api.Term{Op: 1, Num: 2}, -1)
	checkCompare(t, api.Term{Op: 1, Num: 1, Name: "a", Args: xs(9)}, api.Term{Op: 1, Num: 1, Name: "b"}, -1)
	checkCompare(t, app("f", more), app("f", less, less), -1)
	checkCompare(t, app("f", num(9), num(9)), app("f", v("a"), v("a"), v("a")), -1)
	checkCompare(t, app("f", less, more), app("f", more, less), -1)
	checkCompare(t, app("f", less, less, more), app("f", less, more, less), -1)
	checkCompare(t, app("f", less, num(9)), app("f", more, v("a")), -1)
	checkCompare(t, app("f", app("g", v("y")), v("a")), app("f", app("g", v("y"), v("y")), v("a")), -1)
	checkCompare(t, app("f", app("g", v("y")), num(1)), app("f", app("g", v("y")), v("a")), 1)
	checkCompare(t, app("z"), num(-5), -1)
	checkCompare(t, mul(-1, num(9)), mul(0, num(-9)), -1)
	checkCompare(t, v("b"), v("aa"), 1)
}

func TestCompareOfDeepAndLargeTerms(t *testing.T) {
	for _, n := range []int{63, 64, 1000, 1 << 16} {
		checkCompare(t, chain(n, v("x")), chain(n, v("x")), 0)
		checkCompare(t, chain(n, v("x")), chain(n, v("y")), -1)
		checkCompare(t, chain(n, v("x")), chain(n+1, v("x")), -1)
	}
	for _, n := range []int{4096, 4097, 20000} {
		l := xs(n)
		l[n-1] = v("y")
		checkCompare(t, sized(n), sized(n), 0)
		checkCompare(t, app("f", xs(n)...), app("f", l...), -1)
		checkCompare(t, app("f", xs(n+1)...), app("f", l...), 1)
	}
}

// All calls of 7.1 answer as the chapter says, word by word, for all pairs of small terms.
func TestChecksFollowTheChapter(t *testing.T) {
	errors, orders := map[api.Errno]int{}, map[int]int{}
	terms := someTerms()
	for _, a := range terms {
		errors[wantRight(a)]++
		checkRight(t, a, wantRight(a))
		for _, wrap := range wraps() {
			checkRight(t, wrap(a), wantRight(a))
		}
		for _, b := range terms {
			orders[wantCompare(a, b)]++
			checkCompare(t, a, b, wantCompare(a, b))
			checkCompare(t, a, twin(a), 0)
		}
	}
	if errors[api.OK] < 50 || errors[api.ErrForm] < 20 || errors[api.ErrArity] < 20 || orders[0] < len(terms) || orders[1] != orders[-1] {
		t.Error("too few terms of a kind:", errors, orders)
	}
}

// Promise 7.2.

func TestNames(t *testing.T) {
	checkNames(t, nil)
	checkNames(t, nil, num(1))
	checkNames(t, nil, app("x"), bound(1), api.Term{}, api.Term{Op: 9, Name: "x"}, api.Term{Op: api.TNum, Name: "x"}, api.Term{Op: api.TBound, Name: "x"})
	checkNames(t, []string{"x"}, v("x"))
	checkNames(t, []string{"x"}, v("x"), v("x"))
	checkNames(t, []string{"x", "y"}, v("y"), v("x"), v("y"))
	checkNames(t, []string{"x", "y", "z"}, app("a", v("z"), add(v("y"), neg(mul(2, sub(v("x"), v("z")))))))
	checkNames(t, []string{"a", "x", "y"}, app("g", v("y"), app("g", v("x"), v("y")), v("x")), v("a"))
	checkNames(t, []string{"", "\x00", "A", "B", "Z", "_", "a", "a'", "a1", "aa", "b", "\x7f", "ä", "\xff"}, v("\xff"), v("b"), v("aa"), v("a1"), v("a'"), v("a"), v("_"), v("Z"), v("B"), v("A"), v(""), v("\x00"), v("ä"), v("\x7f"), v(""), v("a"))
	checkNames(t, []string{"w", "x", "y"}, with(v("x"), v("y"), with(num(1), v("w"))))
	checkNames(t, []string{"x"}, chain(1<<16, v("x")))
	checkNames(t, []string{"x"}, sized(100000), sized(3))
	var many []api.Term
	var want []string
	for i := range 1000 {
		name := strconv.Itoa(1000 + i*7%1000)
		many = append(many, app(name, v(name), v("1000")))
		want = append(want, strconv.Itoa(1000+i))
	}
	checkNames(t, want, many...)
}

func TestParts(t *testing.T) {
	x, y, three := v("x"), v("y"), num(3)
	checkParts(t, x, x)
	checkParts(t, api.Term{}, api.Term{})
	checkParts(t, app("f", x, three), app("f", x, three), x, three)
	checkParts(t, app("f", x, x), app("f", x, x), x)
	inner := app("g", x, y)
	checkParts(t, app("g", y, inner, x), app("g", y, inner, x), y, inner, x)
	checkParts(t, app("g", inner, inner), app("g", inner, inner), inner, x, y)
	checkParts(t, add(inner, sub(y, inner)), add(inner, sub(y, inner)), inner, x, y, sub(y, inner))
	checkParts(t, chain(3, x), chain(3, x), chain(2, x), chain(1, x), x)
	checkParts(t, add(chain(2, x), chain(3, x)), add(chain(2, x), chain(3, x)), chain(2, x), chain(1, x), x, chain(3, x))
	checkParts(t, app("f", num(2), num(1), num(2), num(0), num(1)), app("f", num(2), num(1), num(2), num(0), num(1)), num(2), num(1), num(0))
	checkParts(t, app("x", x, app("x"), app("y"), app("x")), app("x", x, app("x"), app("y"), app("x")), x, app("x"), app("y"))
	checkParts(t, mul(2, mul(3, mul(2, x))), mul(2, mul(3, mul(2, x))), mul(3, mul(2, x)), mul(2, x), x)
	checkParts(t, with(x, with(x, x), x), with(x, with(x, x), x), with(x, x), x)
	checkParts(t, app("f", api.Term{Args: []api.Term{}}, api.Term{}), app("f", api.Term{}, api.Term{}), api.Term{})
}

func TestPartsOfLargeTerms(t *testing.T) {
	var distinct []api.Term
	for i := range 20000 {
		distinct = append(distinct, num(int64(i*7919%20000)))
	}
	checkParts(t, app("f", slices.Concat(distinct, distinct)...), slices.Concat([]api.Term{app("f", slices.Concat(distinct, distinct)...)}, distinct)...)
	for _, n := range []int{4096, 4097} {
		checkParts(t, sized(n), wantParts(sized(n))...)
	}
	var deep []api.Term
	for i := range 64 {
		deep = append(deep, chain(62, v("x"+strconv.Itoa(i%32))))
	}
	if got := Parts(app("g", deep...)); len(got) != 1+32*63 || !equal(got[1], deep[0]) || !equal(got[63], v("x0")) || !equal(got[32*63], v("x31")) {
		t.Error(len(got), "parts")
	}
	if got := Parts(chain(1000, v("x"))); len(got) != 1001 || !equal(got[1000], v("x")) || !equal(got[500], chain(500, v("x"))) {
		t.Error(len(got), "parts")
	}
}

func TestHas(t *testing.T) {
	x, y := v("x"), v("y")
	whole := app("g", y, app("g", x, y), x)
	for _, p := range []api.Term{whole, twin(whole), app("g", x, y), x, y} {
		checkHas(t, whole, p, true)
	}
	for _, p := range []api.Term{v("z"), app("g", y, x), app("g", x), app("g"), app("x"), num(0), {}, app("f", whole), app("g", y, app("g", x, y)), {Op: api.TVar}, {Op: api.TVar, Name: "x", Num: 1}, with(x, y), add(x, y)} {
		checkHas(t, whole, p, false)
	}
	for _, a := range someTerms() {
		checkHas(t, a, a, true)
		checkHas(t, app("h", num(77), a), a, true)
		checkHas(t, a, app("h", num(77), a), false)
	}
	checkHas(t, mul(2, mul(3, x)), mul(3, x), true)
	checkHas(t, mul(2, mul(3, x)), mul(2, x), false)
	checkHas(t, with(num(1), with(num(2), x)), x, true)
	checkHas(t, chain(1<<16, x), x, true)
	checkHas(t, chain(1<<16, x), y, false)
	checkHas(t, chain(64, x), chain(31, x), true)
	checkHas(t, chain(64, x), chain(65, x), false)
	checkHas(t, app("f", append(make([]api.Term, 100000), y)...), y, true)
}

func TestReplace(t *testing.T) {
	x, y, c := v("x"), v("y"), app("c")
	checkReplace(t, app("g", x, app("g", x, y)), x, y, app("g", y, app("g", y, y)))
	checkReplace(t, x, x, y, y)
	checkReplace(t, y, x, c, y)
	checkReplace(t, app("x"), x, c, app("x"))
	whole := app("g", x, add(y, neg(mul(2, x))))
	checkReplace(t, whole, twin(whole), c, c)
	checkReplace(t, whole, app("g", x), c, whole)
	checkReplace(t, whole, num(2), c, whole)
	checkReplace(t, whole, x, num(1), app("g", num(1), add(y, neg(mul(2, num(1))))))
	checkReplace(t, whole, mul(2, x), x, app("g", x, add(y, neg(x))))
	checkReplace(t, app("g", mul(2, x), mul(3, x), mul(2, y)), mul(2, x), c, app("g", c, mul(3, x), mul(2, y)))
	checkReplace(t, api.Term{}, api.Term{}, x, x)
	checkReplace(t, with(num(1), x, api.Term{}), api.Term{}, x, with(num(1), x, x))
	checkReplace(t, with(num(1), x, api.Term{}), num(1), y, with(num(1), x, api.Term{}))
	checkReplace(t, add(x, api.Term{Op: api.TVar, Name: "x", Args: []api.Term{}}), x, y, add(y, y))
	checkReplace(t, add(x, y), x, api.Term{}, add(api.Term{}, y))
}

// Only outermost occurrences are replaced, and what stands for them is not searched again.
func TestReplaceOnce(t *testing.T) {
	x, y := v("x"), v("y")
	checkReplace(t, chain(3, x), chain(1, x), x, chain(2, x))
	checkReplace(t, chain(3, x), x, chain(1, x), chain(4, x))
	checkReplace(t, chain(3, x), chain(3, x), chain(2, x), chain(2, x))
	checkReplace(t, add(x, y), x, add(x, y), add(add(x, y), y))
	checkReplace(t, add(x, y), add(x, y), add(add(x, y), add(x, y)), add(add(x, y), add(x, y)))
	checkReplace(t, add(y, neg(x)), neg(x), x, add(y, x))
	checkReplace(t, app("f", app("f", x, y), y), app("f", x, y), x, app("f", x, y))
	checkReplace(t, sub(x, y), x, y, sub(y, y))
	checkReplace(t, with(x, with(x, x), x), x, y, with(x, with(x, y), y))
	checkReplace(t, with(x, with(x, x), x), with(x, x), x, with(x, x, x))
	checkReplace(t, app("g", y, app("g", x, y), x), y, chain(1, y), app("g", chain(1, y), app("g", x, chain(1, y)), x))
}

func TestReplaceInLargeTerms(t *testing.T) {
	x, y := v("x"), v("y")
	checkReplace(t, chain(1<<16, x), x, y, chain(1<<16, y))
	checkReplace(t, chain(100, x), x, chain(100, x), chain(200, x))
	checkReplace(t, app("f", xs(5000)...), x, y, app("f", slices.Repeat([]api.Term{y}, 5000)...))
	checkReplace(t, app("f", xs(5000)...), app("f", xs(4999)...), y, app("f", xs(5000)...))
	for _, n := range []int{4095, 4096, 4097} {
		got := Replace(sized(n), x, app("f", x, x))
		if len(listed(got)) != n+2*strings.Count(words(sized(n)), "x") {
			t.Error(n, len(listed(got)))
		}
	}
}

// words are the names of all parts.
func words(t api.Term) string {
	var b strings.Builder
	for _, p := range listed(t) {
		b.WriteString(p.Name)
	}
	return b.String()
}

func TestCopy(t *testing.T) {
	for _, x := range someTerms() {
		checkCopy(t, x)
		for _, wrap := range wraps() {
			checkCopy(t, wrap(x))
		}
	}
	for _, n := range []int{4096, 4097, 20000} {
		checkCopy(t, sized(n))
		checkCopy(t, app("f", xs(n)...))
	}
	checkCopy(t, chain(1<<16, v("x")))
}

// Whatever becomes of an argument or of an answer, the other one stays as it was.
func TestAnswersShareNoMemory(t *testing.T) {
	x := app("f", v("x"), add(num(1), neg(v("x"))), app("c"))
	whole, to := twin(x), app("g", v("y"), v("y"))
	copied, parts, replaced := Copy(x), Parts(x), Replace(x, v("x"), to)
	wantedParts, wanted := wantParts(twin(whole)), twin(wantReplace(whole, v("x"), to))
	spoil(x)
	spoil(to)
	if !equal(copied, whole) || !slices.EqualFunc(parts, wantedParts, equal) || !equal(replaced, wanted) {
		t.Errorf("a changed argument changed %s, %s or %s", text(copied), texts(parts), text(replaced))
	}
	y, to := twin(whole), app("g", v("y"), v("y"))
	copied, parts, replaced = Copy(y), Parts(y), Replace(y, v("x"), to)
	spoil(copied)
	spoil(replaced)
	spoil(parts[0])
	if !equal(y, whole) || !equal(to, app("g", v("y"), v("y"))) || !slices.EqualFunc(parts[1:], wantedParts[1:], equal) {
		t.Errorf("a changed answer changed %s, %s or %s", text(y), text(to), texts(parts))
	}
}

// Nothing is written behind the Args of an argument.
func TestRoomBehindArgs(t *testing.T) {
	room := []api.Term{v("x"), neg(v("x")), v("free"), v("free")}
	x := api.Term{Op: api.TApp, Name: "f", Args: room[:2]}
	Right(x)
	Names(x, x)
	Has(x, v("y"))
	got := []api.Term{Copy(x), Replace(x, v("x"), v("y")), Replace(v("x"), v("x"), x)}
	for _, r := range append(got, Parts(x)...) {
		_ = append(r.Args, v("spoilt"))
	}
	if !equal(room[2], v("free")) || !equal(room[3], v("free")) || !equal(x, app("f", v("x"), neg(v("x")))) {
		t.Error(texts(room))
	}
	l := []api.Term{v("y"), v("x"), v("free")}
	if got := Names(l[:2]...); !slices.Equal(got, []string{"x", "y"}) || !equal(l[0], v("y")) || !equal(l[2], v("free")) {
		t.Error(got, texts(l))
	}
}

// All calls of 7.2 answer as the chapter says, word by word, for small terms.
func TestCallsFollowTheChapter(t *testing.T) {
	terms := someTerms()
	found := map[bool]int{}
	for i, a := range terms {
		b := terms[(i*31+7)%len(terms)]
		checkNames(t, wantNames([]api.Term{a}), a)
		checkNames(t, wantNames([]api.Term{a, b, v("xx")}), a, b, v("xx"))
		checkParts(t, a, wantParts(a)...)
		for j, from := range terms {
			found[wantHas(a, from)]++
			checkHas(t, a, from, wantHas(a, from))
			to := terms[(i+j*5)%len(terms)]
			checkReplace(t, a, from, to, wantReplace(a, from, to))
		}
	}
	if found[true] < 500 || found[false] < 10000 {
		t.Error("too few terms of a kind:", found)
	}
}

// Promise 7.3.

func TestCompareIsATotalOrder(t *testing.T) {
	terms := someTerms()
	order := make([][]int, len(terms))
	for i, a := range terms {
		for _, b := range terms {
			order[i] = append(order[i], Compare(a, b))
		}
	}
	for i := range terms {
		for j := range terms {
			if order[i][j] != -order[j][i] || (order[i][j] == 0) != equal(terms[i], terms[j]) || (order[i][j] == 0) != Same(terms[i], terms[j]) {
				t.Errorf("%s and %s: %d and %d", text(terms[i]), text(terms[j]), order[i][j], order[j][i])
			}
			for k := range terms {
				if order[i][j] <= 0 && order[j][k] <= 0 && order[i][k] != min(order[i][j], order[j][k]) {
					t.Errorf("%s, %s and %s are not in order", text(terms[i]), text(terms[j]), text(terms[k]))
				}
			}
		}
	}
}

func TestReplacingByItselfChangesNothing(t *testing.T) {
	terms := append(someTerms(), sized(4096), sized(4097), chain(100, v("x")))
	for _, a := range terms {
		for _, from := range append(Parts(a), leaves()...) {
			if got := Replace(a, from, from); !Same(got, a) {
				t.Errorf("%s by itself in %s gives %s", text(from), text(a), text(got))
			}
		}
	}
}

func TestAReplacedPartIsGone(t *testing.T) {
	terms, replaced := someTerms(), 0
	for _, a := range terms {
		for _, from := range Parts(a) {
			if len(from.Args) > 0 {
				continue
			}
			for _, to := range terms {
				if Has(to, from) {
					continue
				}
				replaced++
				if got := Replace(a, from, to); Has(got, from) {
					t.Errorf("%s is still in %s after it became %s", text(from), text(got), text(to))
				}
			}
		}
	}
	if replaced < 10000 {
		t.Error(replaced)
	}
}

func TestPartsAreWhatATermHas(t *testing.T) {
	terms := someTerms()
	for _, a := range terms {
		parts := Parts(a)
		if len(parts) == 0 || !Same(parts[0], a) {
			t.Errorf("%s is not its first part", text(a))
		}
		for _, b := range terms {
			if Has(a, b) != slices.ContainsFunc(parts, func(p api.Term) bool { return Same(p, b) }) {
				t.Errorf("%s in %s: %v", text(b), text(a), Has(a, b))
			}
		}
	}
}

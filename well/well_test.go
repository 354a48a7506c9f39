package well

import (
	"math"
	"slices"
	"strconv"
	"strings"
	"testing"

	"sequitur/api"
	"sequitur/claim"
	"sequitur/sample"
	"sequitur/subst"
	"sequitur/term"
)

// Short names for what the tests are full of.
var (
	v, num, app, b        = sample.Var, sample.Num, sample.App, sample.Bound
	add, sub, neg, mul    = sample.Add, sample.Sub, sample.Neg, sample.Mul
	truth, falsity        = sample.True, sample.False
	p, eq, le, made       = sample.Pred, sample.Eq, sample.Le, sample.Made
	not, and, or, imp     = sample.Not, sample.And, sample.Or, sample.Imp
	iff, forAll, exists   = sample.Iff, sample.All, sample.Ex
	withArgs, withTerms   = sample.WithArgs, sample.WithTerms
	withSubs              = sample.WithSubs
	chain, sized, nots    = sample.Chain, sample.SizedTerm, sample.Nots
	text, termText        = sample.ClaimText, sample.TermText
	fn, sg, free          = sample.Fun, sample.Sign, sample.Free
	names, noNames        = sample.Names, sample.NoNames
	wrongTerms, inBinders = sample.WrongTerms, sample.Within
)

type (
	list = []api.Var
	path = []int
)

const (
	least    = math.MinInt64
	greatest = math.MaxInt64
)

// Promise 13.1.

func TestVars(t *testing.T) {
	s := usual().sign
	for _, l := range []list{nil, {}, free("x A"), free("x B"), free("x Int"), free("x A, y A"), free("x A, y B, z Int"), free("z A, y B, x A, w Int")} {
		checkVars(t, s, l, api.OK)
	}
	checkVars(t, api.Sign{}, nil, api.OK)
	checkVars(t, api.Sign{}, free("x Int, y Int"), api.OK)
	checkVars(t, api.Sign{}, free("x A"), api.ErrSort)
	checkVars(t, s, free("x C"), api.ErrSort)
	checkVars(t, s, free("x Bool"), api.ErrSort)
	checkVars(t, s, free("f A"), api.ErrName)
	checkVars(t, s, free("as A"), api.ErrName)
	checkVars(t, s, free("x A, x A"), api.ErrSame)
	checkVars(t, s, free("x A, x B"), api.ErrSame)
	checkVars(t, s, list{{}}, api.ErrName)
	checkVars(t, s, list{{Name: "x"}}, api.ErrSort)
	checkVars(t, s, list{{Sort: "A"}}, api.ErrName)
	// A variable may have the name of a sort.
	checkVars(t, s, free("A A, B A, Int Int, Bool Int, C B"), api.OK)
}

func TestNamesOfVars(t *testing.T) {
	s := sg("A B", fn("k", "A", "A"), fn("pred'", "", "Bool"))
	var all list
	for _, name := range names() {
		one := list{{Name: name, Sort: "A"}}
		all = append(all, one...)
		checkVars(t, s, one, api.OK)
		checkVars(t, api.Sign{}, list{{Name: name, Sort: "Int"}}, api.OK)
		for i := range 4 {
			funs := slices.Insert(slices.Clone(many(3)), i, api.Fun{Name: name})
			checkVars(t, api.Sign{Sorts: s.Sorts, Funs: funs}, one, api.ErrName)
		}
	}
	checkVars(t, s, all, api.OK)
	for _, name := range noNames() {
		for _, sort := range []api.Sort{"A", "Bool", "C"} {
			one := list{{Name: name, Sort: sort}}
			checkVars(t, s, one, api.ErrName)
			checkVars(t, s, slices.Concat(free("x A, y B"), one), api.ErrName)
			checkVars(t, s, slices.Concat(one, one), api.ErrName)
			checkVars(t, api.Sign{Funs: []api.Fun{{Name: name}}}, one, api.ErrName)
		}
	}
	for _, name := range []string{"k", "pred'"} {
		checkVars(t, s, free(name+" A"), api.ErrName)
		checkVars(t, s, free("x A, "+name+" B, y A"), api.ErrName)
		checkVars(t, sg("A"), free("x A, "+name+" A, y A"), api.OK)
	}
	checkVars(t, s, free("K A, kk A, k' A, pred'' A"), api.OK)
	for c := range 256 {
		for _, name := range []string{string([]byte{byte(c)}), "x" + string([]byte{byte(c)}), "x" + string([]byte{byte(c)}) + "y"} {
			followVars(t, s, list{{Name: name, Sort: "A"}})
		}
	}
}

// many are n functions with different names.
func many(n int) []api.Fun {
	var l []api.Fun
	for i := range n {
		l = append(l, fn("m"+strconv.Itoa(i), "A", "A"))
	}
	return l
}

// unknown are sorts that no signature of the tests has.
func unknown() []api.Sort {
	return []api.Sort{"C", "", " ", "a", "b", "A ", " A", "AA", "AB", "A'", "bool", "BOOL", "Bools", "int", "INT", "Int ", "true", "sort", "1", "\xff", "A\x00", "ä", strings.Repeat("A", 33), strings.Repeat("A", api.MaxText+1)}
}

func TestSortsOfVars(t *testing.T) {
	s := usual().sign
	for _, sort := range append(unknown(), "Bool") {
		one := list{{Name: "x", Sort: sort}}
		checkVars(t, s, one, api.ErrSort)
		checkVars(t, api.Sign{}, one, api.ErrSort)
		checkVars(t, s, slices.Concat(free("u A, w B"), one, one), api.ErrSort)
		checkVars(t, s, slices.Concat(one, free("x A")), api.ErrSort)
		checkVars(t, s, slices.Concat(free("x A"), one), api.ErrSort)
		if sort != "Bool" {
			checkVars(t, api.Sign{Sorts: []api.Sort{"A", sort, "B"}}, one, api.OK)
		}
	}
	for i := range 64 {
		var l []api.Sort
		for j := range 64 {
			l = append(l, "S"+strconv.Itoa(j))
		}
		checkVars(t, api.Sign{Sorts: l}, list{{Name: "x", Sort: l[i]}}, api.OK)
		checkVars(t, api.Sign{Sorts: slices.Delete(slices.Clone(l), i, i+1)}, list{{Name: "x", Sort: l[i]}}, api.ErrSort)
	}
}

// numbered are n variables with different names.
func numbered(n int) list {
	var l list
	for i := range n {
		l = append(l, api.Var{Name: "n" + strconv.Itoa(100000+i), Sort: []api.Sort{"A", "Int", "B"}[i%3]})
	}
	return l
}

// put is l with x in place of its element i.
func put(l list, i int, x api.Var) list {
	l = slices.Clone(l)
	l[i] = x
	return l
}

func TestSameVars(t *testing.T) {
	s := usual().sign
	for _, n := range []int{2, 3, 4, 255, 256} {
		l := numbered(n)
		checkVars(t, s, l, api.OK)
		for _, i := range []int{0, 1, n / 2, n - 2} {
			for _, j := range []int{i + 1, (i + n) / 2, n - 1} {
				for _, sort := range []api.Sort{"A", "B", "Int"} {
					if i < j && j < n {
						checkVars(t, s, put(l, j, api.Var{Name: l[i].Name, Sort: sort}), api.ErrSame)
					}
				}
			}
		}
	}
}

func TestTooManyVars(t *testing.T) {
	s := usual().sign
	for _, n := range []int{1, 2, 64, 255, 256} {
		checkVars(t, s, numbered(n), api.OK)
	}
	for _, n := range []int{257, 258, 1000, 1 << 16} {
		l := numbered(n)
		checkVars(t, s, l, api.ErrLong)
		for _, i := range []int{0, 1, 255, n - 1} {
			for _, x := range free("true A, f A, u Bool, u C, " + l[(i+1)%n].Name + " A") {
				checkVars(t, s, put(l, i, x), api.ErrLong)
			}
		}
		checkVars(t, s, make(list, n), api.ErrLong)
	}
	checkVars(t, s, make(list, 256), api.ErrName)
	if api.MaxHyps != 256 {
		t.Error(api.MaxHyps)
	}
}

// Of several errors the one of the first variable counts, and of those of one variable the one that the chapter names first.
func TestFirstErrorOfVars(t *testing.T) {
	s := usual().sign
	wrong := map[api.Errno][]string{
		api.ErrName: {"qed A", "1 A", "f A", "c Bool", "p C", "true C", "f"},
		api.ErrSort: {"u C", "u Bool", "x C", "x Bool", "u f", "u"},
		api.ErrSame: {"x A", "x B", "y Int"},
	}
	for e, l := range wrong {
		for _, one := range l {
			checkVars(t, s, free("x A, y B, "+one), e)
			checkVars(t, s, free("x A, y B, z A, "+one+", w A"), e)
			for _, others := range wrong {
				for _, other := range others {
					checkVars(t, s, free("x A, y B, "+one+", "+other), e)
				}
			}
		}
	}
	for _, i := range []int{1, 128, 255} {
		l := numbered(256)
		checkVars(t, s, put(put(l, i, l[0]), i-1, api.Var{Name: "u", Sort: "C"}), api.ErrSort)
		checkVars(t, s, put(put(l, i, api.Var{Name: "u", Sort: "C"}), 255, api.Var{Name: "1", Sort: "A"}), map[bool]api.Errno{true: api.ErrName, false: api.ErrSort}[i == 255])
	}
}

// pool are variables of which any two lists of the test below are made.
func pool() list {
	return slices.Concat(free("x A, x B, y A, y Int, x Bool, u C, f A, A A, Int Int, Bool A, true A, true C, c Bool"), list{{}, {Name: "x"}, {Sort: "A"}, {Name: strings.Repeat("a", 33), Sort: "A"}, {Name: "x", Sort: "1"}})
}

// someSigns are signatures, right and wrong ones.
func someSigns() []api.Sign {
	return []api.Sign{
		{}, sg("A"), sg("A B"), usual().sign, sg("B", fn("x", "", "A")), sg("A A", fn("y", "", "Bool"), fn("y", "", "A")), {Sorts: []api.Sort{"", "1", "Bool", "true"}}, {Sorts: []api.Sort{"A", "C"}, Funs: []api.Fun{{}, {Name: "true"}, {Name: "A"}}},
		{Sorts: []api.Sort{"Int", "A"}, Funs: []api.Fun{{Name: "Int", Res: "Int"}}}, {Sorts: append(make([]api.Sort, 100), "A"), Funs: append(many(300), fn("x", "C", "D"))},
	}
}

func TestVarsFollowTheChapter(t *testing.T) {
	found := map[api.Errno]int{}
	for _, s := range someSigns() {
		found[followVars(t, s, nil)]++
		for _, x := range pool() {
			found[followVars(t, s, list{x})]++
			for _, y := range pool() {
				found[followVars(t, s, list{x, y})]++
				for _, z := range pool() {
					found[followVars(t, s, list{x, y, z})]++
				}
			}
		}
	}
	enough(t, found, 100, api.OK, api.ErrName, api.ErrSort, api.ErrSame)
}

// enough reports errors of which too few were found.
func enough(t *testing.T, found map[api.Errno]int, least int, errors ...api.Errno) {
	t.Helper()
	if rare := sample.Rare(found, least, errors...); len(rare) > 0 {
		t.Error("too few of", rare, found)
	}
}

// Promise 13.2.

func TestTerm(t *testing.T) {
	in := usual()
	x, z, i, c, d := v("x"), v("z"), v("i"), app("c"), app("d")
	for sort, l := range map[api.Sort][]api.Term{
		"A":   {x, v("y"), c, app("f", x), app("f", c), app("f", app("f", app("f", v("y"))))},
		"B":   {z, d, app("g", x, z), app("g", c, d), app("g", app("f", c), app("g", x, z))},
		"Int": {i, v("j"), num(0), num(-7), num(greatest), num(least), add(i, num(1)), sub(num(1), i), neg(i), mul(3, i), mul(0, num(2)), mul(least, neg(i)), app("h", x, i, z), add(app("h", c, neg(num(1)), d), mul(2, sub(i, v("j"))))},
	} {
		for _, a := range l {
			rightTerm(t, in, a, sort)
			rightTerm(t, in.within("A"), a, sort)
			rightTerm(t, in.within("C", "Bool", ""), a, sort)
			for _, wrong := range []api.Sort{"A", "B", "Int"} {
				if f := map[api.Sort]api.Term{"A": app("f", a), "B": app("g", x, a), "Int": neg(a)}[wrong]; sort == wrong {
					rightTerm(t, in, f, sort)
				} else {
					failTerm(t, in, f, api.ErrSort, len(f.Args)-1)
				}
			}
		}
	}
	failTerm(t, setting{sg("A B", fn("f", "A", "A")), free("x B"), nil}, app("f", x), api.ErrSort, 0)
	failTerm(t, in, v("u"), api.ErrName)
	failTerm(t, in, v(""), api.ErrName)
	failTerm(t, in, v("c"), api.ErrName)
	failTerm(t, in, app("x"), api.ErrName)
	failTerm(t, in, app(""), api.ErrName)
	failTerm(t, in, app("r"), api.ErrName)
	failTerm(t, in, app("f"), api.ErrArity)
	failTerm(t, in, app("c", x), api.ErrArity)
	failTerm(t, in, app("f", x, x), api.ErrArity)
	failTerm(t, in, app("p", z), api.ErrName)
	failTerm(t, in, app("p"), api.ErrName)
	failTerm(t, in, b(0), api.ErrBound)
	failTerm(t, setting{}, x, api.ErrName)
	failTerm(t, setting{}, c, api.ErrName)
	failTerm(t, setting{}, b(0), api.ErrBound)
	rightTerm(t, setting{}, num(1), "Int")
	rightTerm(t, setting{}, add(num(1), neg(mul(2, num(3)))), "Int")
}

// The innermost binder is the last one.
func TestBinders(t *testing.T) {
	in := usual()
	sorts := []api.Sort{"A", "Int", "B", "A", "C", "", "Bool", "Int"}
	for n := range len(sorts) + 1 {
		around := in.within(sorts[:n]...)
		for i := range n {
			rightTerm(t, around, b(int64(i)), sorts[n-1-i])
			rightTerm(t, around, v("x"), "A")
			for sort, a := range map[api.Sort]api.Term{"A": app("f", b(int64(i))), "Int": neg(b(int64(i)))} {
				if sorts[n-1-i] == sort {
					rightTerm(t, around, a, sort)
				} else {
					failTerm(t, around, a, api.ErrSort, 0)
				}
			}
		}
		for _, i := range []int64{int64(n), int64(n) + 1, 1 << 31, 1 << 32, 1<<32 + 1, 1 << 62, greatest} {
			failTerm(t, around, b(i), api.ErrBound)
			failTerm(t, around, app("f", app("f", b(i))), api.ErrBound, 0, 0)
			failTerm(t, around, add(num(1), neg(b(i))), api.ErrBound, 1, 0)
		}
	}
	rightTerm(t, in.within("A", "B"), app("g", b(1), b(0)), "B")
	failTerm(t, in.within("B", "A"), app("g", b(1), b(0)), api.ErrSort, 0)
	failTerm(t, in.within("A", "A"), app("g", b(1), b(0)), api.ErrSort, 1)
	failTerm(t, in.within("A"), app("g", b(1), b(0)), api.ErrBound, 0)
}

// A function, a sort or a variable may be there twice: the first one counts.
func TestNamesThatAreThereTwice(t *testing.T) {
	in := setting{sign: sg("A B", fn("c", "", "A"), fn("c", "", "B"), fn("f", "A", "B"), fn("f", "B", "A"), fn("f", "", "Int"), fn("p", "A", "Bool"), fn("p", "A", "A"), fn("q", "B", "B"), fn("q", "B", "Bool")), vars: free("x A, x B, y B, x Int, y Bool")}
	rightTerm(t, in, v("x"), "A")
	rightTerm(t, in, v("y"), "B")
	rightTerm(t, in, app("c"), "A")
	rightTerm(t, in, app("f", v("x")), "B")
	rightTerm(t, in, app("f", app("c")), "B")
	failTerm(t, in, app("f", v("y")), api.ErrSort, 0)
	failTerm(t, in, app("f"), api.ErrArity)
	failTerm(t, in, app("f", app("f", v("x"))), api.ErrSort, 0)
	failTerm(t, in, app("p", v("x")), api.ErrName)
	rightTerm(t, in, app("q", v("y")), "B")
	rightClaim(t, in, p("p", v("x")))
	failClaim(t, in, p("p", v("y")), api.ErrSort, 0)
	failClaim(t, in, p("q", v("y")), api.ErrName)
	rightClaim(t, in, eq(v("x"), app("c")))
}

// Sorts are texts, whatever they are: they need not be known, and Bool is one of them.
func TestSortsAreTexts(t *testing.T) {
	for _, sort := range append(unknown(), "Bool", "A", "Int") {
		s := api.Sign{Funs: []api.Fun{{Name: "f", Args: []api.Sort{sort}, Res: "A"}, {Name: "c", Res: sort}, {Name: "p", Args: []api.Sort{"B", sort}, Res: "Bool"}}}
		in := setting{s, list{{Name: "x", Sort: sort}, {Name: "y", Sort: "B"}}, nil}
		rightTerm(t, in, v("x"), sort)
		rightTerm(t, in, app("f", v("x")), "A")
		rightTerm(t, in.within(sort), app("f", b(0)), "A")
		rightTerm(t, in.within(sort), b(0), sort)
		rightClaim(t, in, p("p", v("y"), v("x")))
		rightClaim(t, in, eq(v("x"), v("x")))
		failClaim(t, in, eq(v("x"), v("y")), api.ErrSort, 1)
		failClaim(t, in, p("p", v("x"), v("x")), api.ErrSort, 0)
		failTerm(t, in, app("f", v("y")), api.ErrSort, 0)
		if sort == "Bool" {
			failTerm(t, in, app("c"), api.ErrName)
			continue
		}
		rightTerm(t, in, app("f", app("c")), "A")
		if sort != "Int" {
			failTerm(t, in, neg(app("c")), api.ErrSort, 0)
		} else {
			rightTerm(t, in, neg(app("c")), "Int")
		}
	}
	// Texts that are alike are not the same.
	for _, pair := range [][2]api.Sort{{"A", "a"}, {"A", "A "}, {"Int", "int"}, {"", "\x00"}, {"\xff", "\xfe"}, {"A", ""}} {
		in := setting{api.Sign{Funs: []api.Fun{{Name: "f", Args: []api.Sort{pair[0]}, Res: "B"}}}, list{{Name: "x", Sort: pair[0]}, {Name: "y", Sort: pair[1]}}, nil}
		rightTerm(t, in, app("f", v("x")), "B")
		failTerm(t, in, app("f", v("y")), api.ErrSort, 0)
		failClaim(t, in, eq(v("x"), v("y")), api.ErrSort, 1)
	}
}

// Names are texts: they need not be names, and a word or the empty text may be one.
func TestNamesAreTexts(t *testing.T) {
	for _, name := range append(names(), noNames()...) {
		in := setting{api.Sign{Funs: []api.Fun{{Name: name, Args: []api.Sort{"A"}, Res: "A"}}}, list{{Name: name, Sort: "A"}}, nil}
		rightTerm(t, in, app(name, v(name)), "A")
		failTerm(t, in, app(name, v(name+"'")), api.ErrName, 0)
		failTerm(t, in, app(name+"'", v(name)), api.ErrName)
		in.sign.Funs[0].Res = "Bool"
		rightClaim(t, in, p(name, v(name)))
		failClaim(t, in, p(name+"'", v(name)), api.ErrName)
		failTerm(t, in, app(name, v(name)), api.ErrName)
	}
}

// wrongTerm is a term with an error, and the path to it.
type wrongTerm struct {
	t  api.Term
	at path
}

// faults are terms with each error, right ones by layer 7.
func faults() map[api.Errno][]wrongTerm {
	x, i := v("x"), v("i")
	return map[api.Errno][]wrongTerm{
		api.ErrName:  {{v("u"), nil}, {app("u"), nil}, {app("p", v("z")), nil}, {app("f", v("u")), path{0}}, {add(i, neg(app("r"))), path{1, 0}}},
		api.ErrBound: {{b(3), nil}, {app("g", x, b(4)), path{1}}, {mul(2, sub(i, b(greatest))), path{0, 1}}},
		api.ErrArity: {{app("f"), nil}, {app("c", x), nil}, {app("h", x, i), nil}, {app("f", app("g", x)), path{0}}, {neg(neg(app("h", x, i, v("z"), x))), path{0, 0}}},
		api.ErrSort:  {{app("f", i), path{0}}, {app("g", x, x), path{1}}, {app("h", x, i, i), path{2}}, {add(x, x), path{0}}, {sub(i, x), path{1}}, {neg(v("z")), path{0}}, {mul(1, x), path{0}}, {app("f", app("g", i, i)), path{0, 0}}},
	}
}

// Wherever an error is, the path leads to it, and what is ahead of it is well sorted or not looked at.
func TestErrorsFurtherIn(t *testing.T) {
	in := usual().within("A", "B", "Int")
	x, z, i := v("x"), v("z"), v("i")
	hulls := map[string]func(api.Term) (api.Term, int){
		"f":     func(a api.Term) (api.Term, int) { return app("f", a), 0 },
		"g 0":   func(a api.Term) (api.Term, int) { return app("g", a, z), 0 },
		"g 1":   func(a api.Term) (api.Term, int) { return app("g", x, a), 1 },
		"h 1":   func(a api.Term) (api.Term, int) { return app("h", x, a, z), 1 },
		"h 2":   func(a api.Term) (api.Term, int) { return app("h", app("f", x), add(i, i), a), 2 },
		"+ 0":   func(a api.Term) (api.Term, int) { return add(a, i), 0 },
		"+ 1":   func(a api.Term) (api.Term, int) { return add(i, a), 1 },
		"- 0":   func(a api.Term) (api.Term, int) { return sub(a, neg(i)), 0 },
		"- 1":   func(a api.Term) (api.Term, int) { return sub(b(0), a), 1 },
		"neg":   func(a api.Term) (api.Term, int) { return neg(a), 0 },
		"mul":   func(a api.Term) (api.Term, int) { return mul(7, a), 0 },
		"wrong": func(a api.Term) (api.Term, int) { return app("none", x, b(1), i, a, b(99), v("u")), 3 },
		"p":     func(a api.Term) (api.Term, int) { return app("p", a, x), 0 },
		"arity": func(a api.Term) (api.Term, int) { return app("c", num(1), a, x), 1 },
		"later": func(a api.Term) (api.Term, int) { return add(a, x), 0 },
		"sorts": func(a api.Term) (api.Term, int) { return app("h", i, i, a), 2 },
	}
	for e, l := range faults() {
		for _, one := range l {
			failTerm(t, in, one.t, e, one.at...)
			for _, hull := range hulls {
				a, n := hull(one.t)
				failTerm(t, in, a, e, to(path{n}, one.at...)...)
				for _, outer := range hulls {
					a, m := outer(a)
					failTerm(t, in, a, e, to(path{m, n}, one.at...)...)
				}
			}
		}
	}
}

// Of several errors the first one counts: the Args from left to right, each with all that is in it, and then the part itself.
func TestFirstErrorOfTerms(t *testing.T) {
	in := usual().within("A", "B", "Int")
	for e, l := range faults() {
		for _, one := range l {
			for _, others := range faults() {
				for _, other := range others {
					failTerm(t, in, add(one.t, other.t), e, to(path{0}, one.at...)...)
					failTerm(t, in, app("g", one.t, other.t), e, to(path{0}, one.at...)...)
					failTerm(t, in, app("none", v("x"), one.t, other.t, one.t), e, to(path{1}, one.at...)...)
					failTerm(t, in, app("f", v("x"), app("h", num(1), one.t), other.t), e, to(path{1, 1}, one.at...)...)
				}
			}
		}
	}
	x, i := v("x"), v("i")
	// Of one part: its name ahead of the number of its Args, this ahead of their sorts, and these from left to right.
	for n := range 9 {
		args := slices.Repeat([]api.Term{i}, n)
		failTerm(t, in, app("none", args...), api.ErrName)
		failTerm(t, in, app("p", args...), api.ErrName)
		if n != 2 {
			failTerm(t, in, app("g", args...), api.ErrArity)
			continue
		}
		failTerm(t, in, app("g", args...), api.ErrSort, 0)
		failTerm(t, in, app("g", x, i), api.ErrSort, 1)
	}
	failTerm(t, in, app("h", x, x, x), api.ErrSort, 1)
	failTerm(t, in, app("h", x, i, x), api.ErrSort, 2)
	failTerm(t, in, add(x, x), api.ErrSort, 0)
	failTerm(t, in, add(i, x), api.ErrSort, 1)
	failTerm(t, in, sub(x, i), api.ErrSort, 0)
	failTerm(t, in, sub(i, b(2)), api.ErrSort, 1)
}

// The errors of layer 7 come ahead of all others, with an empty path.
func TestWrongTerms(t *testing.T) {
	in := usual().within("A", "Int")
	x := v("x")
	wrong := []api.Term{{}, {Op: 9}, {Op: -1}, {Op: least}, {Op: 1<<32 + 1}, b(-1), b(least), withArgs(x, x), withArgs(b(0), x), withArgs(num(1), x), {Op: api.TNum, Name: "x"}, {Op: api.TNeg}, {Op: api.TMul}, {Op: api.TAdd, Args: []api.Term{x}}, {Op: api.TSub}, {Op: api.TVar, Name: "x", Num: 1}, {Op: api.TApp, Name: "c", Num: 1}, {Op: api.TAdd, Name: "x", Args: []api.Term{num(1), num(1)}}, app("f", sample.Vars(9, "x")...)}
	for _, a := range wrong {
		e := term.Right(a)
		if e == api.OK {
			t.Error(termText(a))
		}
		for _, whole := range []api.Term{a, app("f", a), app("none", v("u"), b(7), add(x, x), a), add(x, a), app("p", a), app("g", a)} {
			for _, in := range []setting{{}, in, in.within()} {
				failTerm(t, in, whole, e)
				for _, c := range []api.Claim{p("p", whole), eq(v("u"), whole), forAll("u", "C", le(x, whole)), and(p("none", b(1)), not(p("p", whole)))} {
					failClaim(t, in, c, e)
				}
			}
		}
	}
	for e, a := range wrongTerms() {
		failTerm(t, in, a, e)
		failTerm(t, in, app("none", b(2), v("u"), a), e)
	}
	failTerm(t, in, app("none", v("u"), api.Term{}, api.Term{Op: api.TNeg}), api.ErrForm)
	failTerm(t, in, app("none", v("u"), api.Term{Op: api.TNeg}, api.Term{}), api.ErrArity)
}

// someLeaves are terms of every kind without Args, well sorted in the usual setting or not.
func someLeaves() []api.Term {
	return []api.Term{v("x"), v("z"), v("i"), v("u"), b(0), b(1), num(5), app("c"), app("d"), app("u"), app("r")}
}

// shallow are terms of at most one level above the leaves.
func shallow(leaves []api.Term) []api.Term {
	l := slices.Clone(leaves)
	for _, a := range leaves {
		l = append(l, app("f", a), app("g", a), app("p", a), app("c", a), app("u", a), neg(a), mul(-2, a))
		for _, b := range leaves {
			l = append(l, app("g", a, b), app("f", a, b), add(a, b), sub(a, b))
		}
	}
	return l
}

// someTerms are the small set of terms for which all is tried.
func someTerms() []api.Term {
	return slices.Concat(shallow(someLeaves()), shallow(shallow([]api.Term{v("x"), v("i"), b(0)})))
}

// someSettings are settings of the terms above.
func someSettings() []setting {
	in := usual()
	twice := in.sign
	twice.Funs = append([]api.Fun{fn("f", "Int", "A"), fn("c", "", "Bool"), fn("r", "", "Int"), fn("g", "", "B")}, twice.Funs...)
	return []setting{{}, in, in.within("A"), in.within("Int", "B"), {twice, free("z A, x Int, x A, u Bool, i Int"), []api.Sort{"Bool", ""}}, {sign: in.sign, binders: []api.Sort{"B", "A", "Int"}}}
}

func TestTermsFollowTheChapter(t *testing.T) {
	found := map[api.Errno]int{}
	for _, a := range someTerms() {
		for _, in := range someSettings() {
			found[followTerm(t, in, a).e]++
		}
	}
	enough(t, found, 300, api.OK, api.ErrName, api.ErrBound, api.ErrArity, api.ErrSort)
}

// Promise 13.3.

func TestClaim(t *testing.T) {
	in := usual()
	x, z, i, c := v("x"), v("z"), v("i"), app("c")
	for _, c := range []api.Claim{
		truth(), falsity(), p("r"), p("p", z), p("p", app("g", x, z)), p("q", x, num(3)), eq(x, c), eq(z, app("g", c, z)), eq(i, num(1)), le(i, num(1)), le(add(i, i), neg(mul(2, i))),
		not(p("r")), and(p("r"), p("p", z)), or(truth(), le(i, i)), imp(eq(x, x), eq(z, z)), iff(p("r"), not(p("r"))),
		forAll("u", "A", eq(b(0), x)), exists("u", "B", p("p", b(0))), forAll("u", "Int", le(b(0), i)), forAll("", "A", exists("x", "B", p("p", app("g", b(1), b(0))))), forAll("true", "A", truth()),
		forAll("x", "B", and(p("p", b(0)), eq(v("x"), c))),
	} {
		rightClaim(t, in, c)
		rightClaim(t, in, not(and(c, forAll("w", "Int", c))))
	}
	failClaim(t, setting{sg("A"), free("x A"), nil}, le(x, num(3)), api.ErrSort, 0)
	failClaim(t, in, p("p", x), api.ErrSort, 0)
	failClaim(t, in, p("none"), api.ErrName)
	failClaim(t, in, p("none", x), api.ErrName)
	failClaim(t, in, p("f", x), api.ErrName)
	failClaim(t, in, p("c"), api.ErrName)
	failClaim(t, in, p("x"), api.ErrName)
	failClaim(t, in, p(""), api.ErrName)
	failClaim(t, in, p("p"), api.ErrArity)
	failClaim(t, in, p("p", z, z), api.ErrArity)
	failClaim(t, in, p("r", z), api.ErrArity)
	failClaim(t, in, p("q", i, x), api.ErrSort, 0)
	failClaim(t, in, p("q", x, x), api.ErrSort, 1)
	failClaim(t, in, eq(x, z), api.ErrSort, 1)
	failClaim(t, in, eq(z, x), api.ErrSort, 1)
	failClaim(t, in, eq(i, x), api.ErrSort, 1)
	failClaim(t, in, le(x, i), api.ErrSort, 0)
	failClaim(t, in, le(i, x), api.ErrSort, 1)
	failClaim(t, in, le(x, x), api.ErrSort, 0)
	failClaim(t, in, le(z, z), api.ErrSort, 0)
	failClaim(t, in, forAll("u", "C", truth()), api.ErrSort)
	failClaim(t, in, exists("u", "Bool", truth()), api.ErrSort)
	failClaim(t, in, exists("u", "", truth()), api.ErrSort)
	failClaim(t, in, p("p", b(0)), api.ErrBound, 0)
	failClaim(t, in, forAll("u", "B", p("p", b(1))), api.ErrBound, 0, 0)
	failClaim(t, in, forAll("u", "A", eq(v("u"), v("u"))), api.ErrName, 0, 0) // the name of a binder is no variable
	rightClaim(t, setting{}, forAll("u", "Int", le(b(0), b(0))))
	failClaim(t, setting{}, forAll("u", "A", truth()), api.ErrSort)
}

// place is a place in a claim: a claim around another one, the path there, and the binders there.
type place struct {
	wrap    func(api.Claim) api.Claim
	at      path
	binders []api.Sort
}

// somePlaces are places of every kind, ahead of or behind claims without an error.
func somePlaces() []place {
	ok := eq(v("x"), app("c"))
	return []place{
		{func(c api.Claim) api.Claim { return c }, nil, nil},
		{not, path{0}, nil},
		{func(c api.Claim) api.Claim { return and(c, ok) }, path{0}, nil},
		{func(c api.Claim) api.Claim { return and(ok, c) }, path{1}, nil},
		{func(c api.Claim) api.Claim { return or(c, truth()) }, path{0}, nil},
		{func(c api.Claim) api.Claim { return or(falsity(), c) }, path{1}, nil},
		{func(c api.Claim) api.Claim { return imp(c, ok) }, path{0}, nil},
		{func(c api.Claim) api.Claim { return imp(forAll("u", "B", p("p", b(0))), c) }, path{1}, nil},
		{func(c api.Claim) api.Claim { return iff(c, le(v("i"), v("j"))) }, path{0}, nil},
		{func(c api.Claim) api.Claim { return iff(p("r"), c) }, path{1}, nil},
		{func(c api.Claim) api.Claim { return forAll("u", "A", c) }, path{0}, []api.Sort{"A"}},
		{func(c api.Claim) api.Claim { return exists("x", "Int", c) }, path{0}, []api.Sort{"Int"}},
		{func(c api.Claim) api.Claim { return and(ok, exists("u", "B", or(c, p("p", b(0))))) }, path{1, 0, 0}, []api.Sort{"B"}},
		{func(c api.Claim) api.Claim {
			return forAll("u", "A", not(exists("u", "Int", and(le(b(0), b(0)), c))))
		}, path{0, 0, 0, 1}, []api.Sort{"A", "Int"}},
	}
}

// twoPlaces are places within places.
func twoPlaces() []place {
	var l []place
	for _, one := range somePlaces() {
		for _, other := range somePlaces() {
			l = append(l, place{func(c api.Claim) api.Claim { return one.wrap(other.wrap(c)) }, to(one.at, other.at...), slices.Concat(one.binders, other.binders)})
		}
	}
	return l
}

// wrongClaim is a claim with an error, and the path to it.
type wrongClaim struct {
	c  api.Claim
	at path
}

// claimFaults are claims with each error, right ones by layer 8, whatever few binders are around them.
func claimFaults() map[api.Errno][]wrongClaim {
	x, z, i := v("x"), v("z"), v("i")
	return map[api.Errno][]wrongClaim{
		api.ErrName:  {{p("none"), nil}, {p("f", x), nil}, {p("none", x, i), nil}, {eq(x, v("u")), path{1}}, {p("q", x, neg(app("u"))), path{1, 0}}, {le(app("r"), x), path{0}}},
		api.ErrBound: {{p("p", b(9)), path{0}}, {eq(x, app("f", b(greatest))), path{1, 0}}, {exists("u", "A", le(b(7), v("u"))), path{0, 0}}},
		api.ErrArity: {{p("p"), nil}, {p("r", x), nil}, {p("q", x, i, i), nil}, {p("p", app("g", x)), path{0}}, {le(i, add(i, app("h"))), path{1, 1}}},
		api.ErrSort: {{p("p", x), path{0}}, {p("q", i, x), path{0}}, {p("q", x, x), path{1}}, {eq(x, z), path{1}}, {le(x, z), path{0}}, {le(i, z), path{1}}, {eq(x, app("f", z)), path{1, 0}}, {eq(neg(z), x), path{0, 0}},
			{forAll("u", "C", eq(x, z)), nil}, {exists("u", "Bool", p("none")), nil}, {forAll("u", "A", le(i, b(0))), path{0, 1}}},
	}
}

// Wherever an error is, the path leads to it, and the binders around it count.
func TestErrorsInClaims(t *testing.T) {
	in := usual()
	for e, l := range claimFaults() {
		for _, one := range l {
			for _, at := range twoPlaces() {
				failClaim(t, in, at.wrap(one.c), e, to(at.at, one.at...)...)
			}
		}
	}
	for _, at := range twoPlaces() {
		n := len(at.binders)
		rightClaim(t, in, at.wrap(truth()))
		for i, sort := range at.binders {
			bound := b(int64(n - 1 - i))
			for other, x := range map[api.Sort]api.Term{"A": v("x"), "B": v("z"), "Int": v("i")} {
				if sort == other {
					rightClaim(t, in, at.wrap(eq(bound, x)))
				} else {
					failClaim(t, in, at.wrap(eq(bound, x)), api.ErrSort, to(at.at, 1)...)
				}
			}
			rightClaim(t, in, at.wrap(exists("w", "A", eq(b(int64(n-i)), b(int64(n-i))))))
		}
		failClaim(t, in, at.wrap(eq(v("x"), b(int64(n)))), api.ErrBound, to(at.at, 1)...)
		failClaim(t, in, at.wrap(p("p", app("g", app("f", b(int64(n))), v("u")))), api.ErrBound, to(at.at, 0, 0, 0)...)
		failClaim(t, in, at.wrap(forAll("w", "B", p("p", b(int64(n+1))))), api.ErrBound, to(at.at, 0, 0)...)
	}
}

// Of several errors the first one counts: the Terms and then the Subs, from left to right, each with all that is in it, and then the part itself.
func TestFirstErrorOfClaims(t *testing.T) {
	in := usual()
	for e, l := range claimFaults() {
		for _, one := range l {
			for _, others := range claimFaults() {
				for _, other := range others {
					for n, join := range []func(a, b api.Claim) api.Claim{and, or, imp, iff} {
						failClaim(t, in, join(one.c, other.c), e, to(path{0}, one.at...)...)
						failClaim(t, in, not(join(join(truth(), one.c), other.c)), e, to(path{0, 0, 1}, one.at...)...)
						if n == 0 {
							failClaim(t, in, forAll("u", "A", join(eq(v("x"), b(0)), join(one.c, other.c))), e, to(path{0, 1, 0}, one.at...)...)
						}
					}
				}
			}
			// A binder's sort is looked at ahead of what is in it.
			failClaim(t, in, forAll("u", "C", one.c), api.ErrSort)
			failClaim(t, in, forAll("u", "A", exists("u", "Bool", one.c)), api.ErrSort, 0)
			failClaim(t, in, forAll("u", "Bool", exists("u", "C", one.c)), api.ErrSort)
			failClaim(t, in, and(one.c, forAll("u", "C", truth())), e, to(path{0}, one.at...)...)
		}
	}
	for e, l := range faults() {
		for _, one := range l {
			around := func(c api.Claim) api.Claim { return forAll("u", "A", forAll("u", "B", forAll("u", "Int", c))) }
			for _, others := range faults() {
				for _, other := range others {
					failClaim(t, in, around(eq(one.t, other.t)), e, to(path{0, 0, 0, 0}, one.at...)...)
					failClaim(t, in, around(le(one.t, other.t)), e, to(path{0, 0, 0, 0}, one.at...)...)
					failClaim(t, in, around(p("none", v("x"), b(0), one.t, other.t)), e, to(path{0, 0, 0, 2}, one.at...)...)
				}
			}
			failClaim(t, in, around(p("p", v("x"), one.t)), e, to(path{0, 0, 0, 1}, one.at...)...)
			failClaim(t, in, around(le(v("x"), one.t)), e, to(path{0, 0, 0, 1}, one.at...)...)
			failClaim(t, in, around(p("f", v("i"), v("x"), one.t)), e, to(path{0, 0, 0, 2}, one.at...)...)
		}
	}
	for n := range 9 {
		terms := slices.Repeat([]api.Term{v("x")}, n)
		failClaim(t, in, p("none", terms...), api.ErrName)
		failClaim(t, in, p("f", terms...), api.ErrName)
		if n != 1 {
			failClaim(t, in, p("p", terms...), api.ErrArity)
		}
	}
}

// The sort of a binder has to be one that the signature knows, and not Bool.
func TestSortsOfBinders(t *testing.T) {
	in := usual()
	for _, at := range somePlaces() {
		for _, op := range []int{api.CAll, api.CEx} {
			binder := func(sort api.Sort, c api.Claim) api.Claim {
				return at.wrap(api.Claim{Op: op, Name: "u", Sort: sort, Subs: []api.Claim{c}})
			}
			for _, sort := range []api.Sort{"A", "B", "Int"} {
				rightClaim(t, in, binder(sort, eq(b(0), b(0))))
			}
			for _, sort := range append(unknown(), "Bool") {
				failClaim(t, in, binder(sort, truth()), api.ErrSort, at.at...)
				failClaim(t, in, binder(sort, p("p", v("x"))), api.ErrSort, at.at...)
				other := in
				other.sign = api.Sign{Sorts: []api.Sort{"A", "Int", sort, "B"}, Funs: in.sign.Funs}
				if sort == "Bool" {
					failClaim(t, other, binder(sort, eq(b(0), b(0))), api.ErrSort, at.at...)
				} else {
					rightClaim(t, other, binder(sort, eq(b(0), b(0))))
				}
			}
		}
	}
}

// The errors of layer 8 come ahead of all others, with an empty path.
func TestWrongClaims(t *testing.T) {
	in := usual()
	x := v("x")
	wrong := []api.Claim{
		{}, {Op: 13}, {Op: -1}, {Op: least}, {Op: 1<<32 + 11}, {Op: api.CTrue, Name: "r"}, {Op: api.CFalse, Sort: "A"}, {Op: api.CPred, Name: "r", Sort: "A"}, {Op: api.CNot}, {Op: api.CAnd}, {Op: api.CEq}, {Op: api.CLe}, {Op: api.CAll, Sort: "A"}, {Op: api.CEx},
		withTerms(truth(), x), withTerms(not(truth()), x), withSubs(p("r"), truth()), withSubs(eq(x, x), truth()), withTerms(eq(x, x), x), withTerms(le(x, x), x, x, x), withTerms(forAll("u", "C", truth()), x), withSubs(forAll("u", "C", truth()), truth(), truth()),
		made(api.CAnd, truth()), made(api.CIff, truth(), truth(), truth()), p("p", sample.Vars(9, "x")...), p("p", api.Term{}), eq(x, b(-1)),
	}
	for _, c := range wrong {
		e := claim.Right(c)
		if e == api.OK {
			t.Error(text(c))
		}
		for _, whole := range []api.Claim{c, not(c), and(p("none", v("u")), c), forAll("u", "Bool", c), exists("u", "A", or(eq(x, b(5)), imp(c, c))), or(c, p("none"))} {
			failClaim(t, in, whole, e)
			failClaim(t, setting{}, whole, e)
		}
	}
	failClaim(t, in, and(p("none"), and(api.Claim{}, not(withTerms(truth(), x)))), api.ErrForm)
	failClaim(t, in, and(p("none"), and(withTerms(truth(), x), api.Claim{})), api.ErrArity)
	for e, c := range map[api.Errno][]api.Claim{
		api.ErrDeep: {nots(64, p("none")), nots(1<<16, truth()), nots(5000, p("none")), inBinders(1<<16, p("none")), p("none", chain(64, x))},
		api.ErrLong: {sample.SizedClaim(4097), sample.Heavy(4097), sample.SizedClaim(1 << 16), sample.Heavy(1 << 16), forAll("u", "C", sample.Heavy(4096)), and(p("none"), and(sample.Heavy(2048), sample.Heavy(2047)))},
	} {
		for _, c := range c {
			failClaim(t, in, c, e)
		}
	}
}

// A part of a right claim has no Subs beside its Terms; if there were any, their positions would come behind those of the Terms.
func TestSubsStandBehindTerms(t *testing.T) {
	in := usual()
	whole := checker{sign: in.sign, sortOf: sortsOf(in.vars)}
	x := v("x")
	for i, bad := range []api.Claim{p("none"), forAll("u", "C", truth()), p("p")} {
		for n := range 4 {
			for j := range 3 {
				subs := []api.Claim{truth(), eq(x, x), p("r")}
				subs[j] = bad
				c := withTerms(made(api.CAnd, subs...), sample.Vars(n, "x")...)
				if at, e := whole.claim(c, nil); e == 0 || !slices.Equal(at, path{n + j}) {
					t.Error(i, n, j, at, e)
				}
				if at, e := whole.claim(not(not(c)), nil); e == 0 || !slices.Equal(at, path{0, 0, n + j}) {
					t.Error(i, n, j, at, e)
				}
			}
		}
	}
	if at, e := whole.claim(withTerms(and(truth(), p("p", x)), x, x), nil); e != api.ErrSort || !slices.Equal(at, path{3, 0}) {
		t.Error(at, e)
	}
}

// someAtoms are claims of the terms.
func someAtoms(terms []api.Term) []api.Claim {
	l := []api.Claim{truth(), falsity(), p("r"), p("c"), p("u"), p("q")}
	for _, a := range terms {
		l = append(l, p("p", a), p("q", a), p("u", a), p("f", a), p("r", a))
		for _, b := range terms {
			l = append(l, eq(a, b), le(a, b), p("q", a, b))
		}
	}
	return l
}

// someClaims are claims of the atoms, within no binder, one or several, right and wrong ones.
func someClaims(f func(api.Claim)) {
	few := someAtoms([]api.Term{v("x"), v("i"), v("u"), b(0), b(1), app("f", b(0))})
	for _, c := range someAtoms(shallow([]api.Term{v("x"), v("u"), b(0), num(5)})) {
		f(c)
	}
	for k, c := range few {
		for _, sort := range []api.Sort{"A", "Int", "C", "Bool"} {
			f(forAll("x", sort, c))
			f(exists("y", "B", forAll("u", sort, c)))
			f(and(exists("y", sort, not(c)), c))
		}
		for i := k % 5; i < len(few); i += 5 {
			f(or(c, few[i]))
			f(imp(forAll("", "A", iff(few[i], c)), not(few[i])))
		}
		f(withTerms(c, append(c.Terms, v("x"))...))
		f(withSubs(c, append(c.Subs, truth())...))
	}
}

func TestClaimsFollowTheChapter(t *testing.T) {
	found := map[api.Errno]int{}
	settings := someSettings()
	k := 0
	someClaims(func(c api.Claim) {
		k++
		for j, in := range settings {
			if (k+j)%3 == 0 {
				found[followClaim(t, in, c).e]++
			}
		}
	})
	enough(t, found, 300, api.OK, api.ErrName, api.ErrBound, api.ErrArity, api.ErrSort)
}

// Promise 13.4.

// substitutions are substitutions of the variables x, z and i by terms of the same sorts, of none, some or all of them.
func substitutions() [][]api.Pair {
	x, z, i := v("x"), v("z"), v("i")
	return sample.Fillings(free("i Int, x A, z B"), map[api.Sort][]api.Term{
		"A":   {x, v("y"), app("c"), app("f", app("f", x))},
		"B":   {z, app("d"), app("g", x, z)},
		"Int": {i, num(-3), add(i, v("j")), mul(2, app("h", x, i, z))},
	})
}

// Terms of the same sorts in place of variables keep the sort of a term, and leave a claim well sorted.
func TestSubstitutionKeepsSorts(t *testing.T) {
	all, kept := substitutions(), 0
	for _, in := range []setting{usual(), usual().within("A", "Int")} {
		for _, a := range someTerms() {
			if want := wantTerm(in, a); want.e == 0 {
				for _, l := range all {
					rightTerm(t, in, subst.Apply(l, a), want.sort)
					kept++
				}
			}
		}
	}
	someClaims(func(c api.Claim) {
		if in := usual(); wantClaim(in, c).e == 0 {
			for _, l := range all {
				rightClaim(t, in, subst.ApplyClaim(l, c))
				kept++
			}
		}
	})
	if kept < 10000 {
		t.Error(kept)
	}
}

// Variables behind the others change nothing for what is well sorted, whatever names and sorts they have.
func TestMoreVariables(t *testing.T) {
	kept := 0
	more := []list{free("u A"), free("x B, i A, z Bool, c B"), append(numbered(300), list{{}, {Name: "x"}, {Sort: "A"}}...)}
	for _, a := range someTerms() {
		for _, in := range someSettings() {
			if want := wantTerm(in, a); want.e == 0 {
				for _, l := range more {
					in.vars = slices.Concat(in.vars, l)
					holdTerm(t, in, a, want)
					kept++
				}
			}
		}
	}
	someClaims(func(c api.Claim) {
		for _, in := range someSettings() {
			if wantClaim(in, c).e == 0 {
				for _, l := range more {
					in.vars = slices.Concat(in.vars, l)
					rightClaim(t, in, c)
					kept++
				}
			}
		}
	})
	if kept < 5000 {
		t.Error(kept)
	}
	// For what is not well sorted they may.
	in := usual()
	failTerm(t, in, app("f", v("u")), api.ErrName, 0)
	rightTerm(t, in.with("u A"), app("f", v("u")), "A")
	failTerm(t, in.with("u B, u A"), app("f", v("u")), api.ErrSort, 0)
}

// leads tells whether the path leads to a part of t.
func leads(t api.Term, at path) bool {
	for _, i := range at {
		if i < 0 || i >= len(t.Args) {
			return false
		}
		t = t.Args[i]
	}
	return true
}

// leadsIn tells whether the path leads to a part of c.
func leadsIn(c api.Claim, at path) bool {
	if len(at) == 0 {
		return true
	}
	i, n := at[0], len(c.Terms)
	switch {
	case i < 0 || i >= n+len(c.Subs):
		return false
	case i < n:
		return leads(c.Terms[i], at[1:])
	}
	return leadsIn(c.Subs[i-n], at[1:])
}

func TestPathsLeadToParts(t *testing.T) {
	long := map[bool]int{}
	for _, in := range someSettings() {
		for _, a := range someTerms() {
			_, at, e := Within(in.sign, in.vars, in.binders, a)
			if long[len(at) > 1]++; !leads(a, at) || e == 0 && len(at) > 0 {
				t.Error(termText(a), at, e)
			}
		}
		someClaims(func(c api.Claim) {
			at, e := Claim(in.sign, in.vars, c)
			if long[len(at) > 1]++; !leadsIn(c, at) || e == 0 && len(at) > 0 {
				t.Error(text(c), at, e)
			}
		})
	}
	if long[true] < 5000 || long[false] < 5000 {
		t.Error(long)
	}
}

// Rules of all layers: memory, ends, limits.

// spoilPath writes over a path and behind it.
func spoilPath(at path) {
	whole := at[:cap(at)]
	for i := range whole {
		whole[i] = -1
	}
	_ = append(at, -2, -2)
}

// No two paths share memory, and no answer changes when an argument does.
func TestAnswersShareNoMemory(t *testing.T) {
	in := usual().within("A", "B")
	deep := app("f", app("f", app("g", v("x"), app("f", app("f", v("z"))))))
	c := and(truth(), forAll("u", "A", or(p("r"), eq(deep, deep))))
	for name, call := range map[string]func() path{
		"Term":   func() path { _, at, _ := Term(in.sign, in.vars, deep); return at },
		"Within": func() path { _, at, _ := Within(in.sign, in.vars, in.binders, deep); return at },
		"Claim":  func() path { at, _ := Claim(in.sign, in.vars, c); return at },
	} {
		want := path{0, 0, 1, 0, 0}
		if name == "Claim" {
			want = path{1, 0, 1, 0, 0, 0, 1, 0, 0}
		}
		one, other := call(), call()
		spoilPath(one)
		if again := call(); !slices.Equal(other, want) || !slices.Equal(again, want) {
			t.Error(name, other, again)
		}
	}
	at, _ := Claim(in.sign, in.vars, c)
	sort, _, _ := Within(in.sign, in.vars, in.binders, b(1))
	in.data().With(sample.Claims(c)).With(sample.Terms(deep)).Spoil()
	if !slices.Equal(at, path{1, 0, 1, 0, 0, 0, 1, 0, 0}) || sort != "A" {
		t.Error(at, sort)
	}
}

// Two paths that begin with one never share their ends, whatever room is behind it.
func TestPathsShareNoEnds(t *testing.T) {
	for n := range 20 {
		for room := range 5 {
			at := sample.Roomy(make(path, n), -7)[: n : n+min(room, 3)]
			one, other := below(at, 1), below(at, 2)
			if more := below(one, 3); !slices.Equal(one, to(at, 1)) || !slices.Equal(other, to(at, 2)) || !slices.Equal(more, to(at, 1, 3)) || !slices.Equal(at[:n+min(room, 3)], to(make(path, n), slices.Repeat(path{-7}, min(room, 3))...)) {
				t.Error(n, room, one, other, more)
			}
		}
	}
}

// Nothing is written behind the lists of an argument.
func TestRoomBehindLists(t *testing.T) {
	in := usual()
	in.sign.Sorts, in.vars = sample.Roomy(in.sign.Sorts, "free"), sample.Roomy(in.vars, api.Var{Name: "free"})
	in.sign.Funs = sample.Roomy(in.sign.Funs, api.Fun{Name: "free"})
	in.binders = sample.Roomy([]api.Sort{"A", "Int"}, "free")
	args := sample.Roomy([]api.Term{v("x"), b(0), v("z")}, v("free"))
	subs := sample.Roomy([]api.Claim{forAll("u", "A", forAll("u", "B", p("p", b(0)))), forAll("u", "Int", forAll("u", "A", p("p", v("x"))))}, p("free"))
	for n := range 4 {
		a := api.Term{Op: api.TApp, Name: "h", Args: args[:n]}
		followTerm(t, in, a)
		followTerm(t, in.within(in.binders[:1]...), app("f", a))
		followClaim(t, in, forAll("u", "A", forAll("u", "Int", api.Claim{Op: api.CPred, Name: "q", Terms: args[:n]})))
		followClaim(t, in, api.Claim{Op: api.CAnd, Subs: subs[:min(n, 2)]})
		checkVars(t, in.sign, in.vars[:n], api.OK)
	}
	for i, ok := range []bool{
		in.sign.Sorts[:5][4] == "free", in.vars[:8][7].Name == "free", in.vars[:8][5].Name == "free", in.sign.Funs[:11][8].Name == "free", in.sign.Funs[:11][10].Name == "free",
		in.binders[:5][2] == "free", in.binders[:5][4] == "free", args[:6][3].Name == "free", args[:6][5].Name == "free", subs[:5][2].Name == "free", subs[:5][4].Name == "free",
	} {
		if !ok {
			t.Error(i)
		}
	}
}

// A call answers by what it is given alone: neither an earlier call nor an earlier content of the same memory counts.
func TestNothingIsKept(t *testing.T) {
	in := usual().within("A")
	a, c := app("f", v("x")), forAll("u", "A", eq(b(0), app("f", v("x"))))
	for range 2 {
		rightTerm(t, in, a, "A")
		rightClaim(t, in, c)
		checkVars(t, in.sign, in.vars, api.OK)
		in.vars[0].Sort = "B"
		failTerm(t, in, a, api.ErrSort, 0)
		failClaim(t, in, c, api.ErrSort, 0, 1, 0)
		in.sign.Funs[1].Args[0] = "B"
		rightTerm(t, in, a, "A")
		in.sign.Funs[1].Res = "B"
		rightTerm(t, in, a, "B")
		failClaim(t, in, c, api.ErrSort, 0, 1)
		in.sign.Sorts[0] = "C"
		failClaim(t, in, c, api.ErrSort)
		checkVars(t, in.sign, in.vars, api.ErrSort)
		in = usual().within("A")
	}
}

// Terms and claims may be as deep and as large as right ones can be.
func TestLimits(t *testing.T) {
	in := usual()
	at := func(n int) path { return make(path, n) }
	rightTerm(t, in, chain(63, v("x")), "A")
	failTerm(t, in, chain(63, v("u")), api.ErrName, at(63)...)
	failTerm(t, in, chain(63, v("z")), api.ErrSort, at(63)...)
	failTerm(t, in, chain(64, v("u")), api.ErrDeep)
	rightClaim(t, in, nots(63, eq(chain(63, v("x")), v("x"))))
	failClaim(t, in, nots(63, eq(chain(63, v("u")), v("x"))), api.ErrName, at(63+1+63)...)
	failClaim(t, in, nots(63, eq(v("x"), chain(63, v("z")))), api.ErrSort, to(to(at(63), 1), at(63)...)...)
	failClaim(t, in, nots(64, eq(v("u"), v("x"))), api.ErrDeep)
	var sorts []api.Sort
	whole := eq(b(0), b(0))
	for n := range 63 {
		sort := []api.Sort{"A", "B", "Int"}[n%3]
		sorts = append(sorts, sort)
		whole = forAll("u", sort, whole)
	}
	slices.Reverse(sorts)
	for n := range 64 {
		body := eq(b(int64(n)), map[api.Sort]api.Term{"A": v("x"), "B": v("z"), "Int": v("i"), "": v("x")}[append([]api.Sort{""}, sorts...)[63-n]])
		c := body
		for _, s := range slices.Backward(sorts) {
			c = exists("u", s, c)
		}
		if n < 63 {
			rightClaim(t, in, c)
		} else {
			failClaim(t, in, c, api.ErrBound, at(64)...)
		}
	}
	rightClaim(t, in, whole)
	flat := setting{api.Sign{Funs: []api.Fun{{Name: "f", Args: slices.Repeat([]api.Sort{"A"}, 8), Res: "A"}}}, free("x A"), nil}
	full := func(n int) api.Term { // of 1 + 8n parts
		a := v("x")
		for range n {
			a = app("f", append(sample.Vars(7, "x"), a)...)
		}
		return a
	}
	wide := app("f", slices.Repeat([]api.Term{full(62)}, 8)...)
	if n := term.Size(wide); n != 1+8*(1+8*62) || term.Depth(wide) != 64 {
		t.Error(n, term.Depth(wide))
	}
	rightTerm(t, flat, wide, "A")
	failTerm(t, flat, sized(4096), api.ErrArity, wantTerm(flat, sized(4096)).at...)
	failTerm(t, flat, sized(4097), api.ErrLong)
}

// Lists may be far longer than right ones.
func TestLongLists(t *testing.T) {
	const n = 30000
	in := setting{sign: sg("A B"), vars: numbered(n)}
	for i := range n {
		in.sign.Sorts = append(in.sign.Sorts, "S"+strconv.Itoa(i))
		in.binders = append(in.binders, "S"+strconv.Itoa(i))
	}
	in.sign.Funs = append(many(n), fn("f", "A", "A"), api.Fun{Name: "long", Args: slices.Repeat([]api.Sort{"A"}, n), Res: "A"})
	last := in.vars[n-3].Name
	for _, i := range []int{0, 1, n / 2, n - 1} {
		rightTerm(t, in, b(int64(i)), "S"+strconv.Itoa(n-1-i))
		rightTerm(t, in, v(in.vars[i].Name), in.vars[i].Sort)
	}
	failTerm(t, in, b(n), api.ErrBound)
	failTerm(t, in, app("f", v("none")), api.ErrName, 0)
	failTerm(t, in, app("long", v(last)), api.ErrArity)
	rightTerm(t, in, chain(60, app("m"+strconv.Itoa(n-1), v(last))), "A")
	rightClaim(t, in, forAll("u", "S29999", eq(b(0), b(0))))
	failClaim(t, in, forAll("u", "S30000", eq(b(0), b(0))), api.ErrSort)
	checkVars(t, in.sign, in.vars[:256], api.OK)
	checkVars(t, in.sign, append(in.vars[:255:255], api.Var{Name: "long", Sort: "A"}), api.ErrName)
	checkVars(t, in.sign, append(in.vars[:255:255], api.Var{Name: "u", Sort: "S29999"}), api.OK)
	var terms []api.Term
	for i := range 500 {
		terms = append(terms, neg(v(in.vars[n-2-3*i].Name)))
	}
	sum := num(0)
	for _, a := range terms[:60] {
		sum = add(sum, a)
	}
	rightTerm(t, in, sum, "Int")
}

// Parts may share memory, and a term or a claim may even be a part of itself.
func TestPartsThatShareMemory(t *testing.T) {
	in := usual()
	checkBoth := func(a api.Term, c api.Claim, e api.Errno) {
		t.Helper()
		sort, at, f := Term(in.sign, in.vars, a)
		if (sort == "Int") != (e == 0) || len(at) > 0 || f != e {
			t.Error(sort, at, f, e)
		}
		if at, f := Claim(in.sign, in.vars, c); len(at) > 0 || f != e {
			t.Error(at, f, e)
		}
	}
	a, c := v("i"), truth()
	for d := 1; d < 70; d++ {
		switch {
		case d < 13: // of 2^d - 1 parts
			checkBoth(a, c, api.OK)
		case d < 65:
			checkBoth(a, c, api.ErrLong)
		default:
			checkBoth(a, c, api.ErrDeep)
		}
		a, c = add(a, a), and(c, c)
	}
	args, subs := make([]api.Term, 1), make([]api.Claim, 1)
	args[0], subs[0] = api.Term{Op: api.TNeg, Args: args}, api.Claim{Op: api.CNot, Subs: subs}
	checkBoth(args[0], subs[0], api.ErrDeep)
	if at, e := Claim(in.sign, in.vars, p("p", args[0])); len(at) > 0 || e != api.ErrLong {
		t.Error(at, e)
	}
	args[0], subs[0] = api.Term{Op: api.TAdd, Args: args}, api.Claim{Op: api.CAnd, Subs: subs}
	checkBoth(args[0], subs[0], api.ErrDeep)
}

// Whatever the lists and the parts are, the calls end and follow the chapter.
func TestScatteredFollowTheChapter(t *testing.T) {
	found := map[api.Errno]int{}
	texts := []string{"x", "y", "f", "g", "p", "c"}
	next := sample.Scattered(88172645463325252)
	wild := sample.Wild{Pick: next, Vars: texts, Funs: texts, Sorts: []api.Sort{"A", "B", "Int", "A", "B", "Int", "Bool", "C"}, Nums: []int64{0, 1, 8}, Bounds: 3}
	for range 20000 {
		in := setting{sign: sg("A B")}
		for range next(8) {
			f := api.Fun{Name: wild.Fun(), Res: wild.Sort()}
			for range next(3) {
				f.Args = append(f.Args, wild.Sort())
			}
			in.sign.Funs = append(in.sign.Funs, f)
		}
		for range next(5) {
			in.vars, in.binders = append(in.vars, api.Var{Name: wild.Var(), Sort: wild.Sort()}), append(in.binders, wild.Sort())
		}
		found[followTerm(t, in, wild.Term(2)).e]++
		found[followClaim(t, in, wild.Claim(3)).e]++
	}
	enough(t, found, 500, api.OK, api.ErrName, api.ErrBound, api.ErrArity, api.ErrSort)
}

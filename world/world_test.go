package world

import (
	"fmt"
	"math"
	"slices"
	"strings"
	"testing"

	"sequitur/api"
	"sequitur/claim"
	"sequitur/read"
	"sequitur/sample"
	"sequitur/sign"
	"sequitur/subst"
	"sequitur/term"
	"sequitur/well"
)

// Short names for what the tests are full of.
var (
	v, nr, app, b       = sample.Var, sample.Num, sample.App, sample.Bound
	add, sub, neg, mul  = sample.Add, sample.Sub, sample.Neg, sample.Mul
	always, never       = sample.True, sample.False
	p, eq, le           = sample.Pred, sample.Eq, sample.Le
	not, and, or, imp   = sample.Not, sample.And, sample.Or, sample.Imp
	iff, forAll, exists = sample.Iff, sample.All, sample.Ex
	fn, sg, free        = sample.Fun, sample.Sign, sample.Free
	chain, nots         = sample.Chain, sample.Nots
	text, termText      = sample.ClaimText, sample.TermText
)

type list = []api.Var

const (
	smallest = math.MinInt64
	largest  = math.MaxInt64
)

// rules are ways to pick the values of tables.
func rules() []func(fun, at, most int) int {
	return []func(fun, at, most int) int{
		func(int, int, int) int { return 0 },
		func(_, at, _ int) int { return at },
		func(fun, at, most int) int { return most - 1 - at - fun },
		func(fun, at, _ int) int { return at*at + 3*at + fun },
		func(fun, at, _ int) int { return (at*7+fun*5+2)*2654435761>>7 + at },
	}
}

// usual is the setting of most tests: in the functions k, m, n and n2 and in the predicates w and w2 Int occurs, the others have tables.
func usual() setting {
	s := sg("A B", fn("c", "", "A"), fn("d", "", "B"), fn("f", "A", "A"), fn("g", "A B", "B"), fn("h", "B A B", "A"),
		fn("p", "A", "Bool"), fn("q", "A B", "Bool"), fn("r", "", "Bool"),
		fn("k", "", "Int"), fn("m", "A", "Int"), fn("n", "Int", "A"), fn("n2", "A Int A", "B"), fn("w", "Int", "Bool"), fn("w2", "B Int", "Bool"))
	vars := free("x A, y A, z B, i Int, j Int, t Bool, u C, x0 A, i0 Int, x B")
	env := []Bind{{"x", 2}, {"y", 0}, {"z", 1}, {"i", -7}, {"x", 0}, {"j", 5}, {"t", 1}, {"u", 0}, {"e", 9}}
	return setting{s, worldOf(s, rules()[4], 3, 2), vars, env}
}

// say is the claim that the text says, with the signature and the variables of in.
func say(t *testing.T, in setting, said string) api.Claim {
	t.Helper()
	c, at, e := read.Claim(in.sign, in.vars, said)
	if e != 0 {
		t.Fatal(said, at, e)
	}
	return c
}

// Promise 16.1.

func TestRight(t *testing.T) {
	s := sg("A", fn("c", "", "A"), fn("f", "A", "A"), fn("q", "A A", "Bool"), fn("k", "A", "Int"))
	right := func() World {
		return World{[]int{3}, [][]int{{2}, {1, 2, 0}, {0, 1, 1, 0, 0, 1, 0, 0, 0}, nil}}
	}
	checkRight(t, s, right(), api.OK)
	for name, change := range map[string]func(w *World){
		"no sizes":                 func(w *World) { w.Sizes = nil },
		"too many sizes":           func(w *World) { w.Sizes = []int{3, 3} },
		"size 0":                   func(w *World) { w.Sizes[0] = 0 },
		"size 9":                   func(w *World) { w.Sizes[0] = 9 },
		"a smaller size":           func(w *World) { w.Sizes[0] = 2 },
		"a greater size":           func(w *World) { w.Sizes[0] = 4 },
		"no tables":                func(w *World) { w.Tables = nil },
		"too few tables":           func(w *World) { w.Tables = w.Tables[:3] },
		"too many tables":          func(w *World) { w.Tables = append(w.Tables, nil) },
		"a table too short":        func(w *World) { w.Tables[1] = []int{1, 2} },
		"a table too long":         func(w *World) { w.Tables[1] = []int{1, 2, 0, 0} },
		"no table":                 func(w *World) { w.Tables[1] = nil },
		"no table of a constant":   func(w *World) { w.Tables[0] = nil },
		"two values of a constant": func(w *World) { w.Tables[0] = []int{2, 2} },
		"a table with Int":         func(w *World) { w.Tables[3] = []int{0} },
		"a full table with Int":    func(w *World) { w.Tables[3] = []int{0, 0, 0} },
		"a negative value":         func(w *World) { w.Tables[1][2] = -1 },
		"a value too great":        func(w *World) { w.Tables[1][0] = 3 },
		"a constant too great":     func(w *World) { w.Tables[0][0] = 3 },
		"a truth value too great":  func(w *World) { w.Tables[2][8] = 2 },
		"a negative truth value":   func(w *World) { w.Tables[2][0] = -1 },
		"the least value":          func(w *World) { w.Tables[1][1] = math.MinInt },
		"the greatest value":       func(w *World) { w.Tables[1][1] = math.MaxInt },
	} {
		w := right()
		change(&w)
		if e := Right(s, w); e != api.ErrArg {
			t.Error(name, e)
		}
		followRight(t, s, w)
	}
	checkRight(t, api.Sign{}, World{}, api.OK)
	checkRight(t, api.Sign{}, World{[]int{}, [][]int{}}, api.OK)
	checkRight(t, api.Sign{}, World{[]int{1}, nil}, api.ErrArg)
	checkRight(t, api.Sign{}, World{nil, [][]int{nil}}, api.ErrArg)
	w := right()
	w.Tables[3] = []int{}
	checkRight(t, s, w, api.OK)
}

func TestSizes(t *testing.T) {
	for _, sizes := range [][]int{nil, {1}, {1, 2}, {8, 1, 8}, {1, 2, 3, 4}} {
		s := api.Sign{Sorts: []api.Sort{"A", "B", "C", "D"}[:len(sizes)]}
		for n := range 6 {
			e := api.ErrArg
			if n == len(sizes) {
				e = api.OK
			}
			checkRight(t, s, World{Sizes: slices.Concat(sizes, []int{1, 1, 1, 1, 1})[:n]}, e)
		}
		for i := range sizes {
			for _, n := range []int{math.MinInt, -8, -1, 0, 1, 2, 7, 8, 9, 10, 1 << 32, 1<<32 + 1, math.MaxInt} {
				e := api.ErrArg
				if n >= 1 && n <= 8 {
					e = api.OK
				}
				changed := slices.Clone(sizes)
				changed[i] = n
				checkRight(t, s, World{Sizes: changed}, e)
				if e != followMake(t, s, changed, rules()[1]) {
					t.Error(changed, e)
				}
			}
		}
	}
	var names []api.Sort
	for i := range 65 {
		names = append(names, fmt.Sprint("S", i))
	}
	sizes := slices.Repeat([]int{8}, 65)
	checkRight(t, api.Sign{Sorts: names[:64]}, World{Sizes: sizes[:64]}, api.OK)
	checkRight(t, api.Sign{Sorts: names[:64]}, World{Sizes: sizes}, api.ErrArg)
	checkRight(t, api.Sign{Sorts: names}, World{Sizes: sizes}, api.ErrLong)
}

// The functions have different sorts, sizes and numbers of Args; their tables are one too short, right and one too long, with values at both ends and beyond.
func TestTables(t *testing.T) {
	for _, f := range []api.Fun{
		fn("f", "", "A"), fn("f", "", "B"), fn("f", "", "Bool"), fn("f", "A", "B"), fn("f", "B", "A"), fn("f", "A B", "Bool"), fn("f", "B A B", "C"), fn("f", "C", "C"), fn("f", "C C C C C C C C", "A"), fn("f", "A A A A A A A A", "Bool"),
		fn("f", "", "Int"), fn("f", "Int", "Bool"), fn("f", "A", "Int"), fn("f", "Int A", "B"), fn("f", "A B Int", "Bool"), fn("f", "A B Int", "Int"),
	} {
		s := sg("A B C", f)
		sizes := []int{2, 3, 1}
		n, values := wantLength(s, sizes, f), wantSize(s, sizes, f.Res)
		if wantInt(f) {
			n, values = 0, 5
		}
		for _, more := range []int{-1, 0, 1} {
			for _, val := range []int{0, 1, values - 1, values, -1} {
				for _, at := range []int{0, n / 2, n - 1} {
					table := make([]int, max(n+more, 0))
					if at >= 0 && at < len(table) {
						table[at] = val
					}
					e := api.OK
					if len(table) != n || n > 0 && (table[at] < 0 || table[at] >= values) {
						e = api.ErrArg
					}
					checkRight(t, s, World{sizes, [][]int{table}}, e)
					if followRight(t, s, World{sizes, [][]int{table}}) != e {
						t.Error(sample.FunText(f), table, e)
					}
				}
			}
		}
	}
}

func TestLargeTables(t *testing.T) {
	most := func(f api.Fun, e api.Errno, sizes ...int) {
		t.Helper()
		s := sg("A B C", f)
		n := min(wantLength(s, sizes, f), 5000)
		if wantInt(f) {
			n = 0
		}
		checkRight(t, s, World{sizes, [][]int{make([]int, n)}}, e)
		if e == api.OK {
			checkRight(t, s, World{sizes, [][]int{make([]int, n+1)}}, api.ErrArg)
		} else {
			checkRight(t, s, World{sizes, [][]int{nil}}, e)
			checkRight(t, s, World{sizes, [][]int{{-1}}}, e)
		}
		if followMake(t, s, sizes, rules()[3]) != e {
			t.Error(sample.FunText(f), sizes)
		}
	}
	for _, res := range []string{"A", "B", "C", "Bool"} {
		most(fn("f", "A A A A", res), api.OK, 8, 1, 2)
		most(fn("f", "A A A A C", res), api.ErrLong, 8, 1, 2)
		most(fn("f", "A A A A B B B B", res), api.OK, 8, 1, 2)
		most(fn("f", "B B B A A A A C", res), api.ErrLong, 8, 1, 2)
		most(fn("f", "A A A A A A A A", res), api.ErrLong, 8, 8, 8)
		most(fn("f", "A A A A A A A A", res), api.OK, 2, 8, 8)
		most(fn("f", "A A A A A A A A", res), api.ErrLong, 3, 1, 1) // 6561
		most(fn("f", "A B C C B", res), api.ErrLong, 7, 4, 8)       // 7168
		most(fn("f", "A B C C", res), api.OK, 7, 7, 8)              // 3136
		most(fn("f", "A A A A A", res), api.OK, 5, 8, 8)            // 3125
		most(fn("f", "A A A B C C C", res), api.ErrLong, 2, 3, 6)   // 5184
		most(fn("f", "A A A B C C C", res), api.OK, 4, 1, 4)        // 4096
		most(fn("f", "A A A B B C C", res), api.ErrLong, 4, 8, 1+1) // 16384
		most(fn("f", "A B B C", res), api.OK, 5, 4, 8)              // 640
		most(fn("f", "A A B B C C", res), api.ErrLong, 5, 4, 4)     // 6400
	}
	most(fn("f", "A A A B C", "A"), api.ErrLong, 7, 4, 3) // 4116, the least one beyond
	most(fn("f", "A B B B B C C", "A"), api.OK, 2, 3, 5)  // 4050
	most(fn("f", "A A A A A A A A", "Int"), api.OK, 8, 8, 8)
	most(fn("f", "A A A A A A A Int", "Bool"), api.OK, 8, 8, 8)
	most(fn("f", "Int A A A A A A A", "A"), api.OK, 8, 8, 8)
}

// severalFaults are functions whose table has the error, or none; A has the size 8.
func severalFaults() map[api.Errno][]struct {
	f     api.Fun
	table []int
} {
	type one = struct {
		f     api.Fun
		table []int
	}
	return map[api.Errno][]one{
		api.OK:      {{fn("", "", "A"), []int{7}}, {fn("", "A", "Bool"), make([]int, 8)}, {fn("", "A A A A A", "Int"), nil}, {fn("", "Int", "A"), nil}},
		api.ErrArg:  {{fn("", "", "A"), []int{8}}, {fn("", "", "A"), nil}, {fn("", "A", "Bool"), slices.Repeat([]int{2}, 8)}, {fn("", "", "Int"), []int{0}}},
		api.ErrLong: {{fn("", "A A A A A", "A"), nil}, {fn("", "A A A A A", "A"), []int{9}}, {fn("", "A A A A A A A A", "Bool"), make([]int, 4097)}},
	}
}

// The first function with an error counts, and the lists as wholes come ahead of all functions.
func TestFirstErrorOfTables(t *testing.T) {
	for e1, l1 := range severalFaults() {
		for _, one := range l1 {
			for e2, l2 := range severalFaults() {
				for _, other := range l2 {
					s := api.Sign{Sorts: []api.Sort{"A"}}
					for i, f := range []api.Fun{one.f, other.f, other.f} {
						f.Name = "f" + fmt.Sprint(i)
						s.Funs = append(s.Funs, f)
					}
					w := World{[]int{8}, [][]int{one.table, other.table, other.table}}
					e := e1
					if e == api.OK {
						e = e2
					}
					checkRight(t, s, w, e)
					checkRight(t, s, World{w.Sizes, w.Tables[:2]}, api.ErrArg)
					checkRight(t, s, World{[]int{9}, w.Tables}, api.ErrArg)
					checkRight(t, s, World{nil, w.Tables}, api.ErrArg)
					checkRight(t, api.Sign{Sorts: []api.Sort{"A", "A"}, Funs: s.Funs}, w, api.ErrSame)
					checkRight(t, api.Sign{Sorts: s.Sorts, Funs: append(slices.Clone(s.Funs), s.Funs[0])}, w, api.ErrSame)
					made := api.OK
					if e1 == api.ErrLong || e2 == api.ErrLong {
						made = api.ErrLong
					}
					if followMake(t, s, w.Sizes, rules()[2]) != made {
						t.Error(e1, e2)
					}
					if followMake(t, s, []int{0}, rules()[2]) != api.ErrArg {
						t.Error(e1, e2)
					}
				}
			}
		}
	}
	if e := Right(sg("A", fn("f", "A A A A A", "A")), World{Sizes: []int{8}}); e != api.ErrArg {
		t.Error("number of tables", e)
	}
}

// wrongSigns has a signature with each error, with one sort and one function at least.
func wrongSigns() map[api.Errno][]api.Sign {
	var many, few []api.Fun
	for i := range 257 {
		many = append(many, fn("f"+fmt.Sprint(i), "", "A"))
	}
	few = many[:1]
	return map[api.Errno][]api.Sign{
		api.ErrName:  {{Sorts: []api.Sort{""}, Funs: few}, {Sorts: []api.Sort{"Int"}, Funs: few}, {Sorts: []api.Sort{"Bool"}, Funs: few}, sg("A", fn("", "", "A")), sg("A", fn("true", "", "A"))},
		api.ErrSame:  {sg("A A", few...), sg("A", many[0], many[0])},
		api.ErrLong:  {{Sorts: slices.Repeat([]api.Sort{"A"}, 65), Funs: few}, sg("A", many...)},
		api.ErrArity: {sg("A", fn("f", "A A A A A A A A A", "A"))},
		api.ErrSort:  {sg("A", fn("f", "B", "A")), sg("A", fn("f", "Bool", "A")), sg("A", fn("f", "", "B")), {Funs: few}},
	}
}

// An error of the signature comes ahead of all others, in every call.
func TestWrongSigns(t *testing.T) {
	for e, l := range wrongSigns() {
		for _, s := range l {
			if got := sign.Right(s); got != e {
				t.Error(sample.SignText(s), got)
			}
			right := World{slices.Repeat([]int{8}, len(s.Sorts)), slices.Repeat([][]int{{0}}, len(s.Funs))}
			for _, w := range []World{{}, right, {right.Sizes, nil}, {nil, right.Tables}, {[]int{0}, right.Tables}, {right.Sizes, [][]int{{-1}}}} {
				checkRight(t, s, w, e)
				if followMake(t, s, w.Sizes, rules()[1]) != e {
					t.Error(sample.SignText(s), w.Sizes)
				}
				checkEverywhere(t, setting{s, w, free("x A, y Int"), nil}, e)
			}
		}
	}
}

// checkEverywhere holds all calls that evaluate something, right or wrong, to be that error.
func checkEverywhere(t *testing.T, in setting, e api.Errno) {
	t.Helper()
	for _, x := range []api.Term{nr(1), v("x"), v("none"), {}, chain(100, v("x")), b(0), app("f", b(3)), app("c")} {
		checkTerm(t, in, x, 0, e)
		for _, c := range []api.Claim{always(), eq(x, x), {}, p("none", x), nots(100, always()), forAll("u", "none", eq(b(0), x))} {
			checkClaim(t, in, c, false, e)
			q := api.Seq{Vars: in.vars, Hyps: []api.Hyp{{Name: "h", Claim: c}, {Claim: never()}}, Goal: always()}
			checkSeq(t, in, q, false, e)
			checkAll(t, in, q, false, e)
			q = api.Seq{Goal: c}
			checkSeq(t, in, q, false, e)
			checkAll(t, in, q, false, e)
		}
	}
}

// Errors of a world come ahead of those of terms, claims and variables.
func TestWrongWorlds(t *testing.T) {
	in := usual()
	for e, change := range map[api.Errno]func(w *World){
		api.ErrArg:  func(w *World) { w.Tables[0] = []int{3} },
		api.ErrLong: func(w *World) { w.Sizes[0], w.Sizes[1], w.Tables[0], w.Tables[1] = 8, 8, []int{0}, []int{0} },
	} {
		wrong := in
		wrong.world = twinWorld(in.world)
		if change(&wrong.world); e == api.ErrLong {
			wrong.sign.Funs = slices.Clone(in.sign.Funs)
			wrong.sign.Funs[2] = fn("f", "A A A A A", "A")
		}
		checkRight(t, wrong.sign, wrong.world, e)
		checkEverywhere(t, wrong, e)
	}
}

func TestRightFollowsTheChapter(t *testing.T) {
	found := map[api.Errno]int{}
	tables := [][]int{nil, {}, {0}, {1}, {2}, {-1}, {0, 1}, {1, 0}, {0, 2}, {2, 0, 1}, {1, 1, 0, 0}, {0, 1, 2, 1}, {0, 0, 0, 0, 0, 1}, {5, 0, 1, 1, 0, 0}}
	funs := []api.Fun{fn("f", "", "A"), fn("g", "A", "A"), fn("h", "A B", "Bool"), fn("k", "B", "Int"), fn("r", "", "Bool"), fn("w", "Int A", "B"), fn("big", "B B B B B B B B", "A"), fn("f", "B", "B")}
	for _, l := range []string{"A B", "A", "B A"} {
		for _, sizes := range [][]int{{2, 2}, {3, 2}, {2}, {1, 3}, {4, 1}, {0, 2}, {2, 9}, {6, 8}} {
			for i, f := range funs {
				for _, g := range funs[i:] {
					for _, one := range tables {
						for _, other := range tables {
							found[followRight(t, sg(l, f, g), World{sizes, [][]int{one, other}})]++
						}
					}
					for _, pick := range rules() {
						found[followMake(t, sg(l, f, g), sizes, pick)]++
					}
				}
			}
		}
	}
	often(t, found, 200, api.OK, api.ErrArg, api.ErrLong, api.ErrSame, api.ErrSort)
}

func TestMake(t *testing.T) {
	s := sg("A", fn("c", "", "A"), fn("f", "A", "A"), fn("q", "A A", "Bool"), fn("k", "A", "Int"), fn("r", "", "Bool"))
	w, e := Make(s, []int{3}, func(fun, at, most int) int { return fun*10 - at })
	if want := (World{[]int{3}, [][]int{{0}, {1, 0, 2}, {0, 1, 0, 1, 0, 1, 0, 1, 0}, nil, {0}}}); e != api.OK || !equalWorlds(w, want) {
		t.Error(w, e)
	}
	w, e = Make(s, []int{3}, nil)
	if want := (World{[]int{3}, [][]int{{0}, {0, 0, 0}, make([]int, 9), nil, {0}}}); e != api.OK || !equalWorlds(w, want) {
		t.Error(w, e)
	}
	w, e = Make(api.Sign{}, nil, nil)
	if e != api.OK || len(w.Sizes) != 0 || len(w.Tables) != 0 {
		t.Error(w, e)
	}
	for _, sizes := range [][]int{nil, {3, 3}, {0}, {-1}, {9}} {
		if w, e := Make(s, sizes, nil); e != api.ErrArg || w.Sizes != nil || w.Tables != nil {
			t.Error(sizes, w, e)
		}
	}
	for _, f := range []api.Fun{fn("f", "A A A A A", "A"), fn("f", "A A A A A A A A", "Bool")} {
		if w, e := Make(sg("A", fn("c", "", "A"), f), []int{8}, nil); e != api.ErrLong || w.Sizes != nil || w.Tables != nil {
			t.Error(w, e)
		}
	}
}

// Whatever number pick returns, the table has its remainder.
func TestPickedNumbers(t *testing.T) {
	s := sg("A B C D E F G H", fn("a", "", "A"), fn("b", "", "B"), fn("c", "", "C"), fn("d", "", "D"), fn("e", "", "E"), fn("f", "", "F"), fn("g", "", "G"), fn("h", "", "H"), fn("t", "", "Bool"))
	sizes := []int{1, 2, 3, 4, 5, 6, 7, 8}
	for _, n := range []int{0, 1, 2, 7, 8, 9, 100, -1, -2, -3, -7, -8, -9, -100, math.MaxInt, math.MaxInt - 1, math.MinInt, math.MinInt + 1, math.MinInt + 5, 1 << 32, -1 << 32, 840, -840, 841, -841} {
		for k := range 3 {
			if e := followMake(t, s, sizes, func(fun, _, _ int) int { return n + k*fun }); e != api.OK {
				t.Error(n, e)
			}
		}
		w, _ := Make(s, sizes, func(int, int, int) int { return n })
		for i, size := range append(sizes, 2) {
			if got := w.Tables[i][0]; got != (n%size+size)%size {
				t.Error(n, size, got)
			}
		}
	}
}

// All functions are asked for, one by one, at all positions, with the number of values of the result.
func TestCallsOfPick(t *testing.T) {
	in := usual()
	var calls []call
	if _, e := Make(in.sign, []int{1, 3}, func(fun, at, most int) int { calls = append(calls, call{fun, at, most}); return at }); e != api.OK {
		t.Error(e)
	}
	var want []call
	for _, one := range []struct{ fun, n, most int }{{0, 1, 1}, {1, 1, 3}, {2, 1, 1}, {3, 3, 3}, {4, 9, 1}, {5, 1, 2}, {6, 3, 2}, {7, 1, 2}} {
		for at := range one.n {
			want = append(want, call{one.fun, at, one.most})
		}
	}
	if !slices.Equal(calls, want) {
		t.Error(calls)
	}
	for _, pick := range rules() {
		for _, sizes := range [][]int{{1, 1}, {1, 2}, {2, 1}, {3, 2}, {4, 5}, {8, 8}} {
			followMake(t, in.sign, sizes, pick)
		}
	}
	// A function that is passed in behaves as it does.
	panics := func() (said any) {
		defer func() { said = recover() }()
		Make(in.sign, []int{1, 1}, func(int, int, int) int { panic("picked") })
		return nil
	}
	if said := panics(); said != "picked" {
		t.Error(said)
	}
}

// What pick changes does not count.
func TestPickThatChangesArguments(t *testing.T) {
	s, sizes := sg("A B", fn("f", "A", "B"), fn("g", "B B", "A"), fn("c", "", "B")), []int{2, 3}
	w, e := Make(s, sizes, func(fun, at, most int) int {
		sizes[0], sizes[1] = 9, -1
		sample.SpoilSign(s)
		return at
	})
	if want := (World{[]int{2, 3}, [][]int{{0, 1}, {0, 1, 0, 1, 0, 1, 0, 1, 0}, {0}}}); e != api.OK || !equalWorlds(w, want) {
		t.Error(w, e)
	}
}

// A world that was made shares no memory with another one or with an argument.
func TestMadeWorldsShareNoMemory(t *testing.T) {
	in := usual()
	sizes := []int{3, 2}
	one, _ := Make(in.sign, sizes, rules()[4])
	other, _ := Make(in.sign, sizes, rules()[4])
	sizes[0] = 7
	for i := range one.Tables {
		whole := one.Tables[i][:cap(one.Tables[i])]
		for k := range whole {
			whole[k] = -5
		}
		one.Tables[i] = append(one.Tables[i], -6)
	}
	if one.Sizes[0] != 3 || !equalWorlds(other, in.world) {
		t.Error(one, other)
	}
	one.Sizes[0], one.Sizes[1] = 4, 4
	if again, _ := Make(in.sign, []int{3, 2}, rules()[4]); !equalWorlds(again, in.world) || !equalWorlds(other, in.world) {
		t.Error(again, other)
	}
}

// Promise 16.2: terms.

func TestTerm(t *testing.T) {
	in := usual()
	in.world.Tables[0], in.world.Tables[1], in.world.Tables[2], in.world.Tables[3] = []int{1}, []int{0}, []int{1, 2, 0}, []int{0, 0, 0, 1, 1, 1}
	f := func(x api.Term) api.Term { return app("f", x) }
	for _, one := range []struct {
		x    api.Term
		want int64
	}{
		{v("x"), 2}, {v("y"), 0}, {v("z"), 1}, {v("i"), -7}, {v("t"), 1}, {nr(0), 0}, {nr(-3), -3}, {nr(smallest), smallest}, {app("c"), 1}, {app("d"), 0},
		{f(app("c")), 2}, {f(v("x")), 0}, {f(f(v("x"))), 1}, {f(f(f(v("x")))), 2},
		{app("g", v("y"), v("z")), 0}, {app("g", app("c"), v("z")), 1}, {app("g", app("c"), app("d")), 0}, {app("g", v("x"), app("d")), 1},
		{add(nr(2), v("i")), -5}, {sub(nr(2), v("i")), 9}, {neg(v("i")), 7}, {mul(-3, v("i")), 21}, {mul(0, v("i")), 0}, {add(mul(2, sub(v("i"), v("j"))), neg(nr(-1))), -23},
	} {
		checkTerm(t, in, one.x, one.want, api.OK)
	}
	for _, one := range []struct {
		x api.Term
		e api.Errno
	}{
		{v("x0"), api.ErrNone}, {v("u"), api.ErrNone}, {v("i0"), api.ErrNone}, {v("none"), api.ErrName}, {v("e"), api.ErrName}, {b(0), api.ErrBound}, {api.Term{}, api.ErrForm}, {app("f"), api.ErrArity}, {f(v("z")), api.ErrSort}, {app("p", v("x")), api.ErrName},
		{app("k"), api.ErrArg}, {app("m", v("x")), api.ErrArg}, {app("n", v("i")), api.ErrArg}, {app("n2", v("x"), nr(1), v("x")), api.ErrArg}, {f(app("n", nr(0))), api.ErrArg},
		{add(nr(largest), nr(1)), api.ErrRange}, {neg(nr(smallest)), api.ErrRange}, {mul(2, nr(1<<62)), api.ErrRange}, {sub(nr(smallest), nr(1)), api.ErrRange},
	} {
		checkTerm(t, in, one.x, 0, one.e)
	}
}

// In each table one value alone differs from the others: the one for some Args, of which the last varies fastest.
func TestPlacesInTables(t *testing.T) {
	for _, args := range []string{"", "A", "C", "A B", "B A", "A B C", "C B A", "B B B", "D A D C", "A D D D D B", "A A A A A A A A"} {
		for _, res := range []string{"C", "Bool"} {
			f := fn("f", args, res)
			s := sg("A B C D", f)
			sizes := []int{2, 3, 4, 1}
			var vars list
			var terms []api.Term
			for i, sort := range f.Args {
				name := "v" + fmt.Sprint(i)
				vars, terms = append(vars, api.Var{Name: name, Sort: sort}), append(terms, v(name))
			}
			env := make([]Bind, len(vars))
			for at := range wantLength(s, sizes, f) {
				w := worldOf(s, func(_, k, most int) int { return map[bool]int{k == at: most - 1}[true] }, sizes...)
				found := 0
				for combination := range wantLength(s, sizes, f) {
					rest := combination
					for i := len(vars) - 1; i >= 0; i-- {
						n := wantSize(s, sizes, vars[i].Sort)
						env[i] = Bind{vars[i].Name, int64(rest % n)}
						rest /= n
					}
					in := setting{s, w, vars, env}
					val, e := int64(0), api.OK
					if res == "C" {
						val, e = Term(s, w, vars, env, app("f", terms...))
					} else if holds, err := Claim(s, w, vars, env, p("f", terms...)); holds || err != 0 {
						val, e = 1, err
					}
					if found += int(val); e != 0 || (val > 0) != (combination == at) {
						t.Fatal(args, at, combination, val, e)
					}
					if at%7 == 0 && combination%5 == 0 {
						followTerm(t, in, app("f", terms...))
						followClaim(t, in, p("f", terms...))
					}
				}
				if found != wantSize(s, sizes, res)-1 {
					t.Error(args, at, found)
				}
			}
		}
	}
}

func TestValuesOfVariables(t *testing.T) {
	in := usual()
	for sort, size := range map[api.Sort]int64{"A": 3, "B": 2, "Bool": 2, "C": 0, "": 0, "int": 0, "a": 0, "true": 0} {
		for _, n := range []int64{smallest, -1 << 32, -2, -1, 0, 1, 2, 3, 4, 7, 8, 1 << 32, 1<<32 + 1, largest} {
			one := in.of(list{{Name: "x", Sort: sort}})
			for _, env := range [][]Bind{{{"x", n}}, {{"y", 0}, {"x", n}}, {{"x", n}, {"x", 0}}, {{"x", n}, {"x", -1}}, {{"X", 1}, {"x'", 1}, {"", 1}, {"x", n}}} {
				if n >= 0 && n < size {
					checkTerm(t, one.with(env...), v("x"), n, api.OK)
				} else {
					checkTerm(t, one.with(env...), v("x"), 0, api.ErrNone)
				}
				checkTerm(t, in.of(list{{Name: "x", Sort: "Int"}, {Name: "x", Sort: sort}}).with(env...), v("x"), n, api.OK)
				checkTerm(t, in.of(list{{Name: "i", Sort: "Int"}, {Name: "x", Sort: sort}}).with(env...), add(nr(1), nr(1)), 2, api.OK)
				followTerm(t, in.of(list{{Name: "x", Sort: sort}, {Name: "x", Sort: "Int"}}).with(env...), v("x"))
			}
			for _, env := range [][]Bind{nil, {}, {{"y", n}}, {{"X", n}}, {{"", n}}, {{"x ", n}, {"xx", n}}} {
				checkTerm(t, one.with(env...), v("x"), 0, api.ErrNone)
			}
		}
	}
	// Any text may be the name of a variable.
	for _, name := range []string{"", " ", "f", "true", "\xff", "A", strings.Repeat("x", 70000)} {
		checkTerm(t, in.of(list{{Name: name, Sort: "A"}}).with(Bind{name + "x", 0}, Bind{name, 1}, Bind{name, 0}), v(name), 1, api.OK)
	}
	// What a variable has for a value does not count where it does not occur.
	checkTerm(t, in.with(Bind{"x", 1}, Bind{"y", 99}, Bind{"u", 1}), app("f", v("x")), int64(in.world.Tables[2][1]), api.OK)
	// Nor does it count where it occurs with a bad value in a part behind an error.
	checkTerm(t, in.with(Bind{"x", 1}, Bind{"y", 99}), app("h", app("n2", v("x"), nr(0), v("x")), v("y"), v("z")), 0, api.ErrArg)
	checkTerm(t, in.with(Bind{"x", 1}, Bind{"y", 99}), app("g", v("y"), app("n2", v("x"), nr(0), v("x"))), 0, api.ErrNone)
}

// Sums, differences, negations and products are exact or an error.
func TestNumbers(t *testing.T) {
	in := usual()
	critical := []int64{smallest, smallest + 1, smallest + 2, smallest / 2, smallest/2 - 1, -1<<32 - 1, -1 << 32, -1 << 31, -3037000500, -3037000499, -100, -2, -1, 0, 1, 2, 3, 100, 1 << 31, 3037000499, 3037000500, 1 << 32, 1<<32 + 1, largest / 2, largest/2 + 1, largest - 2, largest - 1, largest}
	found := map[api.Errno]int{}
	for _, n := range critical {
		in = in.with(Bind{"i", n})
		checkTerm(t, in, v("i"), n, api.OK)
		checkTerm(t, in, nr(n), n, api.OK)
		for _, x := range []api.Term{neg(nr(n)), neg(v("i")), neg(neg(v("i")))} {
			_, e := followTerm(t, in, x)
			found[e]++
		}
		for _, m := range critical {
			for _, x := range []api.Term{add(v("i"), nr(m)), sub(v("i"), nr(m)), sub(nr(m), v("i")), mul(m, v("i")), sub(add(v("i"), nr(m)), nr(m)), add(mul(m, v("i")), nr(1))} {
				_, e := followTerm(t, in, x)
				found[e]++
				followClaim(t, in, le(x, nr(m)))
				followClaim(t, in, eq(nr(n), x))
			}
		}
	}
	often(t, found, 500, api.OK, api.ErrRange)
	for _, one := range []struct {
		x    api.Term
		want int64
		e    api.Errno
	}{
		{add(nr(largest-1), nr(1)), largest, api.OK}, {add(nr(largest), nr(1)), 0, api.ErrRange}, {add(nr(smallest+1), nr(-1)), smallest, api.OK}, {add(nr(smallest), nr(-1)), 0, api.ErrRange}, {add(nr(smallest), nr(largest)), -1, api.OK},
		{sub(nr(-1), nr(largest)), smallest, api.OK}, {sub(nr(-2), nr(largest)), 0, api.ErrRange}, {sub(nr(-1), nr(smallest)), largest, api.OK}, {sub(nr(0), nr(smallest)), 0, api.ErrRange},
		{neg(nr(largest)), -largest, api.OK}, {neg(nr(smallest + 1)), largest, api.OK}, {neg(nr(smallest)), 0, api.ErrRange},
		{mul(-1, nr(largest)), -largest, api.OK}, {mul(-1, nr(smallest)), 0, api.ErrRange}, {mul(smallest, nr(-1)), 0, api.ErrRange}, {mul(1, nr(smallest)), smallest, api.OK}, {mul(smallest, nr(1)), smallest, api.OK}, {mul(smallest, nr(0)), 0, api.OK},
		{mul(2, nr(smallest/2)), smallest, api.OK}, {mul(2, nr(smallest/2-1)), 0, api.ErrRange}, {mul(2, nr(largest/2)), largest - 1, api.OK}, {mul(2, nr(largest/2+1)), 0, api.ErrRange}, {mul(-2, nr(1<<62)), smallest, api.OK}, {mul(-2, nr(1<<62+1)), 0, api.ErrRange},
		{sub(add(nr(largest), nr(1)), nr(1)), 0, api.ErrRange},
	} {
		checkTerm(t, in, one.x, one.want, one.e)
	}
}

// fault is terms of the sorts A, B and Int with the same error.
type fault struct {
	e    api.Errno
	a, b api.Term
	n    api.Term
}

// faults are terms with each error that a term may have.
func faults() []fault {
	over := add(nr(largest), nr(1))
	return []fault{
		{api.ErrNone, v("x0"), app("g", v("x0"), v("z")), neg(v("i0"))},
		{api.ErrArg, app("n", nr(0)), app("n2", v("x"), v("i"), v("y")), app("k")},
		{api.ErrArg, app("f", app("n", v("i"))), app("g", app("n", v("i")), v("z")), app("m", v("x"))},
		{api.ErrRange, app("n", over), app("n2", v("x"), over, v("x")), over},
		{api.ErrRange, app("h", app("n2", v("x"), over, v("x0")), app("n", nr(0)), v("z")), app("n2", v("x"), over, v("x0")), mul(2, neg(nr(smallest)))},
	}
}

// The Args come ahead of the part itself, from left to right.
func TestFirstErrorOfTerms(t *testing.T) {
	in := usual()
	for _, one := range faults() {
		for _, x := range []api.Term{
			one.a, app("f", one.a), app("m", one.a), app("f", app("f", one.a)), app("n2", one.a, nr(0), v("x")), app("n2", v("x"), nr(0), one.a),
			one.b, app("g", v("x"), one.b), app("h", v("z"), v("x"), one.b), app("h", one.b, v("x"), v("z")),
			one.n, app("n", one.n), app("n2", v("x"), one.n, v("x")), neg(one.n), mul(0, one.n), mul(2, neg(one.n)), add(one.n, nr(1)), add(nr(1), one.n), sub(one.n, one.n), sub(nr(largest), one.n),
		} {
			checkTerm(t, in, x, 0, one.e)
			followTerm(t, in, x)
		}
		for _, other := range faults() {
			for _, x := range []api.Term{
				add(one.n, other.n), sub(one.n, other.n), app("g", one.a, other.b), app("h", one.b, other.a, v("z")), app("h", v("z"), one.a, other.b), app("h", one.b, v("x"), other.b), app("h", one.b, other.a, other.b),
				app("n2", one.a, other.n, other.a), app("n2", v("x"), one.n, other.a), add(add(nr(1), one.n), add(nr(largest), other.n)), add(neg(one.n), mul(3, other.n)), mul(3, sub(one.n, other.n)), app("n", add(one.n, other.n)),
			} {
				checkTerm(t, in, x, 0, one.e)
				followTerm(t, in, x)
			}
		}
	}
	// An error of the sorts comes ahead of all of them.
	for _, one := range faults() {
		checkTerm(t, in, add(one.n, v("x")), 0, api.ErrSort)
		checkTerm(t, in, app("g", one.a, b(0)), 0, api.ErrBound)
		checkTerm(t, in, app("g", one.a, v("none")), 0, api.ErrName)
		checkTerm(t, in, app("g", one.a, one.b, one.b), 0, api.ErrArity)
		checkTerm(t, in, app("g", one.a, api.Term{}), 0, api.ErrForm)
		checkTerm(t, in, app("g", chain(64, one.a), one.b), 0, api.ErrDeep)
	}
}

// shallow are terms of up to three parts, right and wrong ones, well sorted or not.
func shallow(simple []api.Term) []api.Term {
	l := slices.Clone(simple)
	for _, x := range simple {
		l = append(l, neg(x), mul(3, x), mul(-1, x))
		for _, f := range []string{"f", "m", "n", "p", "g"} {
			l = append(l, app(f, x))
		}
		for _, y := range simple {
			l = append(l, add(x, y), sub(x, y), app("g", x, y), app("h", y, x, y), app("n2", x, nr(0), y))
		}
	}
	return l
}

// someTerms are terms of up to seven parts.
func someTerms() []api.Term {
	simple := []api.Term{v("x"), v("y"), v("z"), v("i"), v("t"), v("u"), v("x0"), v("i0"), app("c"), app("d"), app("k"), nr(1), nr(largest), nr(smallest), b(0), v("none"), {}}
	l := shallow(simple)
	few := shallow([]api.Term{v("x"), v("z"), v("i"), nr(largest), app("c")})
	for i, x := range few {
		l = append(l, app("f", x), neg(x), app("n", x), app("g", x, v("z")), app("m", x))
		for k := i % 7; k < len(few); k += 7 {
			l = append(l, add(x, few[k]), app("g", few[k], x), app("h", x, few[k], x))
		}
	}
	return l
}

// someSettings are settings with several worlds, variables and bindings.
func someSettings() []setting {
	in := usual()
	l := []setting{in}
	for i, sizes := range [][]int{{1, 1}, {1, 2}, {2, 3}, {3, 2}, {4, 1}} {
		one := in
		one.world = worldOf(in.sign, rules()[i], sizes...)
		l = append(l, one)
	}
	one := l[3].with(Bind{"i", largest}, Bind{"x", 1}, Bind{"y", 1}, Bind{"z", 2}, Bind{"i0", smallest}, Bind{"x0", 0})
	l = append(l, one, one.of(free("x A, i Int, z B, y C, i0 Int")), one.of(free("z A, x B, y A, t Int, i Bool")), in.of(nil), in.with())
	wrong := in
	wrong.world.Tables = slices.Clone(in.world.Tables)
	wrong.world.Tables[8] = []int{0}
	return append(l, wrong, setting{})
}

func TestTermsFollowTheChapter(t *testing.T) {
	found := map[api.Errno]int{}
	for _, in := range someSettings() {
		for _, x := range someTerms() {
			_, e := followTerm(t, in, x)
			found[e]++
		}
	}
	often(t, found, 150, api.OK, api.ErrNone, api.ErrArg, api.ErrRange, api.ErrName, api.ErrSort, api.ErrArity, api.ErrForm, api.ErrBound)
}

// Promise 16.2: claims.

// checkSaid holds Claim of what the text says to be want.
func checkSaid(t *testing.T, in setting, said string, want bool) {
	t.Helper()
	checkClaim(t, in, say(t, in, said), want, api.OK)
}

func TestClaim(t *testing.T) {
	in := usual()
	for i, table := range map[int][]int{0: {1}, 1: {0}, 2: {1, 2, 0}, 5: {0, 1, 1}, 6: {0, 1, 0, 0, 1, 1}, 7: {1}} {
		in.world.Tables[i] = table
	}
	for _, one := range []string{
		"true", "r", "p(x)", "p(c)", "q(y, z)", "x = x", "x = f(c)", "f(x) = y", "i = -7", "i + j = -2", "i <= j", "i <= i", "i < j", "3 <= 4", "t = t", "2 * j <= 10", "~p(y)", "~false", "~(x = y)", "~(j <= i)",
		"p(x) & p(c)", "p(y) | p(c)", "p(c) | p(y)", "p(x) | p(c)", "p(y) -> p(c)", "p(y) -> p(y)", "p(c) -> p(x)", "p(x) <-> p(c)", "p(y) <-> q(y, d) & false",
		"?v: A. p(v)", "?v: A. ~p(v)", "!v: A. p(v) | v = y", "!v: A. ?w: A. f(v) = w", "!v: A. ?w: A. v = f(w)", "?v: A. !w: B. q(v, w)", "!v: A. ~(f(v) = v)", "!v: A. f(f(f(v))) = v", "!v: A. !w: A. f(v) = f(w) -> v = w",
		"!v: A. v = c | v = x | v = y", "?v: B. ~(v = z)", "!v: B. v = z | (!w: B. w = v | w = z)", "?x: A. ~(x = c) & p(x)",
	} {
		checkSaid(t, in, one, true)
		checkSaid(t, in, "~("+one+")", false)
	}
	for _, one := range []string{"false", "p(y)", "q(y, d) & r", "x = y", "j <= i", "p(c) & p(y)", "p(y) & p(c)", "p(y) & p(y)", "p(y) | p(y)", "p(c) -> p(y)", "p(c) <-> p(y)", "p(y) <-> p(c)", "!v: A. p(v)", "?v: A. !w: A. v = w", "!v: A. ?w: B. q(v, w)", "?v: A. f(v) = v", "!v: A. false", "?v: A. false"} {
		checkSaid(t, in, one, false)
		checkSaid(t, in, "~("+one+")", true)
	}
	for _, one := range []struct {
		c api.Claim
		e api.Errno
	}{
		{p("p", v("x0")), api.ErrNone}, {eq(v("u"), v("u")), api.ErrNone}, {p("w", nr(1)), api.ErrArg}, {p("w2", v("z"), v("i")), api.ErrArg}, {le(app("k"), nr(0)), api.ErrArg}, {le(mul(2, nr(largest)), nr(0)), api.ErrRange},
		{forAll("v", "Int", always()), api.ErrArg}, {exists("v", "Int", le(b(0), b(0))), api.ErrArg}, {forAll("v", "Bool", always()), api.ErrSort}, {exists("v", "Bool", always()), api.ErrSort}, {exists("v", "C", always()), api.ErrSort},
		{p("none"), api.ErrName}, {p("f", v("x")), api.ErrName}, {p("p"), api.ErrArity}, {p("p", v("z")), api.ErrSort}, {p("p", b(0)), api.ErrBound}, {api.Claim{}, api.ErrForm}, {nots(64, always()), api.ErrDeep}, {sample.SizedClaim(4097), api.ErrLong},
	} {
		checkClaim(t, in, one.c, false, one.e)
		checkClaim(t, in, and(always(), one.c), false, one.e)
	}
}

// Each connective of all truth values.
func TestConnectives(t *testing.T) {
	in := usual()
	for op, want := range map[int][]bool{ // of false false, false true, true false, true true
		api.CAnd: {false, false, false, true},
		api.COr:  {false, true, true, true},
		api.CImp: {true, true, false, true},
		api.CIff: {true, false, false, true},
	} {
		for i, holds := range want {
			parts := [][]api.Claim{{never(), le(nr(1), nr(0)), not(always()), exists("v", "A", never())}, {always(), eq(v("x"), v("x")), not(never()), forAll("v", "A", always())}}
			for _, one := range parts[i/2] {
				for _, other := range parts[i%2] {
					checkClaim(t, in, sample.Made(op, one, other), holds, api.OK)
					checkClaim(t, in, not(sample.Made(op, one, other)), !holds, api.OK)
				}
			}
		}
	}
}

// settling are claims that are settled by a part that holds, or does not, whatever the claim is beside it.
func settling(c api.Claim) []api.Claim {
	var l []api.Claim
	for _, one := range []api.Claim{always(), never(), p("r"), not(p("r"))} {
		for _, op := range []int{api.CAnd, api.COr, api.CImp, api.CIff} {
			l = append(l, sample.Made(op, one, c), sample.Made(op, c, one))
		}
	}
	return append(l, c, not(c), forAll("v", "A", c), exists("v", "B", c), forAll("v", "A", exists("v", "A", c)), exists("v", "B", or(eq(b(0), v("z")), not(c))), forAll("v", "A", and(eq(b(0), v("y")), c)))
}

// All parts are evaluated, the first error from the left counts, whatever the other parts yield.
func TestFirstErrorOfClaims(t *testing.T) {
	in := usual()
	var l []struct {
		c api.Claim
		e api.Errno
	}
	keep := func(c api.Claim, e api.Errno) {
		t.Helper()
		checkClaim(t, in, c, false, e)
		l = append(l, struct {
			c api.Claim
			e api.Errno
		}{c, e})
	}
	for _, one := range faults() {
		keep(p("p", one.a), one.e)
		keep(p("q", v("x"), one.b), one.e)
		keep(p("w", one.n), one.e)
		keep(p("w2", one.b, nr(0)), one.e)
		keep(eq(v("x"), one.a), one.e)
		keep(eq(one.n, v("i")), one.e)
		keep(le(nr(0), one.n), one.e)
		for _, other := range faults() {
			for _, c := range []api.Claim{p("q", one.a, other.b), p("w2", one.b, other.n), eq(one.a, other.a), eq(one.b, other.b), eq(one.n, other.n), le(one.n, other.n)} {
				checkClaim(t, in, c, false, one.e)
			}
		}
	}
	keep(forAll("v", "Int", eq(b(0), nr(1))), api.ErrArg)
	keep(exists("v", "Int", p("p", v("x0"))), api.ErrArg)
	keep(exists("v", "Int", eq(b(0), add(nr(largest), nr(1)))), api.ErrArg)
	keep(exists("v", "A", forAll("v", "Int", le(add(nr(largest), b(0)), b(0)))), api.ErrArg)
	for _, one := range l {
		for _, c := range settling(one.c) {
			checkClaim(t, in, c, false, one.e)
		}
		for _, other := range l {
			for _, op := range []int{api.CAnd, api.COr, api.CImp, api.CIff} {
				checkClaim(t, in, sample.Made(op, one.c, other.c), false, one.e)
			}
			checkClaim(t, in, or(or(always(), and(never(), one.c)), other.c), false, one.e)
			checkClaim(t, in, imp(not(forAll("v", "A", one.c)), exists("v", "B", other.c)), false, one.e)
			checkClaim(t, in, forAll("v", "Int", or(one.c, other.c)), false, api.ErrArg)
			checkClaim(t, in, and(one.c, forAll("v", "Int", other.c)), false, one.e)
		}
		// An error of the sorts comes ahead of all of them.
		checkClaim(t, in, and(one.c, p("none")), false, api.ErrName)
		checkClaim(t, in, or(one.c, forAll("v", "Bool", always())), false, api.ErrSort)
		checkClaim(t, in, imp(one.c, exists("v", "none", always())), false, api.ErrSort)
		checkClaim(t, in, iff(one.c, p("p", b(0))), false, api.ErrBound)
		checkClaim(t, in, and(one.c, api.Claim{}), false, api.ErrForm)
	}
}

// A part of a claim has an error for all values of a binder or for none: no number depends on them.
// So it is all the same whether a later value of a binder is looked at, and what the first one yields.
func TestErrorsWithinBinders(t *testing.T) {
	in := usual()
	in.world = worldOf(in.sign, rules()[1], 3, 2)
	for _, one := range faults() {
		for _, c := range []api.Claim{
			exists("v", "A", or(p("p", b(0)), p("p", one.a))), forAll("v", "A", and(eq(b(0), v("x")), eq(one.n, nr(0)))), exists("v", "B", imp(eq(b(0), v("z")), eq(app("g", one.a, b(0)), b(0)))),
			forAll("v", "A", exists("w", "A", and(eq(b(0), b(1)), eq(app("h", one.b, b(0), v("z")), b(1))))), exists("v", "A", or(not(eq(b(0), v("y"))), p("q", b(0), app("n2", b(0), one.n, b(0))))),
		} {
			for _, name := range []string{"A", "B"} {
				checkClaim(t, in, c, false, one.e)
				checkClaim(t, in, not(exists("u", name, c)), false, one.e)
			}
			followClaim(t, in, c)
		}
	}
	checkClaim(t, in, exists("v", "A", or(eq(b(0), b(0)), p("p", app("n", app("m", b(0)))))), false, api.ErrArg)
	checkClaim(t, in, forAll("v", "A", and(eq(b(0), v("x")), le(app("m", b(0)), nr(0)))), false, api.ErrArg)
}

// A binder stands for all values of its sort, from 0 on, and for no more.
func TestValuesOfBinders(t *testing.T) {
	for n := 1; n <= 8; n++ {
		s := sg("B A", fn("p", "A", "Bool"), fn("q", "A A", "Bool"), fn("f", "A", "A"))
		one := api.Var{Name: "x", Sort: "A"}
		for at := range n {
			w := worldOf(s, func(_, k, _ int) int { return map[bool]int{k == at: 1}[true] }, 9-n, n)
			in := setting{s, w, list{one}, []Bind{{"x", int64(at)}}}
			checkSaid(t, in, "?v: A. p(v)", true)
			checkSaid(t, in, "!v: A. p(v)", n == 1)
			checkSaid(t, in, "!v: A. p(v) <-> v = x", true)
			checkSaid(t, in, "!v: A. ~p(v)", false)
			checkSaid(t, in, "?v: A. ~p(v)", n > 1)
			checkSaid(t, in, "!v: A. ~p(v) | v = x", true)
			checkSaid(t, in, "?v: A. p(v) & ~(v = x)", false)
			checkSaid(t, in, "!v: A. !w: A. p(v) & p(w) -> v = w", true)
			checkSaid(t, in, "?v: B. ?w: A. p(w)", true)
		}
		// So many different values there are, and no more.
		different := func(k int) string {
			said := "true"
			for i := range k {
				for j := range i {
					said += fmt.Sprintf(" & ~(v%d = v%d)", i, j)
				}
			}
			for i := range k {
				said = fmt.Sprintf("?v%d: A. ", i) + said
			}
			return said
		}
		if n <= 4 {
			in := setting{s, worldOf(s, rules()[0], 9-n, n), nil, nil}
			checkSaid(t, in, different(n), true)
			checkSaid(t, in, different(n+1), false)
		}
		in := setting{s, worldOf(s, rules()[1], 1, n), list{one}, []Bind{{"x", int64(n - 1)}}}
		checkSaid(t, in, "!v: A. f(v) = v", true)
		in.world = worldOf(s, func(_, at, _ int) int { return at + 1 }, 1, n)
		checkSaid(t, in, "?v: A. f(v) = v", n == 1)
		checkSaid(t, in, "!v: A. ?w: A. f(w) = v", true)
	}
}

// A bound number is the value of the binder that it counts to, whatever names the binders have.
func TestBoundNumbers(t *testing.T) {
	s := sg("A B", fn("h", "B A B", "A"), fn("q", "A B", "Bool"))
	for _, pick := range rules() {
		in := setting{s, worldOf(s, pick, 3, 2), free("x A, y B"), []Bind{{"x", 1}, {"y", 1}}}
		for _, names := range [][]string{{"u", "v", "w"}, {"x", "y", "x"}, {"x", "x", "x"}, {"", "", ""}, {"h", "q", "A"}} {
			for _, ops := range [][]int{{11, 11, 11}, {11, 12, 11}, {12, 11, 12}, {12, 12, 11}, {11, 11, 12}} {
				for _, body := range []api.Claim{
					eq(app("h", b(1), b(0), v("y")), b(2)), eq(app("h", b(1), b(2), b(1)), b(0)), eq(b(0), b(2)), p("q", b(0), b(1)), p("q", b(2), b(1)), eq(app("h", b(1), app("h", b(1), b(2), b(1)), v("y")), v("x")), p("q", app("h", b(1), b(0), b(1)), b(1)), eq(b(1), v("y")),
				} {
					c := body
					for i := range 3 {
						c = api.Claim{Op: ops[i], Name: names[i], Sort: []string{"A", "B", "A"}[i], Subs: []api.Claim{c}}
					}
					followClaim(t, in, c)
					followClaim(t, in, and(not(c), eq(v("x"), v("x"))))
					followClaim(t, in, forAll("x", "B", or(c, eq(b(0), v("y")))))
				}
			}
		}
	}
	in := usual()
	// Within one another with the same name: the inner one counts for what it binds.
	checkSaid(t, in, "!x: A. ?x: A. x = f(x) | true", true)
	checkClaim(t, in, forAll("x", "A", exists("x", "A", eq(b(0), b(1)))), true, api.OK)
	checkClaim(t, in, exists("x", "A", forAll("x", "A", eq(b(0), b(1)))), false, api.OK)
	checkClaim(t, in, exists("x", "A", exists("x", "A", and(not(eq(b(0), b(1))), eq(b(0), v("x"))))), true, api.OK)
	checkClaim(t, in, forAll("x", "A", eq(b(0), v("x"))), false, api.OK)
}

// someAtoms are claims of the terms, right and wrong ones.
func someAtoms(terms []api.Term) []api.Claim {
	l := []api.Claim{always(), never(), p("r"), p("none"), p("w", nr(0))}
	for _, x := range terms {
		l = append(l, p("p", x), p("w", x), eq(x, x))
		for _, y := range terms {
			l = append(l, eq(x, y), le(x, y), p("q", x, y))
		}
	}
	return l
}

// someClaims are claims within no binder, one or several; of those that are not well sorted in the usual setting, only a few.
func someClaims() []api.Claim {
	in := usual()
	var l []api.Claim
	wrong := 0
	keep := func(c api.Claim) {
		_, e := well.Claim(in.sign, in.vars, c)
		if e != api.OK {
			wrong++
		}
		if e == api.OK || wrong%20 == 0 {
			l = append(l, c)
		}
	}
	for _, c := range someAtoms(shallow([]api.Term{v("x"), v("z"), v("i"), nr(largest)})) {
		keep(c)
	}
	few := someAtoms([]api.Term{v("x"), v("i"), v("x0"), b(0), b(1), app("f", b(0)), app("g", b(1), b(0)), nr(3)})
	for i, c := range few {
		for _, sort := range []api.Sort{"A", "B", "Int"} {
			keep(forAll("x", sort, c))
			keep(exists("y", "A", forAll("u", sort, c)))
			keep(exists("y", sort, forAll("u", "B", exists("y", "A", or(c, eq(b(2), b(2)))))))
			keep(and(exists("y", sort, not(c)), c))
		}
		for k := i % 3; k < len(few); k += 3 {
			keep(or(c, few[k]))
			keep(imp(forAll("", "A", exists("", "B", iff(few[k], c))), not(few[k])))
			keep(forAll("x", "A", forAll("x", "B", or(not(few[k]), c))))
			keep(exists("x", "B", forAll("x", "A", imp(few[k], c))))
		}
	}
	return l
}

func TestClaimsFollowTheChapter(t *testing.T) {
	found, holding := map[api.Errno]int{}, map[bool]int{}
	settings := someSettings()
	for k, c := range someClaims() {
		for i, in := range settings {
			if (k+i)%3 == 0 {
				holds, e := followClaim(t, in, c)
				found[e]++
				holding[holds]++
			}
		}
	}
	often(t, found, 300, api.OK, api.ErrNone, api.ErrArg, api.ErrRange, api.ErrName, api.ErrSort, api.ErrBound)
	if holding[true] < 1000 || found[api.OK]-holding[true] < 1000 {
		t.Error(holding, found)
	}
}

// Promise 16.3.

// seq is a sequent with these variables; the last claim is the goal.
func seq(vars list, claims ...api.Claim) api.Seq {
	q := api.Seq{Vars: vars, Goal: claims[len(claims)-1]}
	for i, c := range claims[:len(claims)-1] {
		q.Hyps = append(q.Hyps, api.Hyp{Name: "h" + fmt.Sprint(i%2), Claim: c})
	}
	return q
}

func TestSeq(t *testing.T) {
	in := usual()
	yes, no := always(), never()
	for _, one := range []struct {
		claims []api.Claim
		want   bool
	}{
		{[]api.Claim{yes}, true}, {[]api.Claim{no}, false}, {[]api.Claim{yes, yes}, true}, {[]api.Claim{yes, no}, false}, {[]api.Claim{no, yes}, true}, {[]api.Claim{no, no}, true},
		{[]api.Claim{yes, yes, yes, no}, false}, {[]api.Claim{yes, no, yes, no}, true}, {[]api.Claim{yes, yes, no, no}, true}, {[]api.Claim{no, yes, yes, no}, true}, {[]api.Claim{yes, yes, yes, yes}, true},
		{[]api.Claim{eq(v("x"), v("x")), p("r")}, in.world.Tables[7][0] == 1}, {[]api.Claim{eq(v("x"), v("y")), no}, true},
	} {
		checkSeq(t, in, seq(in.vars, one.claims...), one.want, api.OK)
	}
	// The variables are those of the sequent.
	other := in.of(free("x B"))
	checkSeq(t, other, seq(free("x A"), eq(app("f", v("x")), v("x"))), in.world.Tables[2][2] == 2, api.OK)
	checkSeq(t, other, seq(nil, eq(v("x"), v("x"))), false, api.ErrName)
	checkSeq(t, in.with(Bind{"x", 7}), seq(free("x A"), eq(v("x"), v("x"))), false, api.ErrNone)
	checkSeq(t, in.with(Bind{"x", 7}), seq(free("x Int"), eq(v("x"), nr(7))), true, api.OK)
	checkSeq(t, in.with(Bind{"x", 7}), seq(free("x A"), no, yes), true, api.OK)
	checkSeq(t, setting{}, api.Seq{}, false, api.ErrForm)
	checkSeq(t, setting{}, seq(nil, yes), true, api.OK)
}

// faultyClaims has claims with several errors, of the sorts and of values.
func faultyClaims() map[api.Errno]api.Claim {
	return map[api.Errno]api.Claim{
		api.ErrNone: p("p", v("x0")), api.ErrArg: exists("v", "Int", always()), api.ErrRange: le(neg(nr(smallest)), nr(0)),
		api.ErrName: p("none"), api.ErrSort: p("p", v("z")), api.ErrArity: p("p"), api.ErrBound: eq(b(0), b(0)), api.ErrForm: {}, api.ErrDeep: nots(64, always()), api.ErrLong: sample.SizedClaim(4097),
	}
}

// The first claim with an error counts, be it in its sorts or its values, whatever the others yield.
func TestFirstErrorOfSequents(t *testing.T) {
	in := usual()
	yes, no := always(), never()
	for e, c := range faultyClaims() {
		for _, claims := range [][]api.Claim{{c}, {yes, c}, {no, c}, {c, yes}, {c, no}, {no, no, c, yes}, {c, no, no}, {no, no, no, c}, {yes, c, yes, no}} {
			checkSeq(t, in, seq(in.vars, claims...), false, e)
			if e != api.ErrNone {
				checkAll(t, in, seq(free("y A, z B"), claims...), false, e)
			}
		}
		for other, d := range faultyClaims() {
			for _, claims := range [][]api.Claim{{c, d}, {no, c, d}, {c, no, d}, {yes, c, d, no}, {c, d, d}, {c, yes, yes, d}} {
				checkSeq(t, in, seq(in.vars, claims...), false, e)
				if e != api.ErrNone && other != api.ErrNone {
					checkAll(t, in, seq(free("y A, z B"), claims...), false, e)
				}
			}
		}
	}
}

func TestAll(t *testing.T) {
	in := usual()
	in.world.Tables[2], in.world.Tables[5] = []int{1, 2, 0}, []int{0, 1, 1}
	x, y := v("x"), v("y")
	f := func(x api.Term) api.Term { return app("f", x) }
	for _, one := range []struct {
		vars   string
		want   bool
		claims []api.Claim
	}{
		{"", true, []api.Claim{always()}}, {"", false, []api.Claim{never()}}, {"", true, []api.Claim{p("r"), p("r")}},
		{"x A", true, []api.Claim{eq(x, x)}}, {"x A", false, []api.Claim{p("p", x)}}, {"x A", true, []api.Claim{p("p", x), p("p", x)}}, {"x A", false, []api.Claim{p("p", x), never()}}, {"x A", false, []api.Claim{not(p("p", x))}},
		{"x A", true, []api.Claim{not(p("p", x)), p("p", f(x))}}, {"x A", false, []api.Claim{p("p", x), p("p", f(x))}}, {"x A", true, []api.Claim{p("p", x), not(p("p", f(x))), p("p", f(f(x)))}}, {"x A", true, []api.Claim{not(eq(f(x), x))}},
		{"x A, y A", true, []api.Claim{eq(f(x), f(y)), eq(x, y)}}, {"x A, y A", false, []api.Claim{eq(f(x), y), eq(f(y), x)}}, {"x A, y A", true, []api.Claim{eq(f(x), y), not(eq(f(y), x))}},
		{"y A, z B, x A", true, []api.Claim{eq(x, y), eq(f(x), f(y))}}, {"x A, y B", true, []api.Claim{eq(app("g", x, y), app("g", x, y))}},
		{"x A, x B", true, []api.Claim{or(p("p", x), p("p", f(x)))}}, {"x A, x B", false, []api.Claim{p("p", x)}}, {"x A, x A", true, []api.Claim{exists("v", "A", eq(b(0), x))}},
	} {
		var vars list
		if one.vars != "" {
			vars = free(one.vars)
		}
		checkAll(t, in, seq(vars, one.claims...), one.want, api.OK)
		followSeq(t, in, seq(vars, one.claims...))
	}
	for _, one := range []string{"i Int", "t Bool", "u C", "x A, i Int", "i Int, x A", "x A, t Bool, y A", "x A, y D", "x A, x Int", "x A, x Bool", "x ", "x int"} {
		checkAll(t, in, seq(free(one), always()), false, api.ErrArg)
		checkAll(t, in, seq(free(one), never(), p("none")), false, api.ErrArg)
	}
	checkAll(t, in, seq(free("x B, x A"), p("p", x)), false, api.ErrSort)
	checkAll(t, in, seq(free("x A"), p("p", y)), false, api.ErrName)
	checkAll(t, setting{}, seq(nil, always()), true, api.OK)
	checkAll(t, setting{}, api.Seq{}, false, api.ErrForm)
	checkAll(t, setting{}, seq(free("x A"), always()), false, api.ErrArg)
}

// numbered are variables of the sorts.
func numbered(sorts string) list {
	var l list
	for i, sort := range strings.Fields(sorts) {
		l = append(l, api.Var{Name: "n" + fmt.Sprint(i), Sort: sort})
	}
	return l
}

// All combinations are looked at up to 4096, and none beyond.
func TestManyCombinations(t *testing.T) {
	s := sg("A B C D", fn("p", "A", "Bool"))
	in := setting{s, worldOf(s, func(_, at, _ int) int { return at }, 8, 2, 3, 1), nil, nil} // p holds for 1, 3, 5 and 7
	repeat := func(sort string, n int) string { return strings.Repeat(sort+" ", n) }
	for sorts, e := range map[string]api.Errno{
		repeat("A", 4): api.OK, repeat("A", 4) + repeat("D", 300): api.OK, repeat("D", 3000) + repeat("A", 4): api.OK, repeat("B", 12): api.OK, repeat("A", 3) + repeat("B", 3): api.OK, repeat("C", 7): api.OK, repeat("C", 5) + repeat("B", 4): api.OK, repeat("D", 5000): api.OK,
		repeat("A", 5): api.ErrLong, repeat("A", 4) + "B": api.ErrLong, "B " + repeat("A", 4): api.ErrLong, repeat("B", 13): api.ErrLong, repeat("C", 8): api.ErrLong, repeat("C", 7) + "B": api.ErrLong, repeat("C", 5) + repeat("B", 5): api.ErrLong,
		repeat("A", 64): api.ErrLong, repeat("B", 63): api.ErrLong, repeat("B", 64): api.ErrLong, repeat("B", 65): api.ErrLong, repeat("A", 22): api.ErrLong, repeat("A", 30000): api.ErrLong, repeat("D ", 100) + repeat("B", 200): api.ErrLong,
		repeat("A", 5) + "Int": api.ErrArg, "Int " + repeat("A", 5): api.ErrArg, repeat("A", 400) + "Bool": api.ErrArg, repeat("B", 64) + "none": api.ErrArg, repeat("D", 400) + "E": api.ErrArg,
	} {
		vars := numbered(sorts)
		checkAll(t, in, seq(vars, always()), e == api.OK, e)
		checkAll(t, in, seq(vars, never()), false, e)
		if e != api.OK {
			checkAll(t, in, seq(vars, p("none"), api.Claim{}), false, e)
			continue
		}
		checkAll(t, in, seq(vars, p("none")), false, api.ErrName)
		if len(vars) < 100 {
			same := always()
			for _, x := range vars {
				same = and(same, eq(v(x.Name), v(x.Name)))
			}
			checkAll(t, in, seq(vars, same), true, api.OK)
		}
	}
	// There is one combination alone for which it does not hold, each time another one.
	vars := numbered(repeat("A", 4))
	for i := range 4 {
		for k := range 4 {
			claims := []api.Claim{p("p", v(vars[i].Name))}
			checkAll(t, in, seq(vars, append(claims, p("p", v(vars[k].Name)))...), i == k, api.OK)
			checkAll(t, in, seq(vars, append(claims, exists("v", "A", and(not(p("p", b(0))), not(eq(b(0), v(vars[k].Name))))))...), true, api.OK)
		}
	}
	one := sg("A", fn("q", "A A A A", "Bool"))
	args := []api.Term{v("n0"), v("n1"), v("n2"), v("n3")}
	for _, at := range []int{0, 1, 7, 8, 9, 511, 512, 2048, 4094, 4095} {
		w := worldOf(one, func(_, k, _ int) int { return map[bool]int{k != at: 1}[true] }, 8)
		checkAll(t, setting{one, w, nil, nil}, seq(vars, p("q", args...)), false, api.OK)
		checkAll(t, setting{one, w, nil, nil}, seq(vars, not(p("q", args...))), false, api.OK)
		checkAll(t, setting{one, w, nil, nil}, seq(vars, or(p("q", args...), p("q", args[1], args[0], args[3], args[2]))), at%9 != 0 || at%512 == 511 && at != 4095, api.OK)
	}
	w := worldOf(one, func(int, int, int) int { return 1 }, 8)
	checkAll(t, setting{one, w, nil, nil}, seq(vars, p("q", args...)), true, api.OK)
}

// Names that several variables have count for each of them, though the first one alone gives a value.
func TestVariablesWithOneName(t *testing.T) {
	s := sg("A B", fn("p", "A", "Bool"), fn("q", "B", "Bool"))
	in := setting{s, worldOf(s, rules()[1], 2, 8), nil, nil} // p holds for 1 alone
	x := v("x")
	some := or(p("p", x), not(p("p", x)))
	checkAll(t, in, seq(free("x A, x B"), some), true, api.OK)
	checkAll(t, in, seq(free("x A, x B, x B"), p("p", x)), false, api.OK)
	checkAll(t, in, seq(free("x B, x A"), or(p("q", x), not(p("q", x)))), true, api.OK)
	checkAll(t, in, seq(free("x B, x A"), some), false, api.ErrSort)
	checkAll(t, in, seq(free("x A, x B, x B, x B, x B"), some), false, api.ErrLong)
	checkAll(t, in, seq(free("x B, x B, x B, x B, x A"), p("q", x)), false, api.ErrLong)
	checkAll(t, in, seq(free("x A, x Int"), some), false, api.ErrArg)
	checkAll(t, in, seq(free("x A, y B, x B, y A"), exists("v", "A", and(eq(b(0), x), eq(v("y"), v("y"))))), true, api.OK)
	for _, one := range []string{"x A, x B", "x B, x A", "x A, y A, x A", "x A, x A", "x B, y A, x A, y B"} {
		for _, c := range []api.Claim{p("p", x), p("q", x), eq(x, x), eq(x, v("y")), exists("v", "A", and(p("p", b(0)), eq(b(0), x))), exists("v", "B", not(eq(b(0), x)))} {
			followSeq(t, in.with(Bind{"x", 1}, Bind{"x", 0}, Bind{"y", 1}), seq(free(one), c))
			followSeq(t, in.with(Bind{"y", 2}, Bind{"x", 7}), seq(free(one), not(c), eq(x, x), c))
		}
	}
}

// All combinations come in order, the last variable varying fastest, each binding compared with the last one as a whole.
func TestCombinations(t *testing.T) {
	for _, sizes := range [][]int64{nil, {1}, {3}, {2, 3}, {3, 1, 2}, {1, 1, 1}, {2, 2, 2, 2}} {
		var first, last []Bind
		all := [][]int64{nil}
		for i, n := range sizes {
			name := []string{"x", "y", "x", "z"}[i]
			first, last = append(first, Bind{name, 0}), append(last, Bind{name, n - 1})
			var longer [][]int64
			for _, l := range all {
				for val := range n {
					longer = append(longer, append(slices.Clone(l), val))
				}
			}
			all = longer
		}
		var got [][]int64
		for env := range combinations(first, last) {
			var l []int64
			for i, x := range env {
				if l = append(l, x.Val); x.Name != first[i].Name {
					t.Error(sizes, env)
				}
			}
			got = append(got, l)
		}
		if !slices.EqualFunc(got, all, slices.Equal) {
			t.Error(sizes, got)
		}
		for env := range combinations(first, last) {
			if !slices.Equal(env, first) {
				t.Error(sizes, env)
			}
			break
		}
	}
}

func TestSequentsFollowTheChapter(t *testing.T) {
	found, holding := map[api.Errno]int{}, map[bool]int{}
	atoms := []api.Claim{always(), never(), p("p", v("x")), eq(v("x"), v("y")), p("q", v("x"), v("z")), p("q", app("f", v("y")), app("d")), exists("v", "A", and(eq(b(0), v("x")), p("p", app("f", b(0))))), forAll("v", "B", imp(p("q", v("x"), b(0)), eq(b(0), v("z")))), le(nr(largest), neg(nr(smallest))), p("w", nr(0)), p("p", b(0)), eq(v("z"), app("g", v("x"), v("z"))), eq(v("i"), nr(-7)), not(eq(v("t"), v("t")))}
	for i, in := range someSettings() {
		for k, vars := range []list{nil, free("x A"), free("x A, y A, z B"), free("z B, x A, y A, x B"), free("x A, y A, z B, i Int"), free("t Bool, x A"), free("z B, x C"), in.vars} {
			for m, c := range atoms {
				for n, d := range atoms {
					if (i+k+m+n)%3 == 0 {
						for _, q := range []api.Seq{seq(vars, c, d), seq(vars, or(c, d)), seq(vars, not(c), d, atoms[(m+n)%len(atoms)])} {
							holds, e := followSeq(t, in, q)
							found[e]++
							holding[holds]++
						}
					}
				}
			}
		}
	}
	often(t, found, 50, api.OK, api.ErrArg, api.ErrName, api.ErrSort, api.ErrBound, api.ErrRange)
	if holding[true] < 300 || found[api.OK]-holding[true] < 300 {
		t.Error(holding, found)
	}
}

// Promise 16.4.

// Claims that differ in the names of binders alone have the same truth value, or error.
func TestNamesOfBinders(t *testing.T) {
	compared := 0
	for i, in := range someSettings() {
		for k, c := range someClaims() {
			if (k+i)%4 != 0 || claim.Right(c) != api.OK {
				continue
			}
			want, e := Claim(in.sign, in.world, in.vars, in.env, c)
			for _, names := range [][]string{{"x", "y"}, {"z"}, {"", "i", "f", "true"}} {
				d := sample.Renamed(c, names...)
				if !claim.Same(c, d) {
					t.Fatal(text(c), text(d))
				}
				checkClaim(t, in, d, want, e)
				compared++
			}
		}
	}
	if compared < 5000 {
		t.Error(compared)
	}
}

// substitutions put terms of the same sorts in place of x, z and i, of none, some or all of them.
func substitutions() [][]api.Pair {
	x, y, z, i := v("x"), v("y"), v("z"), v("i")
	return sample.Fillings(free("i Int, x A, z B"), map[api.Sort][]api.Term{
		"A":   {x, y, app("c"), app("f", app("f", x)), app("h", z, y, z)},
		"B":   {z, app("d"), app("g", x, z), app("g", y, app("g", x, z))},
		"Int": {i, nr(-3), add(i, v("j")), mul(2, sub(i, nr(1)))},
	})
}

// interpreted is in with the values of the terms of l for its names.
func interpreted(t *testing.T, in setting, l []api.Pair) setting {
	t.Helper()
	var env []Bind
	for _, pair := range l {
		n, e := Term(in.sign, in.world, in.vars, in.env, pair.Term)
		if e != api.OK {
			t.Fatal(termText(pair.Term), e)
		}
		env = append(env, Bind{pair.Name, n})
	}
	return in.with(append(env, in.env...)...)
}

// After a substitution a term has the value, and a claim the truth value, that it has if the variables have the values of the terms put in.
func TestSubstitution(t *testing.T) {
	all, compared := substitutions(), 0
	terms, claims := someTerms(), someClaims()
	for i, in := range someSettings()[:6] {
		in.env = []Bind{{"x", 0}, {"y", 0}, {"z", 0}, {"i", -7}, {"j", 5}, {"t", 1}}
		if i < 1 {
			in.env = usual().env
		}
		for m, l := range all {
			other := interpreted(t, in, l)
			for n := (7*m + i) % 90; n < len(terms); n += 90 {
				if term.Right(terms[n]) == api.OK {
					want, e := Term(other.sign, other.world, other.vars, other.env, terms[n])
					checkTerm(t, in, subst.Apply(l, terms[n]), want, e)
					compared++
				}
			}
			for n := (7*m + i) % 90; n < len(claims); n += 90 {
				want, e := Claim(other.sign, other.world, other.vars, other.env, claims[n])
				checkClaim(t, in, subst.ApplyClaim(l, claims[n]), want, e)
				compared++
			}
		}
	}
	if compared < 50000 {
		t.Error(compared)
	}
	// The binder x does not capture the variable x that is put in.
	in := usual()
	c := exists("x", "A", and(not(eq(b(0), v("y"))), eq(b(0), app("f", v("y")))))
	l := []api.Pair{sample.Pair("y", v("x"))}
	want, e := Claim(in.sign, in.world, in.vars, interpreted(t, in, l).env, c)
	checkClaim(t, in, subst.ApplyClaim(l, c), want, e)
}

// Rules of all layers: memory, ends, limits.

// Nothing is written behind the lists of an argument.
func TestRoomBehindLists(t *testing.T) {
	in := usual()
	in.world = twinWorld(in.world)
	in.world.Sizes = sample.Roomy(in.world.Sizes, 77)
	for i, l := range in.world.Tables {
		in.world.Tables[i] = sample.Roomy(l, 77)
	}
	in.world.Tables = sample.Roomy(in.world.Tables, []int{77})
	in.env, in.vars = sample.Roomy(in.env, Bind{"free", 77}), sample.Roomy(in.vars, api.Var{Name: "free"})
	args := sample.Roomy([]api.Term{v("x"), v("z")}, v("free"))
	subs := sample.Roomy([]api.Claim{exists("u", "A", p("p", b(0))), p("q", args...)}, p("free"))
	c := api.Claim{Op: api.CAnd, Subs: subs}
	quant := seq(sample.Roomy(free("x A, z B"), api.Var{Name: "free"}), c, c, c)
	quant.Hyps = sample.Roomy(quant.Hyps, api.Hyp{Name: "free"})
	followRight(t, in.sign, in.world)
	followTerm(t, in, api.Term{Op: api.TApp, Name: "g", Args: args})
	followClaim(t, in, c)
	followSeq(t, in, quant)
	Make(in.sign, in.world.Sizes, nil)
	for i, ok := range []bool{
		in.world.Sizes[:5][2] == 77, in.world.Sizes[:5][4] == 77, in.world.Tables[0][:4][1] == 77, in.world.Tables[9][:2][1] == 77, in.world.Tables[:17][14][0] == 77, in.env[:12][9].Name == "free", in.vars[:13][10].Name == "free",
		args[:5][2].Name == "free", subs[:5][2].Name == "free", quant.Vars[:5][2].Name == "free", quant.Vars[:5][4].Name == "free", quant.Hyps[:5][2].Name == "free",
	} {
		if !ok {
			t.Error(i)
		}
	}
}

// A call answers by what it is given alone: neither an earlier call nor an earlier content of the same memory counts.
func TestNothingIsKept(t *testing.T) {
	in := usual()
	in.world.Tables[2] = []int{1, 2, 0}
	x, c := app("f", v("x")), exists("u", "A", and(eq(b(0), v("x")), eq(app("f", b(0)), v("y"))))
	q := seq(free("x A, y A"), eq(app("f", v("x")), v("y")), eq(v("y"), app("f", v("x"))))
	for range 2 {
		checkTerm(t, in, x, 0, api.OK)
		checkClaim(t, in, c, true, api.OK)
		checkAll(t, in, q, true, api.OK)
		in.world.Tables[2][2] = 2
		checkTerm(t, in, x, 2, api.OK)
		checkClaim(t, in, c, false, api.OK)
		in.env[0].Val, in.env[1].Val = 1, 2
		checkTerm(t, in, x, 2, api.OK)
		checkClaim(t, in, c, true, api.OK)
		in.world.Tables[2][0] = 3
		checkTerm(t, in, x, 0, api.ErrArg)
		in.world.Tables[2][0], in.world.Tables[2][2] = 1, 0
		in.vars[0].Sort = "Int"
		checkTerm(t, in, x, 0, api.ErrSort)
		q.Hyps[0].Claim.Terms[1] = v("x")
		checkAll(t, in, q, true, api.OK)
		q.Goal.Terms[0] = app("c")
		checkAll(t, in, q, true, api.OK)
		q.Hyps[0].Claim = always()
		checkAll(t, in, q, false, api.OK)
		in = usual()
		in.world.Tables[2] = []int{1, 2, 0}
		c = exists("u", "A", and(eq(b(0), v("x")), eq(app("f", b(0)), v("y"))))
		q = seq(free("x A, y A"), eq(app("f", v("x")), v("y")), eq(v("y"), app("f", v("x"))))
	}
}

// Terms and claims may be as deep and as large as right ones can be.
func TestLimits(t *testing.T) {
	in := usual()
	in.world.Tables[2] = []int{1, 2, 0}
	checkTerm(t, in, chain(63, v("x")), 2, api.OK)
	checkTerm(t, in, chain(62, v("x")), 1, api.OK)
	checkTerm(t, in, chain(63, v("x0")), 0, api.ErrNone)
	checkTerm(t, in, chain(64, v("x0")), 0, api.ErrDeep)
	checkTerm(t, in, sample.Nested(63, nr(5), neg), -5, api.OK)
	checkTerm(t, in, sample.Nested(62, nr(1), func(x api.Term) api.Term { return mul(2, x) }), 1<<62, api.OK)
	checkTerm(t, in, sample.Nested(63, nr(1), func(x api.Term) api.Term { return mul(2, x) }), 0, api.ErrRange)
	checkTerm(t, in, sample.Nested(63, nr(-1), func(x api.Term) api.Term { return mul(2, x) }), smallest, api.OK)
	sum := sample.Nested(11, v("j"), func(x api.Term) api.Term { return add(x, x) })
	checkTerm(t, in, sum, 5<<11, api.OK)
	checkTerm(t, in, add(sum, sum), 0, api.ErrLong)
	checkClaim(t, in, nots(63, eq(chain(63, v("x")), v("x"))), false, api.OK)
	checkClaim(t, in, nots(62, eq(chain(63, v("x")), v("x"))), true, api.OK)
	checkClaim(t, in, nots(64, eq(v("x"), v("x"))), false, api.ErrDeep)
	checkClaim(t, in, sample.SizedClaim(4095), wantHolds(sample.SizedClaim(4095)), api.OK)
	eight := sg("A", fn("p", "A A A A A A A A", "Bool"), fn("f", "A A A A A A A A", "A"))
	one := setting{eight, worldOf(eight, func(_, at, _ int) int { return at }, 2), free("x A"), []Bind{{"x", 1}}}
	checkClaim(t, one, p("p", sample.Vars(8, "x")...), true, api.OK)
	wide := app("f", sample.Vars(8, "x")...)
	checkClaim(t, one, p("p", slices.Repeat([]api.Term{app("f", slices.Repeat([]api.Term{wide}, 8)...)}, 7)...), false, api.ErrArity)
	checkClaim(t, one, p("p", append(slices.Repeat([]api.Term{app("f", slices.Repeat([]api.Term{wide}, 8)...)}, 7), v("x"))...), true, api.OK)
}

// wantHolds tells whether a claim without terms holds.
func wantHolds(c api.Claim) bool {
	holds, _ := setting{}.truth(c, nil)
	return holds
}

// nested is c within n binders over A of these kinds, from the inside, again and again.
func nested(n int, c api.Claim, ops ...int) api.Claim {
	for i := range n {
		c = api.Claim{Op: ops[i%len(ops)], Name: "u", Sort: "A", Subs: []api.Claim{c}}
	}
	return c
}

// around is the setting in which A has eight values, f leads from each one to the next one, around, and q says that it does.
func around() setting {
	s := sg("A B", fn("q", "A A", "Bool"), fn("f", "A", "A"))
	w := worldOf(s, func(fun, at, _ int) int {
		if fun == 0 {
			return int(number((at/8+1)%8 == at%8))
		}
		return at + 1
	}, 8, 1)
	return setting{s, w, free("x A, i0 Int"), []Bind{{"x", 3}}}
}

// Claims within as many binders as there may be are evaluated in time where each part speaks of few of them.
func TestManyBinders(t *testing.T) {
	in := around()
	for _, ops := range [][]int{{11}, {12}, {11, 12}, {12, 11}, {11, 11, 12}} {
		checkClaim(t, in, nested(63, always(), ops...), true, api.OK)
		checkClaim(t, in, nested(63, never(), ops...), false, api.OK)
		checkClaim(t, in, nested(63, eq(v("x"), v("x")), ops...), true, api.OK)
		checkClaim(t, in, nested(63, eq(v("i0"), nr(0)), ops...), false, api.ErrNone)
		for _, n := range []int64{1, 2, 31, 61, 62} {
			checkClaim(t, in, nested(63, eq(b(0), b(n)), ops...), ops[0] == api.CEx, api.OK)
			checkClaim(t, in, nested(61, imp(p("q", b(0), b(n%61)), eq(app("f", b(0)), b(n%61))), ops...), true, api.OK)
		}
	}
	checkClaim(t, in, sample.Nested(63, always(), func(c api.Claim) api.Claim { return forAll("u", "B", c) }), true, api.OK)
	checkClaim(t, in, sample.Nested(62, eq(b(0), b(61)), func(c api.Claim) api.Claim { return forAll("u", "B", c) }), true, api.OK)
	// At each level two binders count: from each value there is a way of 29 steps, but not to each other one.
	way, only := exists("u", "A", p("q", b(1), b(0))), forAll("u", "A", imp(p("q", b(1), b(0)), p("q", b(0), v("x"))))
	for range 28 {
		way, only = exists("u", "A", and(p("q", b(1), b(0)), way)), forAll("u", "A", imp(p("q", b(1), b(0)), only))
	}
	checkClaim(t, in, forAll("u", "A", way), true, api.OK)
	checkClaim(t, in, exists("u", "A", only), true, api.OK)
	checkClaim(t, in, forAll("u", "A", only), false, api.OK)
	next := imp(p("q", b(60), v("y")), eq(app("f", b(60)), v("y")))
	checkAll(t, in, seq(free("x A, y A, z A, w A"), forAll("u", "A", way), nested(61, next, 11, 12)), true, api.OK)
	checkAll(t, in, seq(free("x A, y A, z A, w A"), forAll("u", "A", way), exists("u", "A", only), nested(61, not(next), 12)), false, api.OK)
}

// Answers are kept for some combinations only, but a claim is evaluated once for a binder of which it does not speak.
func TestMoreCombinationsThanAreKept(t *testing.T) {
	in := around()
	five := and(imp(eq(b(57), b(58)), eq(b(58), b(57))), imp(eq(b(54), b(54)), iff(p("q", b(56), b(55)), eq(app("f", b(56)), b(55)))))
	checkClaim(t, in, nested(59, five, 11), true, api.OK)
	checkClaim(t, in, nested(59, not(five), 12), false, api.OK)
	for _, ops := range [][]int{{11}, {12}, {12, 11}, {11, 12, 12}} {
		// The inner one speaks of five others, and one of the others of three.
		inner := api.Claim{Op: ops[len(ops)-1], Sort: "A", Subs: []api.Claim{or(and(p("q", b(0), b(1)), not(p("q", b(2), b(3)))), iff(p("q", b(4), b(5)), eq(b(0), b(5))))}}
		followClaim(t, in, nested(5, inner, ops...))
		followClaim(t, in, nested(3, exists("u", "A", and(p("q", b(0), b(2)), forAll("u", "A", or(inner, eq(b(1), b(4)))))), ops...))
	}
}

// The answers that are kept for a claim are those for the same values of what it speaks of.
func TestKeptAnswers(t *testing.T) {
	s := sg("A B", fn("q", "A A", "Bool"), fn("h", "A B", "A"), fn("p", "B", "Bool"))
	inners := []api.Claim{
		p("q", b(0), b(1)), p("q", b(0), b(2)), p("q", app("h", b(2), b(3)), b(0)), and(p("q", b(0), v("x")), p("p", b(3))), or(p("q", b(1), b(0)), p("q", b(2), v("x"))), eq(b(0), app("h", v("x"), v("y"))), iff(p("p", v("y")), eq(b(1), b(2))),
	}
	holding := map[bool]int{}
	for i, pick := range rules() {
		in := setting{s, worldOf(s, pick, 3, 2), free("x A, y B"), []Bind{{"x", int64(i % 3)}, {"y", 1}}}
		for _, inner := range inners {
			for k := range 16 {
				binder := func(i int, sort string, c api.Claim) api.Claim {
					return api.Claim{Op: api.CAll + k>>i&1, Name: "u", Sort: sort, Subs: []api.Claim{c}}
				}
				c := binder(0, "A", inner)
				c = binder(1, "A", or(not(c), and(c, p("q", b(0), b(1)))))
				c = binder(2, "A", iff(c, p("q", b(0), v("x"))))
				c = binder(3, "B", or(p("p", b(0)), c))
				followClaim(t, in, c)
				holds, _ := followSeq(t, in, seq(free("x A, y B"), c))
				holding[holds]++
				followSeq(t, in, seq(free("y B, x A, x B"), p("p", v("y")), c, not(c)))
			}
		}
	}
	if holding[true] < 100 || holding[false] < 100 {
		t.Error(holding)
	}
}

// Lists may be far longer than right ones.
func TestLongLists(t *testing.T) {
	const n = 30000
	in := usual()
	var vars list
	var env []Bind
	for i := range n {
		name := "v" + fmt.Sprint(i)
		vars, env = append(vars, api.Var{Name: name, Sort: []string{"A", "B", "Int", "C"}[i%4]}), append(env, Bind{name, int64(i % 2)})
	}
	slices.Reverse(env)
	in = in.of(vars).with(env...)
	checkTerm(t, in, v("v29996"), 0, api.OK)
	checkTerm(t, in, v("v29997"), 1, api.OK)
	checkTerm(t, in, v("v29999"), 0, api.ErrNone)
	checkClaim(t, in, exists("u", "A", eq(b(0), v("v0"))), true, api.OK)
	claims := slices.Repeat([]api.Claim{eq(v("v29996"), v("v0"))}, 1000)
	checkSeq(t, in, seq(vars, append(claims, never())...), false, api.OK)
	checkSeq(t, in, seq(vars, append(claims, eq(v("v0"), v("v1")))...), false, api.ErrSort)
	checkSeq(t, in, seq(vars, append(claims, not(claims[0]), never(), never())...), true, api.OK)
	checkAll(t, in, seq(vars, claims...), false, api.ErrArg)
	many := slices.Repeat([]api.Claim{eq(v("v4"), v("v8"))}, n)
	checkSeq(t, in, seq(vars[:9], append(many, eq(v("v4"), v("v1")), p("none"))...), false, api.ErrSort)
	checkAll(t, in, seq(free("v4 A, v8 A"), append(many, eq(v("v8"), v("v4")))...), true, api.OK)
	small := sg("A")
	for i := range vars {
		vars[i].Sort = "A"
	}
	one := setting{small, World{Sizes: []int{1}}, nil, nil}
	checkAll(t, one, seq(vars, claims...), true, api.OK)
	checkAll(t, one, seq(vars, append(claims, never())...), false, api.OK)
	one.world.Sizes[0] = 2
	checkAll(t, one, seq(vars, claims...), false, api.ErrLong)
	checkRight(t, in.sign, World{slices.Repeat([]int{1}, n), nil}, api.ErrArg)
	checkRight(t, in.sign, World{in.world.Sizes, make([][]int, n)}, api.ErrArg)
	long := twinWorld(in.world)
	long.Tables[2] = make([]int, n)
	checkRight(t, in.sign, long, api.ErrArg)
	full := api.Sign{Sorts: []api.Sort{"A"}}
	for i := range 256 {
		full.Funs = append(full.Funs, fn("f"+fmt.Sprint(i), "A A A A", "A"))
	}
	w := worldOf(full, rules()[3], 8)
	checkTerm(t, setting{full, w, free("x A"), []Bind{{"x", 7}}}, app("f255", sample.Vars(4, "x")...), int64(w.Tables[255][4095]), api.OK)
}

// Parts may share memory, and a term or a claim may even be a part of itself.
func TestPartsThatShareMemory(t *testing.T) {
	in := usual()
	x, c := v("j"), always()
	for d := 1; d < 70; d++ {
		e := api.OK
		switch {
		case d >= 65:
			e = api.ErrDeep
		case d >= 13: // of 2^d - 1 parts
			e = api.ErrLong
		}
		n, err := Term(in.sign, in.world, in.vars, in.env, x)
		if err != e || n != map[bool]int64{true: 5 << (d - 1)}[e == 0] {
			t.Error(d, n, err)
		}
		holds, err := Claim(in.sign, in.world, in.vars, in.env, c)
		if err != e || holds != (e == 0) {
			t.Error(d, holds, err)
		}
		holds, err = All(in.sign, in.world, seq(free("x A"), c, c))
		if err != e || holds != (e == 0) {
			t.Error(d, holds, err)
		}
		x, c = add(x, x), and(c, c)
	}
	args, subs := make([]api.Term, 1), make([]api.Claim, 1)
	args[0], subs[0] = api.Term{Op: api.TNeg, Args: args}, api.Claim{Op: api.CNot, Subs: subs}
	n, e := Term(in.sign, in.world, in.vars, in.env, args[0])
	holds, f := Claim(in.sign, in.world, in.vars, in.env, subs[0])
	if n != 0 || e != api.ErrDeep || holds || f != api.ErrDeep {
		t.Error(n, e, holds, f)
	}
	// A claim in the same memory within unlike binders.
	same := []api.Claim{exists("v", "A", eq(b(0), b(1)))}
	followClaim(t, in, and(api.Claim{Op: 11, Sort: "A", Subs: same}, not(api.Claim{Op: 12, Sort: "A", Subs: same})))
	either := []api.Claim{not(eq(b(0), b(1)))}
	followClaim(t, in, or(forAll("u", "A", api.Claim{Op: 11, Sort: "A", Subs: either}), forAll("u", "B", api.Claim{Op: 12, Sort: "B", Subs: either})))
}

// Whatever the lists and the parts are, the calls end and follow the chapter.
func TestScatteredFollowTheChapter(t *testing.T) {
	found := map[api.Errno]int{}
	next := sample.Scattered(88172645463325252)
	names := []string{"x", "y", "c"}
	wild := sample.Wild{Pick: next, Vars: names, Funs: []string{"x", "y", "f", "g", "p", "c"}, Sorts: []api.Sort{"A", "A", "B", "A", "B", "Int", "Bool", "C"}, Nums: []int64{1, 2, largest, smallest}, Bounds: 2}
	for i := range 40000 {
		in := setting{sign: sg("A B")}
		for range next(6) {
			f := api.Fun{Name: wild.Fun(), Res: wild.Sort()}
			for range next(3) {
				f.Args = append(f.Args, wild.Sort())
			}
			if more, e := sign.Fun(in.sign, f); e == api.OK || next(50) == 0 {
				in.sign = more
			}
		}
		in.world, _ = Make(in.sign, []int{1 + next(3), 1 + next(3)}, func(int, int, int) int { return next(97) })
		if next(100) == 0 {
			in.world.Sizes = append(in.world.Sizes, 1)
		}
		for range next(5) {
			in.vars = append(in.vars, api.Var{Name: wild.Var(), Sort: wild.Sort()})
		}
		for range next(6) {
			in.env = append(in.env, Bind{wild.Var(), int64(next(4) * next(2))})
		}
		_, e := followTerm(t, in, wild.Term(2))
		found[e]++
		_, e = followClaim(t, in, wild.Claim(1+i%3))
		found[e]++
		_, e = followSeq(t, in, seq(in.vars, wild.Claim(1), wild.Claim(2)))
		found[e]++
	}
	often(t, found, 200, api.OK, api.ErrArg, api.ErrNone, api.ErrRange, api.ErrName, api.ErrSort, api.ErrBound, api.ErrArity)
}

// Nothing of the calls is left beside what they return: what is wrong in variables or bindings that do not occur does not count.
func TestWrongVariablesThatDoNotOccur(t *testing.T) {
	in := usual()
	if e := well.Vars(in.sign, in.vars); e == api.OK {
		t.Error("the variables of the usual setting are right")
	}
	checkClaim(t, in, say(t, in, "x = x & (?v: B. v = z)"), true, api.OK)
	checkClaim(t, in.of(append(list{{}, {Name: "true", Sort: "none"}}, in.vars...)).with(append([]Bind{{}, {"none", smallest}}, in.env...)...), say(t, in, "x = x & (?v: B. v = z)"), true, api.OK)
}

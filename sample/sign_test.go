package sample

import (
	"slices"
	"strings"
	"testing"

	"sequitur/api"
	"sequitur/sign"
)

// signature is a signature with all kinds of functions, each time in new memory.
func signature() api.Sign {
	return Sign("A B", Fun("c", "", "A"), Fun("f", "A B", "Int"), Fun("p", "Int", "Bool"))
}

// typed are variables, each time in new memory.
func typed() []api.Var { return Free("x A, y Int,z B") }

// kinds has one list of each kind, each time in new memory.
func kinds() Data {
	return Data{Pairs: [][]api.Pair{list()}, Claims: []api.Claim{whole()}, Signs: []api.Sign{signature()}, Vars: [][]api.Var{typed()}, Names: [][]string{{"A", "", "B"}}, Clauses: [][]int{{3, -1, 0}}, Values: [][]bool{{true, false, true}}, Sets: []api.Cnf{SetOf(3, "1 -2;3;")}}
}

func TestSign(t *testing.T) {
	s := signature()
	want := api.Sign{Sorts: []string{"A", "B"}, Funs: []api.Fun{{Name: "c", Res: "A"}, {Name: "f", Args: []string{"A", "B"}, Res: "Int"}, {Name: "p", Args: []string{"Int"}, Res: "Bool"}}}
	if sign.Right(s) != api.OK || !EqualSigns(s, want) || !sign.Same(s, want) {
		t.Error(SignText(s))
	}
	if l := typed(); !slices.Equal(l, []api.Var{{Name: "x", Sort: "A"}, {Name: "y", Sort: "Int"}, {Name: "z", Sort: "B"}}) {
		t.Error(VarsText(l))
	}
}

// kindChanges are ways to change what has one list of each kind, each in one place.
func kindChanges() map[string]func(d *Data) {
	return map[string]func(d *Data){
		"pair":           func(d *Data) { d.Pairs[0][1].Name = "w" },
		"claim":          func(d *Data) { d.Claims[0].Subs[0].Name = "w" },
		"sort":           func(d *Data) { d.Signs[0].Sorts[1] = "A" },
		"fewer sorts":    func(d *Data) { d.Signs[0].Sorts = d.Signs[0].Sorts[:1] },
		"function":       func(d *Data) { d.Signs[0].Funs[1].Name = "g" },
		"arg":            func(d *Data) { d.Signs[0].Funs[1].Args[1] = "A" },
		"fewer args":     func(d *Data) { d.Signs[0].Funs[1].Args = d.Signs[0].Funs[1].Args[:1] },
		"result":         func(d *Data) { d.Signs[0].Funs[2].Res = "A" },
		"no functions":   func(d *Data) { d.Signs[0].Funs = nil },
		"variable":       func(d *Data) { d.Vars[0][2].Name = "x" },
		"its sort":       func(d *Data) { d.Vars[0][0].Sort = "B" },
		"no variables":   func(d *Data) { d.Vars[0] = nil },
		"name":           func(d *Data) { d.Names[0][1] = "A" },
		"fewer names":    func(d *Data) { d.Names[0] = d.Names[0][:2] },
		"another order":  func(d *Data) { d.Names[0][0], d.Names[0][2] = "B", "A" },
		"all signatures": func(d *Data) { SpoilSign(d.Signs[0]) },
		"all variables":  func(d *Data) { SpoilVars(d.Vars[0]) },
		"all names":      func(d *Data) { SpoilNames(d.Names[0]) },
		"one function":   func(d *Data) { SpoilFun(&d.Signs[0].Funs[0]) },
		"number":         func(d *Data) { d.Clauses[0][1] = 1 },
		"fewer numbers":  func(d *Data) { d.Clauses[0] = d.Clauses[0][:2] },
		"all numbers":    func(d *Data) { SpoilClause(d.Clauses[0]) },
		"value":          func(d *Data) { d.Values[0][2] = false },
		"fewer values":   func(d *Data) { d.Values[0] = d.Values[0][:2] },
		"all values":     func(d *Data) { SpoilValues(d.Values[0]) },
		"N":              func(d *Data) { d.Sets[0].N = 2 },
		"literal":        func(d *Data) { d.Sets[0].L[0][1] = 2 },
		"fewer literals": func(d *Data) { d.Sets[0].L[0] = d.Sets[0].L[0][:1] },
		"fewer clauses":  func(d *Data) { d.Sets[0].L = d.Sets[0].L[:1] },
		"no clauses":     func(d *Data) { d.Sets[0].L = nil },
		"order":          func(d *Data) { slices.Reverse(d.Sets[0].L) },
		"all clauses":    func(d *Data) { SpoilSet(d.Sets[0]) },
	}
}

func TestKindsEqualAndChanged(t *testing.T) {
	if d := kinds(); !d.Equal(kinds()) || !d.Equal(d.twin()) || !(Data{}).With(d).Equal(d) || d.Changed(func() {}) != "" || d.Shares(kinds()) {
		t.Error(d.Text())
	}
	for name, change := range kindChanges() {
		d := kinds()
		said := d.Changed(func() { change(&d) })
		if d.Equal(kinds()) || kinds().Equal(d) || said == "" || kinds().With(d).Equal(d.With(kinds())) {
			t.Errorf("%s: %q", name, said)
		}
	}
	for name, change := range map[string]func(d *Data){
		"sorts":     func(d *Data) { d.Signs[0].Sorts = []string{} },
		"functions": func(d *Data) { d.Signs[0].Funs = []api.Fun{} },
		"variables": func(d *Data) { d.Vars[0] = []api.Var{} },
		"names":     func(d *Data) { d.Names[0] = []string{} },
		"args":      func(d *Data) { d.Signs[1].Funs[0].Args = []string{} },
		"numbers":   func(d *Data) { d.Clauses[0] = []int{} },
		"values":    func(d *Data) { d.Values[0] = []bool{} },
		"clauses":   func(d *Data) { d.Sets[0].L = [][]int{} },
		"literals":  func(d *Data) { d.Sets[1].L[0] = []int{} },
	} {
		d := Data{Signs: []api.Sign{{}, {Funs: []api.Fun{{}}}}, Vars: [][]api.Var{nil}, Names: [][]string{nil}, Clauses: [][]int{nil}, Values: [][]bool{nil}, Sets: []api.Cnf{{}, Set(0, nil)}}
		before := d.twin()
		if said := d.Changed(func() { change(&d) }); said == "" || !d.Equal(before) {
			t.Errorf("an empty list of %s in place of nil: %q", name, said)
		}
	}
}

func TestKindsShare(t *testing.T) {
	d := kinds()
	s := d.Signs[0]
	for i, part := range []Data{
		d, {Signs: d.Signs}, {Vars: d.Vars}, {Names: d.Names}, {Names: [][]string{s.Sorts}}, {Names: [][]string{s.Funs[1].Args[1:]}}, {Names: [][]string{d.Names[0][:0]}}, {Vars: [][]api.Var{d.Vars[0][2:]}},
		{Clauses: d.Clauses}, {Clauses: [][]int{d.Clauses[0][2:]}}, {Values: d.Values}, {Values: [][]bool{d.Values[0][:1]}},
		{Sets: d.Sets}, {Clauses: d.Sets[0].L[1:]}, Sets(Set(0, d.Clauses...)), Sets(Set(0, d.Sets[0].L[:0]...)),
		{Signs: []api.Sign{{Funs: s.Funs[1:]}}}, {Signs: []api.Sign{{Sorts: d.Names[0]}}}, {Signs: []api.Sign{{Funs: []api.Fun{{Args: s.Sorts}}}}},
	} {
		if !part.Shares(d) || part.Shares(kinds()) || !part.With(part).Shares(Data{}) {
			t.Error(i, part.Text())
		}
	}
}

func TestSpoiltKinds(t *testing.T) {
	room := slices.Grow([]string{"A"}, 3)
	s := api.Sign{Sorts: room[:1], Funs: slices.Grow([]api.Fun{Fun("f", "A", "A")}, 2)}
	args := s.Funs[0].Args
	SpoilSign(s)
	if args[0] != "spoilt" || slices.ContainsFunc(room[:cap(room)], func(s string) bool { return s != "spoilt" }) || s.Funs[:2][1].Name != "spoilt" {
		t.Error(room[:cap(room)], args, FunText(s.Funs[:2][1]))
	}
	d := kinds()
	if said := Tied(func() Data { return kinds() }, d); said != "" || d.Equal(kinds()) || d.Signs[0].Sorts[0] != "spoilt" || d.Vars[0][0].Name != "spoilt" || d.Names[0][0] != "spoilt" || d.Clauses[0][0] != 99 || d.Values[0][0] || d.Sets[0].L[1][0] != 99 {
		t.Error(said, d.Text())
	}
	for i, call := range []func(d Data) Data{
		func(d Data) Data { return Data{Signs: []api.Sign{{Sorts: d.Signs[0].Sorts}}} },
		func(d Data) Data { return Data{Vars: d.Vars} },
		func(d Data) Data { return Data{Names: d.Names} },
		func(d Data) Data { return Data{Clauses: d.Clauses} },
		func(d Data) Data { return Data{Values: d.Values} },
		func(d Data) Data { return Sets(Set(1, slices.Clone(d.Sets[0].L)...)) },
	} {
		d := kinds()
		if said := Tied(func() Data { return call(d) }, d); said == "" {
			t.Error(i)
		}
	}
}

func TestTextsOfKinds(t *testing.T) {
	d := Data{Signs: []api.Sign{Sign("A", Fun("f", "A A", "B"))}, Vars: [][]api.Var{Free("x A")}, Names: [][]string{{"A", "B"}}}
	if s := d.Text(); s != `[{1 names: "A"; 1 functions: "f" of 2 names: "A", "A" -> "B"}] [1 variables: "x": "A"] [2 names: "A", "B"] 0 claims: ` {
		t.Error(s)
	}
	long := strings.Repeat("x", 1<<16)
	d = Data{Signs: []api.Sign{{Sorts: slices.Repeat([]string{long}, 1000), Funs: slices.Repeat([]api.Fun{Fun(long, strings.Repeat(long+" ", 20), long)}, 1000)}}, Vars: [][]api.Var{Free(long + " " + long)}}
	if n := len(d.Text()); n > 2000 {
		t.Error(n)
	}
}

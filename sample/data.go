package sample

import (
	"slices"
	"strconv"
	"strings"

	"sequitur/api"
)

// Data are lists of several kinds together: what a call takes, or what it answers.
type Data struct {
	Pairs   [][]api.Pair
	Claims  []api.Claim
	Signs   []api.Sign
	Vars    [][]api.Var
	Names   [][]string
	Clauses [][]int
	Values  [][]bool
	Sets    []api.Cnf
}

// Lists are substitutions as data.
func Lists(l ...[]api.Pair) Data { return Data{Pairs: l} }

// Claims are claims as data.
func Claims(l ...api.Claim) Data { return Data{Claims: l} }

// Terms are terms as data: those of one claim.
func Terms(l ...api.Term) Data { return Claims(api.Claim{Terms: l}) }

// With are d and e together.
func (d Data) With(e Data) Data {
	return Data{
		Pairs:   slices.Concat(d.Pairs, e.Pairs),
		Claims:  slices.Concat(d.Claims, e.Claims),
		Signs:   slices.Concat(d.Signs, e.Signs),
		Vars:    slices.Concat(d.Vars, e.Vars),
		Names:   slices.Concat(d.Names, e.Names),
		Clauses: slices.Concat(d.Clauses, e.Clauses),
		Values:  slices.Concat(d.Values, e.Values),
		Sets:    slices.Concat(d.Sets, e.Sets),
	}
}

// Equal tells whether d and e are the same in everything; an empty list may be nil.
func (d Data) Equal(e Data) bool {
	return slices.EqualFunc(d.Pairs, e.Pairs, EqualPairs) && slices.EqualFunc(d.Claims, e.Claims, EqualClaims) &&
		slices.EqualFunc(d.Signs, e.Signs, EqualSigns) && slices.EqualFunc(d.Vars, e.Vars, slices.Equal) && slices.EqualFunc(d.Names, e.Names, slices.Equal) &&
		slices.EqualFunc(d.Clauses, e.Clauses, slices.Equal) && slices.EqualFunc(d.Values, e.Values, slices.Equal) &&
		slices.EqualFunc(d.Sets, e.Sets, EqualSets)
}

// Text is d without most of what is long, and of what are many.
func (d Data) Text() string {
	lists := slices.Concat(twins(d.Pairs, PairsText), twins(d.Signs, SignText), twins(d.Vars, VarsText), twins(d.Names, NamesText), twins(d.Clauses, ClauseText), twins(d.Values, ValuesText), twins(d.Sets, SetText))
	s := ""
	for _, l := range lists[:min(len(lists), 20)] {
		s += "[" + l + "] "
	}
	if n := len(lists) - 20; n > 0 {
		s += "and " + strconv.Itoa(n) + " more "
	}
	return s + ClaimTexts(d.Claims)
}

// Changed calls f and tells what became of d if f changed it, be it from nil to an empty list; nothing if f did not.
func (d Data) Changed(f func()) string {
	before := d.twin()
	f()
	return difference(before.Pairs, d.Pairs, identicalPairs, PairsText) +
		difference(before.Claims, d.Claims, identicalClaims, ClaimText) +
		difference(before.Signs, d.Signs, identicalSigns, SignText) +
		difference(before.Vars, d.Vars, identicalElements, VarsText) +
		difference(before.Names, d.Names, identicalElements, NamesText) +
		difference(before.Clauses, d.Clauses, identicalElements, ClauseText) +
		difference(before.Values, d.Values, identicalElements, ValuesText) +
		difference(before.Sets, d.Sets, identicalSets, SetText)
}

// Shares tells whether a list of d shares memory with another one of d or with one of the arguments, be it behind its end.
func (d Data) Shares(arguments Data) bool {
	m := memory{
		terms: map[*api.Term]bool{}, claims: map[*api.Claim]bool{}, pairs: map[*api.Pair]bool{},
		funs: map[*api.Fun]bool{}, vars: map[*api.Var]bool{}, names: map[*string]bool{},
		numbers: map[*int]bool{}, values: map[*bool]bool{}, clauses: map[*[]int]bool{},
	}
	m.noteData(arguments)
	m.twice = false
	m.noteData(d)
	return m.twice
}

// noteData takes the places of the lists of d.
func (m *memory) noteData(d Data) {
	for _, l := range d.Pairs {
		m.notePairs(l)
	}
	m.noteClaims(d.Claims)
	for _, s := range d.Signs {
		m.noteSign(s)
	}
	for _, l := range d.Vars {
		m.twice = taken(m.vars, l) || m.twice
	}
	for _, l := range d.Names {
		m.twice = taken(m.names, l) || m.twice
	}
	for _, l := range d.Clauses {
		m.twice = taken(m.numbers, l) || m.twice
	}
	for _, l := range d.Values {
		m.twice = taken(m.values, l) || m.twice
	}
	for _, c := range d.Sets {
		m.noteSet(c)
	}
}

// Wrong tells what is wrong with a call that is to make want of the arguments: another answer, changed arguments or shared memory; nothing if all is well.
func Wrong(call func() Data, want, arguments Data) string {
	var got Data
	said := arguments.Changed(func() { got = call() })
	switch {
	case said != "":
		return said
	case !got.Equal(want):
		return arguments.Text() + " give " + got.Text() + "; want " + want.Text()
	case got.Shares(arguments):
		return arguments.Text() + " share memory with " + got.Text()
	}
	return ""
}

// WrongBy is Wrong of a call with names, which may stand in any order and more than once; it also tells whether the call changed them.
func WrongBy(call func(names []string) Data, want, arguments Data, names []string) string {
	back := slices.Clone(names)
	slices.Reverse(back)
	for _, l := range [][]string{names, append(back, names...)} {
		before := slices.Clone(l)
		said := Wrong(func() Data { return call(l) }, want, arguments)
		if said == "" && !slices.Equal(l, before) {
			said = "changed names"
		}
		if said != "" {
			return said + " by " + strings.Join(twins(before[:min(len(before), 6)], quoted), " ")
		}
	}
	return ""
}

// twin is d in new memory.
func (d Data) twin() Data {
	return Data{
		Pairs:   twins(d.Pairs, TwinPairs),
		Claims:  twins(d.Claims, TwinClaim),
		Signs:   twins(d.Signs, TwinSign),
		Vars:    twins(d.Vars, twinElements),
		Names:   twins(d.Names, twinElements),
		Clauses: twins(d.Clauses, twinElements),
		Values:  twins(d.Values, twinElements),
		Sets:    twins(d.Sets, TwinSet),
	}
}

// Spoil changes all lists of d.
func (d Data) Spoil() {
	for _, l := range d.Pairs {
		SpoilPairs(l)
	}
	for _, c := range d.Claims {
		SpoilClaim(c)
	}
	for _, s := range d.Signs {
		SpoilSign(s)
	}
	for _, l := range d.Vars {
		SpoilVars(l)
	}
	for _, l := range d.Names {
		SpoilNames(l)
	}
	for _, l := range d.Clauses {
		SpoilClause(l)
	}
	for _, l := range d.Values {
		SpoilValues(l)
	}
	for _, c := range d.Sets {
		SpoilSet(c)
	}
}

// Tied tells whether a changed answer of the call changes its next one, or changed arguments an answer that was there; nothing if neither does.
// The arguments are spoilt then.
func Tied(call func() Data, arguments Data) string {
	got := call()
	want := got.twin()
	got.Spoil()
	if again := call(); !again.Equal(want) {
		return "a changed answer changed the next one to " + again.Text()
	}
	kept := call()
	arguments.Spoil()
	if !kept.Equal(want) {
		return "a changed argument changed " + kept.Text()
	}
	return ""
}

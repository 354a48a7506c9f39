package tree

import (
	"cmp"
	"slices"
	"strings"
	"testing"

	"sequitur/api"
)

// node is a tree for the tests.
type node struct {
	name  string
	parts []node
}

func parts(n node) []node { return n.parts }

func of(name string, l ...node) node { return node{name, l} }

// names are the names of all parts that come before the one with the name last.
func names(n node, last string) string {
	var b strings.Builder
	for p := range All(n, parts) {
		if p.name == last {
			break
		}
		b.WriteString(p.name)
	}
	return b.String()
}

func TestAll(t *testing.T) {
	whole := of("a", of("b", of("c"), of("d", of("e"))), of("f"), of("b", of("c")))
	for last, want := range map[string]string{"": "abcdefbc", "a": "", "b": "a", "c": "ab", "e": "abcd", "f": "abcde"} {
		if got := names(whole, last); got != want {
			t.Errorf("up to %q: %q; want %q", last, got, want)
		}
	}
	if got := names(of("a"), ""); got != "a" {
		t.Error(got)
	}
}

// chain is n levels deep, with one part a level.
func chain(n int) node {
	x := of("x")
	for range n - 1 {
		x = of("f", x)
	}
	return x
}

func TestDepth(t *testing.T) {
	wide := make([]node, 5000)
	for n, want := range map[int]int{1: 1, 2: 2, 63: 63, 64: 64, 65: 65, 66: 65, 1000: 65, 5000: 65, 1 << 16: 65} {
		if got := Depth(chain(n), parts); got != want {
			t.Errorf("a chain of %d: %d", n, got)
		}
		for _, i := range []int{0, 2500, 4999} {
			l := slices.Clone(wide)
			l[i] = chain(n)
			if got := Depth(of("w", l...), parts); got != min(want+1, 65) {
				t.Errorf("a chain of %d at the place %d: %d", n, i, got)
			}
		}
	}
	if api.MaxDepth != 64 || api.MaxSize != 4096 {
		t.Error(api.MaxDepth, api.MaxSize)
	}
}

// What shares its parts in memory is as deep as if it did not.
func TestDepthOfSharedParts(t *testing.T) {
	x := of("x")
	for d := 2; d <= 70; d++ {
		x = of("f", x, x)
		if got := Depth(x, parts); got != min(d, 65) {
			t.Errorf("depth %d: %d", d, got)
		}
	}
	both := []node{chain(1), chain(50)}
	few, more := node{"f", both[:1]}, node{"f", both}
	for _, l := range [][]node{{few, more}, {more, few}, {few, few, more, few, more}} {
		if got := Depth(of("g", append(make([]node, 5000), l...)...), parts); got != 52 {
			t.Error(got)
		}
	}
	within := make([]node, 1)
	within[0] = node{"f", within}
	if got := Depth(within[0], parts); got != 65 {
		t.Error(got)
	}
}

func byName(a, b node) int { return cmp.Compare(a.name, b.name) }

func TestFirsts(t *testing.T) {
	l := []node{of("b"), of("a", of("x")), of("b", of("y")), of("c"), of("a"), of("c", of("z"))}
	got := Firsts(l, byName)
	if len(got) != 3 || got[0].name != "b" || len(got[0].parts) != 0 || got[1].name != "a" || len(got[1].parts) != 1 || got[2].name != "c" || len(got[2].parts) != 0 {
		t.Error(got)
	}
	if got := Firsts(nil, byName); len(got) != 0 {
		t.Error(got)
	}
	var many, want []int
	for i := range 20000 {
		many = append(many, i*7919%20000, i/2*7919%20000)
		want = append(want, i*7919%20000)
	}
	before := slices.Clone(many)
	if got := Firsts(many, cmp.Compare[int]); !slices.Equal(got, want) || !slices.Equal(many, before) {
		t.Error(len(got))
	}
}

func TestMapped(t *testing.T) {
	l := []string{"a", "bcd", ""}
	if got := Mapped(l, func(s string) int { return len(s) }); !slices.Equal(got, []int{1, 3, 0}) {
		t.Error(got)
	}
	got := Mapped(l, strings.ToUpper)
	if got[0] = "x"; l[0] != "a" || got[1] != "BCD" {
		t.Error(l, got)
	}
	for _, none := range [][]string{nil, {}} {
		if got := Mapped(none, strings.ToUpper); got != nil {
			t.Error(got)
		}
	}
}

package sample

import (
	"regexp"
	"slices"
	"testing"
)

var nameRule = regexp.MustCompile(`^[A-Za-z_][A-Za-z0-9_']{0,31}$`)

// named is Named by an expression.
func named(s string) bool { return nameRule.MatchString(s) && !slices.Contains(Words(), s) }

func TestNames(t *testing.T) {
	seen := map[string]bool{}
	for i, s := range append(Names(), NoNames()...) {
		if want := i < len(Names()); Named(s) != want || named(s) != want || seen[s] {
			t.Error(i, quoted(s), Named(s), named(s), seen[s])
		}
		seen[s] = true
	}
	for _, s := range append(Words(), "Bool", "Int", "") {
		if !seen[s] {
			t.Error(s)
		}
	}
	if n := len(Words()); n != 34 {
		t.Error(n, "words")
	}
}

func TestNamed(t *testing.T) {
	for b := range 256 {
		c := string([]byte{byte(b)})
		for _, s := range []string{c, c + "f", "f" + c, "f" + c + "f", c + c, "tru" + c, "qed" + c} {
			if Named(s) != named(s) {
				t.Error(quoted(s), Named(s))
			}
		}
	}
}

package sample

import (
	"slices"
	"strings"

	"sequitur/api"
)

// Words are the reserved names, as chapter 3 has them.
func Words() []string {
	return strings.Fields("true false sort fun pred axiom theorem proof qed as back intro split left right exact assume apply witness cases have contra refl swap prop arith mixed auto congr try loop each skip fail")
}

// Names are names but words, all different; Bool and Int are among them.
func Names() []string {
	return []string{
		"f", "F", "z", "Z", "_", "__", "_0", "f1", "f_1", "f'", "f''1'", "_'", "aZ09_'", "open", "hyp", "of", "Sort", "TRUE", "sorts", "tru", "Fail", "qed'",
		"Bool", "Int", "bool", "int", "BOOL", "INT", "Bools", "Bool'", "Int'", "xInt", "_Bool",
		strings.Repeat("a", 31), strings.Repeat("a", 32), "_" + strings.Repeat("'", 31), "f" + strings.Repeat("0", 31),
	}
}

// NoNames are words and texts that are no names, all different.
func NoNames() []string {
	return append(Words(), "", " ", "\n", "1", "1f", "007", "'", "'f", "f g", " f", "f ", "f\n", "\tf", "f#", "#f", "f.g", "f,", "(f)", "-", "->", "$", "f$", "f-g", "\x00", "f\x00", "\x7f", "f\x7f", "\x80", "f\xff",
		"\xff\xfe", "ä", "fä", "é'", "f²", "x٣", "∀", "\u00a0", "f\u00a0", "\ufefff", "true ", " sort", "Bool ", " Int", "Int\n", "Bool\x00",
		strings.Repeat("a", 33), "_"+strings.Repeat("'", 32), strings.Repeat("a", 32)+" ", strings.Repeat("a", 32)+"ä", strings.Repeat("f", api.MaxText), strings.Repeat("f", api.MaxText+1))
}

// Named tells whether s is a name and no word.
func Named(s string) bool {
	const head = "ABCDEFGHIJKLMNOPQRSTUVWXYZabcdefghijklmnopqrstuvwxyz_"
	if s == "" || len(s) > 32 || !strings.Contains(head, s[:1]) {
		return false
	}
	return strings.Trim(s, head+"0123456789'") == "" && !slices.Contains(Words(), s)
}

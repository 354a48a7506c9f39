package sample

import (
	"strconv"
	"strings"

	"sequitur/api"
)

// most is how many bytes of a text are enough for a message.
const most = 200

// TermText is t in every field, without most of a long term.
func TermText(t api.Term) string {
	var b strings.Builder
	writeTerm(&b, t)
	return b.String()
}

// ClaimText is c in every field, without most of a long claim.
func ClaimText(c api.Claim) string {
	var b strings.Builder
	writeClaim(&b, c)
	return b.String()
}

// PairsText are the first pairs of l, and how many there are.
func PairsText(l []api.Pair) string {
	return texts("pairs", l, func(p api.Pair) string { return quoted(p.Name) + " := " + TermText(p.Term) })
}

// TermTexts are the first terms of l, and how many there are.
func TermTexts(l []api.Term) string { return texts("terms", l, TermText) }

// ClaimTexts are the first claims of l, and how many there are.
func ClaimTexts(l []api.Claim) string { return texts("claims", l, ClaimText) }

func texts[T any](what string, l []T, text func(T) string) string {
	var s []string
	for _, x := range l[:min(len(l), 6)] {
		s = append(s, text(x))
	}
	return strconv.Itoa(len(l)) + " " + what + ": " + strings.Join(s, ", ")
}

func writeTerm(b *strings.Builder, t api.Term) {
	if b.Len() > most {
		return
	}
	b.WriteString("<" + strconv.Itoa(t.Op) + ":" + quoted(t.Name) + ":" + strconv.FormatInt(t.Num, 10))
	for _, a := range t.Args {
		writeTerm(b, a)
	}
	b.WriteString(">")
}

func writeClaim(b *strings.Builder, c api.Claim) {
	if b.Len() > most {
		return
	}
	b.WriteString("(" + strconv.Itoa(c.Op) + ":" + quoted(c.Name) + ":" + quoted(c.Sort))
	for _, t := range c.Terms {
		writeTerm(b, t)
	}
	for _, s := range c.Subs {
		writeClaim(b, s)
	}
	b.WriteString(")")
}

// quoted is the beginning of s in quotes.
func quoted(s string) string { return strconv.Quote(s[:min(len(s), 20)]) }

package token

import (
	"regexp"
	"slices"
	"strings"
	"testing"

	"sequitur/api"
	"sequitur/sample"
)

// The signs of the chapter, written out once more as it has them.
const allSigns = `( ) [ ] { } , . : ; = := <= < >= > + - * ~ & | -> <-> |- ! ?`

func signs() []string { return strings.Fields(allSigns) }

// What the chapter says of tokens, as expressions. A sign is longer than what it begins with, so the longer ones stand first.
var (
	blankRule = regexp.MustCompile(`^(?:[\x09\x0a\x0d\x20]|#[^\x0a]*)*`)
	nameRule  = regexp.MustCompile(`^[A-Za-z_][A-Za-z0-9_']*`)
	numRule   = regexp.MustCompile(`^[0-9]+`)
	signRule  = regexp.MustCompile(`^(?:<->|:=|<=|>=|->|\|-|[()\[\]{},.:;=<>+*~&|!?-])`)
)

// answer is what Of answers.
type answer struct {
	l  []api.Token
	at int
	e  api.Errno
}

func of(s string) answer {
	l, at, e := Of(s)
	return answer{l, at, e}
}

func (a answer) same(b answer) bool {
	return slices.Equal(a.l, b.l) && a.at == b.at && a.e == b.e
}

// expected finds by the rules above what Of must answer.
func expected(s string) answer {
	if len(s) > api.MaxText {
		return answer{e: api.ErrLong}
	}
	var l []api.Token
	for at := len(blankRule.FindString(s)); at < len(s); at += len(blankRule.FindString(s[at:])) {
		t := api.Token{At: at}
		for kind, rule := range map[int]*regexp.Regexp{api.KName: nameRule, api.KNum: numRule, api.KSign: signRule} {
			if found := rule.FindString(s[at:]); found != "" {
				t.Kind, t.Text = kind, found
			}
		}
		if t.Kind == 0 {
			return answer{at: at, e: api.ErrForm}
		}
		if t.Kind == api.KName && len(t.Text) > api.MaxName {
			return answer{at: at, e: api.ErrLong}
		}
		l = append(l, t)
		at += len(t.Text)
	}
	return answer{l: l}
}

func checkOf(t *testing.T, s string, want answer) {
	t.Helper()
	if got := of(s); !got.same(want) {
		t.Errorf("Of(%q) is %v; want %v", s, got, want)
	}
}

// checkTokens holds the tokens of s against texts; all of them have the kind.
func checkTokens(t *testing.T, s string, kind int, texts ...string) {
	t.Helper()
	l, at, e := Of(s)
	if at != 0 || e != api.OK || len(l) != len(texts) {
		t.Errorf("Of(%q) is %v, %d, %d; want %q", s, l, at, e, texts)
		return
	}
	for i, x := range l {
		if x.Kind != kind || x.Text != texts[i] {
			t.Errorf("token %d of %q is %v; want %q of kind %d", i, s, x, texts[i], kind)
		}
	}
}

// each calls f with all texts of up to most of the parts.
func each(most int, parts []string, f func(s string)) {
	l := []string{""}
	for ; most > 0; most-- {
		var next []string
		for _, s := range l {
			for _, p := range parts {
				next = append(next, s+p)
			}
		}
		for _, s := range next {
			f(s)
		}
		l = next
	}
}

// scattered calls f with longer texts whose parts a fixed rule picks.
func scattered(f func(s string)) {
	parts := append(signs(), sample.Words()...)
	parts = append(parts, " ", " ", "\n", "\n", "\t", "\r", "#", "# a b\n", "#$\n", "x", "y'", "_", "h12", "A", "0", "07", "99999999999999999999",
		strings.Repeat("n", 31), strings.Repeat("n", 32), "'", "$", "\x00", "\xc3", "ä", "\f")
	x := uint64(88172645463325252)
	for i := range 6000 {
		var b strings.Builder
		for range i % 60 {
			x ^= x << 13
			x ^= x >> 7
			x ^= x << 17
			// The last parts are mostly errors: they are rare, so that texts of any length are without one.
			n := int(x>>20) % len(parts)
			if n >= len(parts)-6 && x>>50%8 != 0 {
				n = 0
			}
			b.WriteString(parts[n])
		}
		f(b.String())
	}
}

// someTexts calls f with short texts of all kinds, and with longer ones.
func someTexts(f func(s string)) {
	f("")
	each(4, []string{"a", "Z", "_", "0", "7", "'", "<", "-", ">", "=", ":", "|", " ", "#", "\n", "$", "\xc3"}, f)
	each(6, []string{"<", "-", ">", "=", ":", "|"}, f)
	each(7, []string{"a", "0", "'", "#", "\n"}, f)
	scattered(f)
}

// Promise 3.1.

func TestOf(t *testing.T) {
	checkOf(t, "f(x3, 07)<->#end", answer{l: []api.Token{
		{Kind: api.KName, Text: "f", At: 0}, {Kind: api.KSign, Text: "(", At: 1}, {Kind: api.KName, Text: "x3", At: 2}, {Kind: api.KSign, Text: ",", At: 4},
		{Kind: api.KNum, Text: "07", At: 6}, {Kind: api.KSign, Text: ")", At: 8}, {Kind: api.KSign, Text: "<->", At: 9},
	}})
	checkOf(t, "\t!x':Int.-3*x'<=y # so\r it is\n&true", answer{l: []api.Token{
		{Kind: api.KSign, Text: "!", At: 1}, {Kind: api.KName, Text: "x'", At: 2}, {Kind: api.KSign, Text: ":", At: 4}, {Kind: api.KName, Text: "Int", At: 5},
		{Kind: api.KSign, Text: ".", At: 8}, {Kind: api.KSign, Text: "-", At: 9}, {Kind: api.KNum, Text: "3", At: 10}, {Kind: api.KSign, Text: "*", At: 11},
		{Kind: api.KName, Text: "x'", At: 12}, {Kind: api.KSign, Text: "<=", At: 14}, {Kind: api.KName, Text: "y", At: 16},
		{Kind: api.KSign, Text: "&", At: 30}, {Kind: api.KName, Text: "true", At: 31},
	}})
	checkOf(t, "a $", answer{at: 2, e: api.ErrForm})
}

func TestNamesAndNumbers(t *testing.T) {
	for _, s := range []string{"a", "z", "A", "Z", "_", "__", "x1", "x_1", "x'", "x''1'", "_'", "_0", "aZ09_'", "sort", "qed", "Bool", strings.Repeat("a", 32), "_" + strings.Repeat("'", 31)} {
		checkTokens(t, s, api.KName, s)
	}
	for _, s := range []string{"0", "9", "00", "007", "1234567890", "9223372036854775808", strings.Repeat("0", 33), strings.Repeat("9", 1000), strings.Repeat("5", api.MaxText)} {
		checkTokens(t, s, api.KNum, s)
	}
	num, name, minus := api.Token{Kind: api.KNum, Text: "12"}, api.Token{Kind: api.KName, Text: "a1_'", At: 2}, api.Token{Kind: api.KSign, Text: "-", At: 6}
	checkOf(t, "12a1_'-", answer{l: []api.Token{num, name, minus}})
	checkTokens(t, "1 2\n03", api.KNum, "1", "2", "03")
	checkTokens(t, "a b' c", api.KName, "a", "b'", "c")
}

func TestEverySign(t *testing.T) {
	for _, s := range signs() {
		checkTokens(t, s, api.KSign, s)
		for _, around := range []string{" ", "\t", "\r", "\n", "# <->\n"} {
			checkOf(t, around+s+around, answer{l: []api.Token{{Kind: api.KSign, Text: s, At: len(around)}}})
		}
		checkOf(t, "a"+s+"0", answer{l: []api.Token{{Kind: api.KName, Text: "a"}, {Kind: api.KSign, Text: s, At: 1}, {Kind: api.KNum, Text: "0", At: 1 + len(s)}}})
	}
}

func TestTheLongestSign(t *testing.T) {
	for _, x := range []struct{ s, want string }{
		{":", ":"}, {":=", ":="}, {"::=", ": :="}, {":==", ":= ="}, {": =", ": ="}, {":-", ": -"}, {":=:", ":= :"},
		{"<", "<"}, {"<=", "<="}, {"<->", "<->"}, {"<-", "< -"}, {"<<->", "< <->"}, {"<<=", "< <="}, {"<=>", "<= >"}, {"<=->", "<= ->"}, {"<-->", "< - ->"}, {"< ->", "< ->"},
		{"<- >", "< - >"}, {"<->=", "<-> ="}, {"<->>", "<-> >"}, {"<-=", "< - ="}, {"<>", "< >"}, {"<-|", "< - |"}, {"<-<->", "< - <->"},
		{">", ">"}, {">=", ">="}, {">>=", "> >="}, {">==", ">= ="}, {"> =", "> ="}, {">-", "> -"}, {"=>", "= >"}, {"=<", "= <"}, {"==", "= ="}, {"=:=", "= :="},
		{"-", "-"}, {"->", "->"}, {"--", "- -"}, {"-->", "- ->"}, {"->>", "-> >"}, {"->=", "-> ="}, {"- >", "- >"}, {"-=", "- ="}, {"-|", "- |"},
		{"|", "|"}, {"|-", "|-"}, {"||", "| |"}, {"||-", "| |-"}, {"|->", "|- >"}, {"|-->", "|- ->"}, {"| -", "| -"}, {"|=", "| ="}, {"|<->", "| <->"}, {"|-|-", "|- |-"},
		{"!=", "! ="}, {"?:", "? :"}, {"...", ". . ."}, {"()[]{}", "( ) [ ] { }"}, {"~~", "~ ~"}, {"&&", "& &"}, {"+-*", "+ - *"},
	} {
		checkTokens(t, x.s, api.KSign, strings.Fields(x.want)...)
	}
}

// Two signs with nothing between them are read anew from their first byte: the longest sign, and then what is left.
func TestPairsOfSigns(t *testing.T) {
	for _, a := range signs() {
		for _, b := range signs() {
			s, texts := a+b, []string{}
			for rest := s; rest != ""; {
				longest := ""
				for _, x := range signs() {
					if strings.HasPrefix(rest, x) && len(x) > len(longest) {
						longest = x
					}
				}
				texts, rest = append(texts, longest), rest[len(longest):]
			}
			checkTokens(t, s, api.KSign, texts...)
			checkTokens(t, a+" "+b, api.KSign, a, b)
		}
	}
}

func TestBlanks(t *testing.T) {
	for _, s := range []string{
		"", " ", "\t", "\n", "\r", " \t\r\n ", "#", "##", "# $", " # $", "#\n", "# a b c", "# a\n# 'b\n\n", "#\x00\xff\n", "\n#", "# a\r# b", "#\r$", "#ä", "# a\n ",
		strings.Repeat(" ", api.MaxText), strings.Repeat("#", api.MaxText), strings.Repeat("#\n", api.MaxText/2), "#" + strings.Repeat("a", api.MaxText-1),
	} {
		checkOf(t, s, answer{})
	}
	for _, x := range []struct {
		s  string
		at int
	}{{"# b\na", 4}, {"#a\n#a\n\ta#a", 7}, {"\r\n\t a ", 4}, {"#\na#", 2}, {"#$\xff\x00'\n a", 7}, {"# b\r c\n\na\n", 8}, {"##\n##\na ##", 6}} {
		checkOf(t, x.s, answer{l: []api.Token{{Kind: api.KName, Text: "a", At: x.at}}})
	}
	checkTokens(t, "a#b\nc", api.KName, "a", "c")
	checkTokens(t, "1#2\n3", api.KNum, "1", "3")
	checkTokens(t, "<#\n->", api.KSign, "<", "->")
}

func TestEveryByte(t *testing.T) {
	const plain = "()[]{},.:;=<>+-*~&|!?"
	for b := range 256 {
		s := string([]byte{byte(b)})
		want := answer{e: api.ErrForm}
		switch {
		case b == 9 || b == 10 || b == 13 || b == 32 || b == 35:
			want = answer{}
		case b >= 'A' && b <= 'Z' || b >= 'a' && b <= 'z' || b == '_':
			want = answer{l: []api.Token{{Kind: api.KName, Text: s}}}
		case b >= '0' && b <= '9':
			want = answer{l: []api.Token{{Kind: api.KNum, Text: s}}}
		case b < 128 && strings.Contains(plain, s):
			want = answer{l: []api.Token{{Kind: api.KSign, Text: s}}}
		}
		checkOf(t, s, want)
		if want.e == api.ErrForm {
			checkOf(t, "( "+s, answer{at: 2, e: api.ErrForm})
			checkOf(t, "1"+s+"$", answer{at: 1, e: api.ErrForm})
			checkOf(t, "# "+s, answer{})
		}
	}
}

func TestWrongBytes(t *testing.T) {
	for _, x := range []struct {
		s  string
		at int
	}{
		{"$", 0}, {"a % b", 2}, {"'", 0}, {"'a", 0}, {"a 'b", 2}, {"1'", 1}, {"x'1 2'", 5}, {"('", 1}, {"|'", 1}, {"|-'", 2}, {"-'", 1}, {"<-'", 2}, {"# c\n'", 4}, {"a\n\n\t'", 4},
		{"a\xc3", 1}, {"aä", 1}, {"ä", 0}, {"a²", 1}, {"x٣", 1}, {"1１", 1}, {"a\u00a0b", 1}, {"\ufeffa", 0}, {"a \x00", 2}, {"a\x00", 1}, {"a\x0b", 1}, {"a\fb", 1}, {"a\x7f", 1}, {"a\x85", 1},
		{"a¬b", 1}, {"a→b", 1}, {"∀x", 0}, {"\"a\"", 0}, {"a@b", 1}, {"a^b", 1}, {"a`", 1}, {"\\", 0}, {"a/b", 1}, {"a % $ '", 2}, {"<->$<->%", 3},
	} {
		checkOf(t, x.s, answer{at: x.at, e: api.ErrForm})
	}
}

func TestLongNames(t *testing.T) {
	most, over := strings.Repeat("a", api.MaxName), strings.Repeat("a", api.MaxName+1)
	checkTokens(t, most, api.KName, most)
	checkTokens(t, most+"#a", api.KName, most)
	checkTokens(t, most+" "+most, api.KName, most, most)
	for _, x := range []struct {
		s  string
		at int
	}{
		{over, 0}, {" " + over, 1}, {"b " + over, 2}, {most + " " + over, 33}, {"1" + over, 1}, {"(" + over + ")", 1}, {"# c\n" + over, 4}, {most + "0", 0}, {most + "'", 0}, {most + "_", 0},
		{"_" + strings.Repeat("'", 32), 0}, {"A" + strings.Repeat("0", 32), 0}, {strings.Repeat("a", api.MaxText), 0}, {"12 " + strings.Repeat("_", 5000), 3},
	} {
		checkOf(t, x.s, answer{at: x.at, e: api.ErrLong})
	}
	checkOf(t, "0"+most, answer{l: []api.Token{{Kind: api.KNum, Text: "0"}, {Kind: api.KName, Text: most, At: 1}}})
}

func TestTheFirstErrorCounts(t *testing.T) {
	over := strings.Repeat("a", api.MaxName+1)
	checkOf(t, over+"$", answer{at: 0, e: api.ErrLong})
	checkOf(t, "b "+over+" $", answer{at: 2, e: api.ErrLong})
	checkOf(t, "b "+over+"\xff", answer{at: 2, e: api.ErrLong})
	checkOf(t, "b $ "+over, answer{at: 2, e: api.ErrForm})
	checkOf(t, "b $"+over, answer{at: 2, e: api.ErrForm})
	checkOf(t, "'"+over, answer{at: 0, e: api.ErrForm})
	checkOf(t, over+" "+over+"b", answer{at: 0, e: api.ErrLong})
	checkOf(t, "# $ "+over+"\n( % "+over, answer{at: 40, e: api.ErrForm})
}

func TestLongTexts(t *testing.T) {
	for _, part := range []string{" ", "\n", "#", "(", "7", "a ", "<->", "$", "'", "a"} {
		s := strings.Repeat(part, api.MaxText)
		checkOf(t, s[:api.MaxText], expected(s[:api.MaxText]))
		checkOf(t, s[:api.MaxText]+" ", answer{e: api.ErrLong})
		checkOf(t, " "+s[:api.MaxText], answer{e: api.ErrLong})
		checkOf(t, s[:api.MaxText]+"#", answer{e: api.ErrLong})
		checkOf(t, strings.Repeat(s, 20), answer{e: api.ErrLong})
	}
	l, at, e := Of(strings.Repeat("?", api.MaxText))
	if len(l) != api.MaxText || at != 0 || e != api.OK || l[api.MaxText-1].At != api.MaxText-1 {
		t.Error(len(l), at, e)
	}
	checkOf(t, strings.Repeat(" ", api.MaxText-1)+"$", answer{at: api.MaxText - 1, e: api.ErrForm})
	checkOf(t, "$"+strings.Repeat(" ", api.MaxText), answer{e: api.ErrLong})
}

func TestOfFollowsTheRules(t *testing.T) {
	errors := map[api.Errno]int{}
	someTexts(func(s string) {
		want := expected(s)
		errors[want.e]++
		checkOf(t, s, want)
	})
	if errors[api.OK] < 10000 || errors[api.ErrForm] < 10000 || errors[api.ErrLong] < 100 {
		t.Error("too few texts of a kind:", errors)
	}
}

func TestOfAnswersAnew(t *testing.T) {
	const s = "f(x3, 07)<->#end"
	want := expected(s)
	l, _, _ := Of(s)
	for i := range l {
		l[i] = api.Token{Kind: 9, Text: "spoilt", At: -1}
	}
	checkOf(t, s, want)
}

// Promise 3.2.

func TestText(t *testing.T) {
	for _, x := range []struct {
		texts []string
		want  string
	}{
		{nil, ""}, {[]string{}, ""}, {[]string{""}, ""}, {[]string{"", ""}, " "}, {[]string{"", "", ""}, "  "}, {[]string{"a"}, "a"}, {[]string{"a", "", "b"}, "a  b"},
		{[]string{"<-", ">"}, "<- >"}, {[]string{" ", "#", "\n"}, "  # \n"}, {[]string{"\x00", "\xff", "ä$'"}, "\x00 \xff ä$'"}, {[]string{"007", "sort", "|-"}, "007 sort |-"},
	} {
		var l []api.Token
		for i, s := range x.texts {
			l = append(l, api.Token{Kind: i - 1, Text: s, At: 7 - i})
		}
		before := slices.Clone(l)
		if got := Text(l); got != x.want {
			t.Errorf("Text of %q is %q; want %q", x.texts, got, x.want)
		}
		if !slices.Equal(l, before) {
			t.Errorf("Text changed %q to %v", x.texts, l)
		}
	}
	l, _, _ := Of("f(x3, 07)<->#end")
	if got := Text(l); got != "f ( x3 , 07 ) <->" {
		t.Errorf("%q", got)
	}
	long := strings.Repeat("x", 2*api.MaxText)
	if got := Text([]api.Token{{Text: long}, {Text: long}}); got != long+" "+long {
		t.Error(len(got))
	}
}

func TestName(t *testing.T) {
	for _, s := range []string{"a", "z", "A", "Z", "_", "_x'", "x12", "x'1'", "h_", "__", "true", "sort", "Bool", strings.Repeat("a", 32), "_" + strings.Repeat("9", 31), "a" + strings.Repeat("'", 31)} {
		if !Name(s) {
			t.Errorf("%q is a name", s)
		}
	}
	for _, s := range []string{
		"", "1", "1a", "'", "'a", "a b", " a", "a ", "a\n", "\ta", "a#", "#a", "a#b", "a-b", "a.", "(a)", "a,b", "-", "|-", "$", "a$", "a\x00", "\x00", "a\xff", "ä", "aä", "é'", "a²", "x٣",
		strings.Repeat("a", 33), strings.Repeat("_", 33), strings.Repeat("a", 32) + " ", strings.Repeat("a", api.MaxText+1), " ", "\n", "@", "[", "`", "{", "a/", "a:",
	} {
		if Name(s) {
			t.Errorf("%q is no name", s)
		}
	}
}

// Every byte is tried as the first, the second and the last one of a name.
func TestNameKnowsItsBytes(t *testing.T) {
	for b := range 256 {
		c := string([]byte{byte(b)})
		head := b >= 'A' && b <= 'Z' || b >= 'a' && b <= 'z' || b == '_'
		tail := head || b >= '0' && b <= '9' || b == 39
		if Name(c) != head || Name(c+"a") != head || Name("a"+c) != tail || Name("a"+c+"a") != tail || Name("x"+strings.Repeat("a", 30)+c) != tail {
			t.Errorf("byte %d", b)
		}
	}
}

// A name is what is read as one name with nothing around it.
func TestNameIsOneToken(t *testing.T) {
	names := 0
	someTexts(func(s string) {
		l, _, e := Of(s)
		want := e == api.OK && len(l) == 1 && l[0] == api.Token{Kind: api.KName, Text: s}
		if want {
			names++
		}
		if Name(s) != want {
			t.Errorf("Name(%q) is %v", s, !want)
		}
	})
	if names < 1000 {
		t.Error("only", names, "names")
	}
}

func TestWord(t *testing.T) {
	words := sample.Words()
	if len(words) != 34 {
		t.Fatal(len(words))
	}
	for _, w := range words {
		if !Word(w) {
			t.Errorf("%q is a word", w)
		}
		near := []string{w + "s", w + "'", w + " ", " " + w, w + "\n", w + "#", "x" + w, w + "\x00", "_" + w, w + "0", w + w, strings.ToUpper(w), strings.ToUpper(w[:1]) + w[1:], w[1:], w[:len(w)-1]}
		for _, s := range near {
			if Word(s) != slices.Contains(words, s) {
				t.Errorf("Word(%q) is %v", s, Word(s))
			}
		}
	}
	for _, s := range []string{"", "open", "hyp", "Bool", "Int", "bool", "int", "thin", "of", "is", "in", "by", "rule", "goal", "lemma", "then", "else", "\xff", "ä", "(", "1", strings.Repeat("a", api.MaxText+1)} {
		if Word(s) {
			t.Errorf("%q is no word", s)
		}
	}
}

// Of all texts of up to four small letters only the listed ones are words.
func TestShortWords(t *testing.T) {
	letters := strings.Split("abcdefghijklmnopqrstuvwxyz", "")
	var got, want []string
	each(4, letters, func(s string) {
		if Word(s) {
			got = append(got, s)
		}
	})
	for _, w := range sample.Words() {
		if len(w) <= 4 {
			want = append(want, w)
		}
	}
	slices.Sort(got)
	slices.Sort(want)
	if !slices.Equal(got, want) {
		t.Errorf("%q; want %q", got, want)
	}
}

// Words are tokens as other names are.
func TestWordsAreNames(t *testing.T) {
	for _, w := range sample.Words() {
		if !Name(w) {
			t.Errorf("%q is a name", w)
		}
		checkTokens(t, w, api.KName, w)
	}
}

func TestSigns(t *testing.T) {
	got := Signs()
	if !slices.Equal(got, signs()) || len(got) != 27 {
		t.Errorf("%q", got)
	}
	for i := range got {
		got[i] = "$"
	}
	if !slices.Equal(Signs(), signs()) {
		t.Error("a changed answer changed the next one")
	}
	checkTokens(t, "<->$"[:3], api.KSign, "<->")
	checkOf(t, "<->$", answer{at: 3, e: api.ErrForm})
}

// Promise 3.3.

func TestTextHasTheSameTokens(t *testing.T) {
	read := 0
	someTexts(func(s string) {
		l, _, e := Of(s)
		if e != api.OK {
			return
		}
		if len(l) > 3 {
			read++
		}
		again, at, e := Of(Text(l))
		if at != 0 || e != api.OK || len(again) != len(l) {
			t.Errorf("%q: %v, then %v", s, l, again)
			return
		}
		for i := range l {
			if l[i].Kind != again[i].Kind || l[i].Text != again[i].Text {
				t.Errorf("%q: %v, then %v", s, l[i], again[i])
			}
		}
	})
	if read < 10000 {
		t.Error("only", read, "texts were read")
	}
}

// The spaces may make the text of the tokens longer than a text may be.
func TestTextMayBeTooLong(t *testing.T) {
	most := strings.Repeat("(", api.MaxText/2-1)
	for _, x := range []struct {
		s    string
		size int
	}{{most + "7", api.MaxText - 1}, {most + "77", api.MaxText}, {most + "777", api.MaxText + 1}, {most + "(7", api.MaxText + 1}} {
		l, _, e := Of(x.s)
		text := Text(l)
		if e != api.OK || len(text) != x.size {
			t.Fatal(len(text), e)
		}
		if len(text) > api.MaxText {
			checkOf(t, text, answer{e: api.ErrLong})
		} else if again, _, e := Of(text); e != api.OK || Text(again) != text || len(again) != len(l) {
			t.Error(len(again), e)
		}
	}
}

func TestOnlyBlanksBetweenTokens(t *testing.T) {
	someTexts(func(s string) {
		l, _, e := Of(s)
		if e != api.OK {
			return
		}
		end := 0
		for _, x := range append(l, api.Token{At: len(s)}) {
			if x.At < end || x.At+len(x.Text) > len(s) || s[x.At:x.At+len(x.Text)] != x.Text {
				t.Fatalf("%q: %v", s, x)
			}
			if gap := s[end:x.At]; blankRule.FindString(gap) != gap {
				t.Fatalf("%q: %q ahead of %v", s, gap, x)
			}
			end = x.At + len(x.Text)
		}
	})
}

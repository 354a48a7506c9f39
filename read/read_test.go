package read

import (
	"math"
	"slices"
	"strings"
	"testing"

	"sequitur/api"
	"sequitur/sample"
	"sequitur/token"
)

// Short names for what the tests are full of.
var (
	v, num, app, b      = sample.Var, sample.Num, sample.App, sample.Bound
	add, sub, neg, mul  = sample.Add, sample.Sub, sample.Neg, sample.Mul
	truth, falsity      = sample.True, sample.False
	p, eq, le, made     = sample.Pred, sample.Eq, sample.Le, sample.Made
	not, and, or, imp   = sample.Not, sample.And, sample.Or, sample.Imp
	iff, forAll, exists = sample.Iff, sample.All, sample.Ex
	withArgs, withTerms = sample.WithArgs, sample.WithTerms
	fn, sg, free        = sample.Fun, sample.Sign, sample.Free
)

const (
	least    = math.MinInt64
	greatest = math.MaxInt64
)

// times is s n times.
func times(n int, s string) string { return strings.Repeat(s, n) }

// tokens are those of a text, which may be longer than a text may be.
func tokens(s string) []api.Token {
	var all []api.Token
	at := 0
	for part := range strings.SplitAfterSeq(s, " ") {
		l, _, e := token.Of(part)
		if e != 0 {
			panic("no tokens: " + quoted(s))
		}
		for _, x := range l {
			x.At += at
			all = append(all, x)
		}
		at += len(part)
	}
	return all
}

// marked is a text without its mark ^, the offset of the mark, and the position of the token behind it.
func marked(s string) (text string, offset, at int) {
	before, after, _ := strings.Cut(s, "^")
	return before + after, len(before), len(tokens(before))
}

// Promise 15.1.

func TestTermAt(t *testing.T) {
	x, y, c := v("x"), v("y"), v("c")
	for s, want := range map[string]api.Term{
		"x": x, "x'": v("x'"), "Int": v("Int"), "f(x)": app("f", x), "g(x, 2, y)": app("g", x, num(2), y), "f(f(x))": app("f", app("f", x)), "f ( g ( x , c ) )": app("f", app("g", x, c)), "f((x))": app("f", x), "f(x + y, -x)": app("f", add(x, y), neg(x)),
		"0": num(0), "7": num(7), "-7": num(-7), "- 7": num(-7),
		"9223372036854775807": num(greatest), "-9223372036854775807": num(-greatest), "-9223372036854775808": num(least), "- 9223372036854775808": num(least),
		"-x": neg(x), "--x": neg(neg(x)), "- - x": neg(neg(x)), "-f(x)": neg(app("f", x)), "-(x)": neg(x), "-(3)": neg(num(3)), "-(-3)": neg(num(-3)), "--3": neg(num(-3)), "---3": neg(neg(num(-3))), "-(x + y)": neg(add(x, y)), "--9223372036854775808": neg(num(least)),
		"x + y": add(x, y), "x - y": sub(x, y), "x + y + c": add(add(x, y), c), "x - y - c": sub(sub(x, y), c), "x - y + c": add(sub(x, y), c), "x + y - c + x": add(sub(add(x, y), c), x), "x - (y - c)": sub(x, sub(y, c)), "(x - y) - c": sub(sub(x, y), c), "x + (y + c)": add(x, add(y, c)),
		"x - 3": sub(x, num(3)), "x-3": sub(x, num(3)), "x - -3": sub(x, num(-3)), "x--3": sub(x, num(-3)), "x - - y": sub(x, neg(y)), "-x - -y": sub(neg(x), neg(y)), "-3 - 3": sub(num(-3), num(3)), "3 - - - 3": sub(num(3), neg(num(-3))), "x + -y": add(x, neg(y)), "x - 9223372036854775807": sub(x, num(greatest)), "x - -9223372036854775808": sub(x, num(least)),
		"2 * x": mul(2, x), "x * 2": mul(2, x), "-2 * x": mul(-2, x), "x * -2": mul(-2, x), "0 * x": mul(0, x), "x * 0": mul(0, x), "(2) * x": mul(2, x), "x * (2)": mul(2, x), "((-2)) * (x)": mul(-2, x), "(x) * ((-2))": mul(-2, x), "2 * 3": mul(2, num(3)), "(2) * (-3)": mul(2, num(-3)), "-2 * -3": mul(-2, num(-3)), "2 * (3)": mul(2, num(3)), "2 * -x": mul(2, neg(x)), "-x * 2": mul(2, neg(x)), "-(3) * 2": mul(2, neg(num(3))), "2 * -(3)": mul(2, neg(num(3))), "--3 * 2": mul(2, neg(num(-3))), "f(x) * 2": mul(2, app("f", x)), "2 * (x + y)": mul(2, add(x, y)), "(x - y) * 2": mul(2, sub(x, y)), "2 * (3 * x)": mul(2, mul(3, x)), "(3 * x) * 2": mul(2, mul(3, x)), "(3 * 4) * 2": mul(2, mul(3, num(4))), "-9223372036854775808 * x": mul(least, x), "9223372036854775807 * 9223372036854775807": mul(greatest, num(greatest)),
		"2 * x + y * 3 - 4": sub(add(mul(2, x), mul(3, y)), num(4)), "x + 2 * y": add(x, mul(2, y)), "x - y * 2 - c": sub(sub(x, mul(2, y)), c), "-x * 2 + -2 * x": add(mul(2, neg(x)), mul(-2, x)),
		"(x)": x, "((x))": x, "((x + (y)))": add(x, y), "(f((x)))": app("f", x), "(2)": num(2), "(((-2)))": num(-2),
	} {
		l := tokens(s)
		checkTermAt(t, l, 0, want, len(l), 0)
		followTerm(t, l, 0)
	}
}

func TestRelations(t *testing.T) {
	x, y := v("x"), v("y")
	more := func(a api.Term) api.Term { return add(a, num(1)) }
	for s, want := range map[string]api.Claim{
		"x = y": eq(x, y), "x <= y": le(x, y), "x < y": le(more(x), y), "x > y": le(more(y), x), "x >= y": le(y, x),
		"x + y < 2 * x": le(more(add(x, y)), mul(2, x)), "x - y > -3": le(more(num(-3)), sub(x, y)), "-x >= 1 - y": le(sub(num(1), y), neg(x)), "1 < 2": le(more(num(1)), num(2)), "9223372036854775807 < x": le(more(num(greatest)), x), "x > 9223372036854775807": le(more(num(greatest)), x),
		"(x) = (y)": eq(x, y), "((x)) <= y": le(x, y), "(x + y) = y": eq(add(x, y), y), "(x) + y = y": eq(add(x, y), y), "(x + y) - y > y": le(more(y), sub(add(x, y), y)), "(x) * 2 = y": eq(mul(2, x), y), "(2) * x = y": eq(mul(2, x), y), "(f(x)) = y": eq(app("f", x), y), "f(x) = y": eq(app("f", x), y), "((x + 1) * 2 - y) <= 3": le(sub(mul(2, add(x, num(1))), y), num(3)),
		"-x = y": eq(neg(x), y), "-3 = x": eq(num(-3), x), "-(x) = y": eq(neg(x), y), "(-3) = x": eq(num(-3), x), "3 = 3": eq(num(3), num(3)),
	} {
		for _, whole := range []string{s, "(" + s + ")", "((" + s + "))"} {
			l := tokens(whole)
			checkClaimAt(t, l, 0, want, len(l), 0)
			followClaim(t, l, 0)
		}
	}
}

func TestConnectives(t *testing.T) {
	r, s, q := p("r"), p("s"), p("q")
	x := eq(v("x"), v("y"))
	for text, want := range map[string]api.Claim{
		"true": truth(), "false": falsity(), "r": r, "p(x)": p("p", v("x")), "p(x + 1, -y)": p("p", add(v("x"), num(1)), neg(v("y"))), "~r": not(r), "~~r": not(not(r)), "~ ~ ~ true": not(not(not(truth()))), "~x = y": not(x), "~false & r": and(not(falsity()), r),
		"r & s": and(r, s), "r | s": or(r, s), "r -> s": imp(r, s), "r <-> s": iff(r, s),
		"r & s & q": and(r, and(s, q)), "r | s | q": or(r, or(s, q)), "r -> s -> q": imp(r, imp(s, q)), "r <-> s <-> q": iff(r, iff(s, q)),
		"r & s | q": or(and(r, s), q), "r | s & q": or(r, and(s, q)), "r | s -> q": imp(or(r, s), q), "r -> s | q": imp(r, or(s, q)), "r -> s <-> q": iff(imp(r, s), q), "r <-> s -> q": iff(r, imp(s, q)),
		"r & s -> q": imp(and(r, s), q), "r -> s & q": imp(r, and(s, q)), "r & s <-> q": iff(and(r, s), q), "r <-> s & q": iff(r, and(s, q)), "r | s <-> q": iff(or(r, s), q), "r <-> s | q": iff(r, or(s, q)),
		"r & s | q -> r <-> s": iff(imp(or(and(r, s), q), r), s), "r <-> s -> q | r & s": iff(r, imp(s, or(q, and(r, s)))), "r & s | s & q | q": or(and(r, s), or(and(s, q), q)), "r -> s & q -> r | q": imp(r, imp(and(s, q), or(r, q))),
		"~r & s": and(not(r), s), "r & ~s": and(r, not(s)), "~r -> ~s": imp(not(r), not(s)), "~(r & s)": not(and(r, s)), "~(r) & s": and(not(r), s), "~x = y & r": and(not(x), r), "r & x = y": and(r, x), "x = y -> x = y": imp(x, x),
		"(r)": r, "((r))": r, "(r & s)": and(r, s), "(r & s) & q": and(and(r, s), q), "r & (s & q)": and(r, and(s, q)), "(r) & (s)": and(r, s), "(r -> s) -> q": imp(imp(r, s), q), "((r) <-> ((s)))": iff(r, s), "(true)": truth(), "(~r)": not(r), "((r | s) & q) -> r": imp(and(or(r, s), q), r), "(p(x))": p("p", v("x")), "(p((x))) & r": and(p("p", v("x")), r), "(x = y) & r": and(x, r), "(p(c)) & ~r": and(p("p", v("c")), not(r)),
	} {
		l := tokens(text)
		checkClaimAt(t, l, 0, want, len(l), 0)
		followClaim(t, l, 0)
	}
}

func TestBinders(t *testing.T) {
	r, s, u := p("r"), p("s"), b(0)
	for text, want := range map[string]api.Claim{
		"!x: A. r": forAll("x", "A", r), "?x: A. r": exists("x", "A", r), "!x: A. p(x)": forAll("x", "A", p("p", u)), "?y: Int. y = x": exists("y", "Int", eq(u, v("x"))),
		"!x: A, y: B. p(x, y)": forAll("x", "A", forAll("y", "B", p("p", b(1), u))), "?x: A, y: B, z: Int. p(z, y, x, w)": exists("x", "A", exists("y", "B", exists("z", "Int", p("p", u, b(1), b(2), v("w"))))), "!x: A. ?x: B. p(x)": forAll("x", "A", exists("x", "B", p("p", u))), "!x: A, x: B. p(x)": forAll("x", "A", forAll("x", "B", p("p", u))),
		"!x: A. (?x: B. p(x)) & q(x)": forAll("x", "A", and(exists("x", "B", p("p", u)), p("q", u))), "!x: A. (?y: B. p(x)) & q(x)": forAll("x", "A", and(exists("y", "B", p("p", b(1))), p("q", u))), "(!x: A. p(x)) & p(x)": and(forAll("x", "A", p("p", u)), p("p", v("x"))), "p(x) & !x: A. p(x)": and(p("p", v("x")), forAll("x", "A", p("p", u))),
		"!x: A. r & s": forAll("x", "A", and(r, s)), "!x: A. p(x) -> r": forAll("x", "A", imp(p("p", u), r)), "!x: A. r <-> s": forAll("x", "A", iff(r, s)), "r & !x: A. r <-> s": and(r, forAll("x", "A", iff(r, s))), "r & ?x: A. r & s | r": and(r, exists("x", "A", or(and(r, s), r))), "r -> !x: A. r": imp(r, forAll("x", "A", r)), "(!x: A. r) -> s": imp(forAll("x", "A", r), s), "(!x: A. r -> s)": forAll("x", "A", imp(r, s)), "~!x: A. r & s": not(forAll("x", "A", and(r, s))), "~(!x: A. r) & s": and(not(forAll("x", "A", r)), s), "!x: A. !y: A. r & s": forAll("x", "A", forAll("y", "A", and(r, s))), "!x: A. ~?y: A. r | s": forAll("x", "A", not(exists("y", "A", or(r, s)))), "r | ~?x: A. s -> r": or(r, not(exists("x", "A", imp(s, r)))),
		"!x: A. x = x": forAll("x", "A", eq(u, u)), "!x: A. (x) = x": forAll("x", "A", eq(u, u)), "!x: A. (x + 1) * 2 < x": forAll("x", "A", le(add(mul(2, add(u, num(1))), num(1)), u)), "!x: A. -x = 2 * x": forAll("x", "A", eq(neg(u), mul(2, u))), "!x: A. x(x)": forAll("x", "A", p("x", u)), "!x: A. (x(x))": forAll("x", "A", p("x", u)), "!x: A. x(x) = y": forAll("x", "A", eq(app("x", u), v("y"))), "!x: A. y": forAll("x", "A", p("y")), "(!x: A. r) & x": and(forAll("x", "A", r), p("x")),
		"!x: true. r": forAll("x", "true", r), "!x: qed, y: as. r": forAll("x", "qed", forAll("y", "as", r)), "!A: A. q(A)": forAll("A", "A", p("q", u)), "!Int: Int. Int = 1": forAll("Int", "Int", eq(u, num(1))),
	} {
		l := tokens(text)
		checkClaimAt(t, l, 0, want, len(l), 0)
		followClaim(t, l, 0)
	}
}

func TestVarAt(t *testing.T) {
	for s, want := range map[string]api.Var{"x: A": {Name: "x", Sort: "A"}, "x : Int": {Name: "x", Sort: "Int"}, "A: A": {Name: "A", Sort: "A"}, "x': true": {Name: "x'", Sort: "true"}, "y: qed": {Name: "y", Sort: "qed"}, "Bool: Bool": {Name: "Bool", Sort: "Bool"}} {
		for _, behind := range []string{"", ", y: B", ". r", " x", " 3", ": A", ")"} {
			checkVarAt(t, tokens(s+behind), 0, want, 3, 0)
			checkVarAt(t, tokens("! ( 1 "+s+behind), 3, want, 6, 0)
		}
	}
	for i, s := range []string{"", "x", "x :"} {
		checkVarAt(t, tokens(s), 0, api.Var{}, i, api.ErrEnd)
		checkVarAt(t, tokens("x: A, "+s), 4, api.Var{}, 4+i, api.ErrEnd)
		for _, behind := range allTokens() {
			x, end, e := wantVar(append(tokens(s), behind, behind), 0)
			checkVarAt(t, append(tokens(s), behind, behind), 0, x, end, e)
		}
	}
	for _, s := range append(sample.Words(), "x y", "1: A", "x = A", "x: 1", "x: (A)", "x := A", ": A", "(x): A") {
		l := tokens(s + " : A")
		x, end, e := wantVar(l, 0)
		checkVarAt(t, l, 0, x, end, e)
		if e != api.ErrForm {
			t.Error(quoted(s), e)
		}
	}
}

// The position may be any number.
func TestPositions(t *testing.T) {
	for _, l := range [][]api.Token{nil, {}, tokens("x"), tokens("x: A"), tokens("r & s"), tokens("x + 1 = 2 * y & f(x) = 3"), tokens("!x: A, y: B. p(x, y) -> ~(r | x = y)"), tokens("r -> r ] x: A")} {
		for _, at := range []int{least, -1 << 32, -len(l) - 1, -len(l), -2, -1, len(l), len(l) + 1, 2 * len(l), 1 << 31, 1 << 32, greatest} {
			if at < 0 || at >= len(l) {
				checkTermAt(t, l, at, api.Term{}, len(l), api.ErrEnd)
				checkClaimAt(t, l, at, api.Claim{}, len(l), api.ErrEnd)
				checkVarAt(t, l, at, api.Var{}, len(l), api.ErrEnd)
			}
		}
		for at := range l {
			followAll(t, l, at)
		}
	}
	// What is ahead of the position does not count, and offsets do not.
	for _, ahead := range []string{"~ ", "( ", "!x: A. ", "f(", "- ", "2 * ", "x + ", "r & ", "; ", "1 2 3 "} {
		l := tokens(ahead)
		n := len(l)
		l = append(l, tokens("x + 2 * y")...)
		checkTermAt(t, l, n, add(v("x"), mul(2, v("y"))), n+5, 0)
		l = append(l[:n], tokens("x = y -> r")...)
		checkClaimAt(t, l, n, imp(eq(v("x"), v("y")), p("r")), n+5, 0)
		for i := range l {
			l[i].At = -i * 7
		}
		checkClaimAt(t, l, n, imp(eq(v("x"), v("y")), p("r")), n+5, 0)
	}
}

// formErrors have a mark ahead of the first token that can't occur, as a claim is read.
func formErrors() []string {
	return []string{
		"^)", "^&", "^= x", "^+ x", "^* x", "^<= 1", "^-> r", "^.", "^, r", "^: A", "^[", "^]", "^{", "^}", "^;", "^:= 1", "^|- r", "^qed", "^sort", "~^& r", "~^)", "~^= x", "~^proof",
		"1 ^& r", "1 ^r", "1 ^)", "1 ^1", "x + 1 ^| r", "-x ^-> r", "-3 ^<-> r", "2 * x ^& r", "f(x) + 1 ^& r", "(x + 1) ^& r", "(1) ^& r", "((x + 1)) ^& r", "((x + 1) ^& r)", "(-x) ^& r", "(x) + 1 ^& r", "((x) - 1) ^& r", "2 * (x) ^& r", "r & 1 ^& s", "r & x + 1 ^)", "r -> (1 + 1) ^-> s", "~1 ^& r", "~(1) ^& r", "(~1^)", "(r & 1^)", "(r & (1)^)", "(x + y^,", "(1^.", "(r & s) & x + 1 ^]",
		"p(^)", "p(1 ^& r)", "p(r ^& r)", "p(x ^= y)", "p(^~r)", "p(^true)", "p(x, ^)", "p(x ^y)", "p((x ^& y))", "p(x,^, y)", "p(x ^: A)", "p(^!x: A. r)", "p(^=", "p(x ^]", "f(x) = f(y, ^=", "x = ^= y", "x = ^~r", "x = ^true", "x = ^)", "x = ^!y: A. r", "x = (r ^& s)", "x = (y ^= z)", "x < ^< y", "x <= ^= y", "(x = y ^= z)", "(x < y ^< z)", "(x = y ^z)", "(x = 1 ^1)", "(x ^x)", "(x ^true)", "(r & s + 1^)", "(true ^= x)", "(~r ^s)", "(~x = y ^= z)",
		"x + ^)", "x + ^+ y = z", "x - ^& r", "x - ^true", "2 * ^& r", "2 * ^* x", "2 * ^+ 3", "(2 * 3 ^* x) = 1", "(2 * x ^* 3)", "2 * 3 ^* x = 1", "2 * x ^* 3 = 1", "2 * (r ^& s) = 1", "-^& r", "-^~r", "-^)", "-^true", "-(r ^& s)", "(^)", "(^& r)", "(^= x)", "((^))", "(^]",
		"!^: A. r", "!^1: A. r", "!^(x: A). r", "!^!x: A. r", "!x ^A. r", "!x ^. r", "!x ^, y: A. r", "!x ^:= A. r", "!x: ^1. r", "!x: ^. r", "!x: ^(A). r", "!x: A ^r", "!x: A ^: r", "!x: A ^& r", "!x: A, ^. r", "!x: A, ^!y: B. r", "!x: A, y ^. r", "!x: A. ^. r", "!x: A. ^, r", "!x: A. ^)", "!^true: A. r", "!^as: A. r", "?x: A, ^qed: A. r", "?^.", "?x: A, y: B ^) r",
		"!x: A. x ^& r", "!x: A. (x) ^& r", "(!x: A. x^) & r", "!x: A. ((x) ^-> r)", "!x: A, y: B. x ^| y", "!x: A. ~x ^& r", "!x: A. r & x ^& r", "!x: A. !y: A. x ^)", "!x: A. x + 1 ^& r", "!r: A. r ^& s",
	}
}

// endErrors end too early.
func endErrors() []string {
	return []string{
		"", "~", "~~", "-", "--", "(", "((", "r &", "r |", "r ->", "r <->", "r & s |", "r & 1", "1", "x + 1", "-x", "-3", "(1)", "(x + 1)", "((x) + 1)", "~1", "~(1)", "~(x - y)", "r & (1)", "x =", "x <=", "x <", "x >", "x >=", "x +", "x -", "x - -", "2 *", "2 * 3", "x *", "x * 2", "x * -", "x * f(y", "x * (y", "x = y +", "x = -", "x = 2 *", "x = (", "x = (y", "x = f(",
		"p(", "p(x", "p(x,", "p(x, y", "p(p(x)", "p((x)", "(r", "((r)", "(r &", "(r & s", "(p(x)", "(x = y", "(x =", "(1", "(x + 1", "(true", "(~", "(!x: A. r", "!", "?", "!x", "!x:", "!x: A", "!x: A,", "!x: A, y", "!x: A, y:", "!x: A, y: B", "!x: A.", "?x: A. ~", "!x: A. r &", "!x: A. x", "!x: A. (x)", "!x: A. x + 1", "!x: A. ?x: B. (x)", "!x: A, y: B. x", "!r: A. r", "r & !x: A. x", "~!x: A. x",
	}
}

// leftOvers have a mark ahead of the first token that does not belong to the claim any more.
func leftOvers() []string {
	return []string{
		"r ^r", "r ^)", "r ^1", "r ^true", "r ^~r", "r ^!x: A. r", "r ^.", "r ^,", "r ^: A", "r ^]", "r ^[", "r ^{", "r ^}", "r ^;", "r ^:= 1", "r ^|- s", "r ^qed", "true ^= x", "true ^(x)", "true ^+ 1", "true ^* 2", "false ^r", "~r ^r", "~r ^~r", "(r) ^(s)", "(r) ^r", "(r & s) ^= x", "(r & s) ^+ x", "(r & s) ^* 2", "(r & s) ^- 2", "(r & s) ^(s)", "(true) ^= x", "(~r) ^<= x", "((x = y)) ^= x", "p(x) ^(y)", "p(x) ^p(y)", "p(x) ^)", "(p(x)) ^p(y)",
		"x = y ^= z", "x < y ^< z", "x = y ^z", "x = 1 ^1", "x = y ^)", "x = 2 * 3 ^* 4", "x = y * 2 ^* 3", "x <= f(y) ^(z)", "x = -y ^~r", "x = (y) ^(z)", "x = y ^true", "r & s ^s", "r & s ^)", "r | s ^: A", "r -> s ^, r", "r <-> s ^. r", "r & true ^= x", "r & x = y ^= z", "!x: A. r ^r", "!x: A. r ^)", "!x: A. r ^, y: B", "!x: A. r ^. r", "(!x: A. r) ^: A", "(!x: A. x = x) ^= x", "!x: A. x = x ^= x", "!x: A. r & s ^]",
	}
}

func TestFirstErrors(t *testing.T) {
	for _, s := range formErrors() {
		text, offset, at := marked(s)
		l := tokens(text)
		checkClaimAt(t, l, 0, api.Claim{}, at, api.ErrForm)
		checkClaimAt(t, append(tokens("~ ( x"), l...), 3, api.Claim{}, 3+at, api.ErrForm)
		checkClaim(t, usual(), vars(), text, api.Claim{}, offset, api.ErrForm)
		// Whatever is behind that token, it is not read.
		for _, behind := range append(allTokens(), oddTokens...) {
			checkClaimAt(t, append(slices.Clone(l[:at+1]), behind), 0, api.Claim{}, at, api.ErrForm)
		}
		followAll(t, l, 0)
	}
	for _, s := range endErrors() {
		l := tokens(s)
		checkClaimAt(t, l, 0, api.Claim{}, len(l), api.ErrEnd)
		checkClaimAt(t, append(tokens("( x"), l...), 2, api.Claim{}, 2+len(l), api.ErrEnd)
		for _, blanks := range []string{"", " ", "\n\t ", "# r & s", " # r\n"} {
			checkClaim(t, usual(), vars(), s+blanks, api.Claim{}, len(s+blanks), api.ErrEnd)
		}
		followAll(t, l, 0)
	}
	for _, s := range leftOvers() {
		text, offset, at := marked(s)
		l := tokens(text)
		want, _, _ := ClaimAt(l[:at], 0)
		if want.Op == 0 {
			t.Error("not read:", s)
		}
		checkClaimAt(t, l, 0, want, at, 0)
		checkClaim(t, usual(), vars(), text, api.Claim{}, offset, api.ErrForm)
		followAll(t, l, 0)
	}
}

// termErrors have a mark ahead of the first token that can't occur or is left over, as a term is read.
func termErrors() (forms, ends, lefts []string) {
	forms = []string{"^)", "^~x", "^true", "^!x: A. x", "^& x", "^= x", "^* x", "^+ x", "x + ^)", "x + ^& y", "x - ^= y", "2 * ^* x", "-^)", "-^true", "f(^)", "f(^true)", "f(x ^= y)", "f(x ^& y)", "f(x,^)", "f(x ^y)", "(^)", "(x ^& y)", "(x ^= y)", "(x ^]", "(2 * 3 ^* x)", "(x ^x)", "f((x ^& y))", "^qed", "^:", "^."}
	ends = []string{"", "-", "--", "x +", "x -", "x - -", "2 *", "x *", "x * -", "x * f(", "x * f(y", "x * (y", "(", "(x", "(x +", "f(", "f(x", "f(x,", "f(x, y", "f((x)", "x * 2 +"}
	lefts = []string{"x ^= y", "x ^& y", "x ^x", "x ^)", "x ^1", "1 ^x", "1 ^(x)", "1 ^1", "-1 ^0", "2 * 3 ^* x", "x * 2 ^* 3", "(x) ^(y)", "f(x) ^(y)", "x + y ^< z", "-x ^y", "x ^: A", "x ^.", "x ^, y", "x ^true", "x ^~y", "x ^!y: A. r", "x ^-> y", "x ^|- y", "2 * 3 ^* * x"}
	return forms, ends, lefts
}

func TestFirstErrorsOfTerms(t *testing.T) {
	forms, ends, lefts := termErrors()
	for _, s := range forms {
		text, offset, at := marked(s)
		checkTermAt(t, tokens(text), 0, api.Term{}, at, api.ErrForm)
		checkTerm(t, usual(), vars(), text, api.Term{}, offset, api.ErrForm)
		followAll(t, tokens(text), 0)
	}
	for _, s := range ends {
		l := tokens(s)
		checkTermAt(t, l, 0, api.Term{}, len(l), api.ErrEnd)
		checkTerm(t, usual(), vars(), s+" #", api.Term{}, len(s)+2, api.ErrEnd)
		followAll(t, l, 0)
	}
	for _, s := range lefts {
		text, offset, at := marked(s)
		want, _, _ := TermAt(tokens(text)[:at], 0)
		if want.Op == 0 {
			t.Error("not read:", s)
		}
		checkTermAt(t, tokens(text), 0, want, at, 0)
		checkTerm(t, usual(), vars(), text, api.Term{}, offset, api.ErrForm)
		followAll(t, tokens(text), 0)
	}
}

// A product without a number is wrong where its * stands, as soon as both factors are read.
func TestProductsWithoutNumbers(t *testing.T) {
	for _, s := range []string{"x ^* y", "x ^* f(y)", "f(x) ^* y", "(x) ^* y", "x ^* (y)", "(x + 1) ^* (2 * y)", "-x ^* y", "x ^* -y", "-(3) ^* x", "x ^* -(3)", "-(3) ^* -(3)", "--3 ^* x", "(2 + 3) ^* x", "(2 * 3) ^* (2 * 3)", "(2 * 3) ^* x", "1 + x ^* y", "2 * x - x ^* y", "(x ^* y", "f(x ^* y", "f(1, x ^* y", "2 * (x ^* y", "-(x ^* y", "x * (y ^* z", "x * f(y ^* z"} {
		for _, behind := range []string{"", " ]", " true", " 1", " * 2", " * z", " * 9223372036854775808", " + ", " + )", " & r", " = x * 007", " r", ")", ") * ) x", " ; ;"} {
			text, _, at := marked(s + behind)
			l := tokens(text)
			checkTermAt(t, l, 0, api.Term{}, at, api.ErrForm)
			checkClaimAt(t, l, 0, api.Claim{}, at, api.ErrForm)
			followAll(t, l, 0)
		}
	}
	// What is wrong within the factors comes first.
	for s, e := range map[string]api.Errno{"x * ^": api.ErrEnd, "x * f(y^": api.ErrEnd, "x * y(^": api.ErrEnd, "x * ^) y": api.ErrForm, "x * (y ^& r)": api.ErrForm, "x * y(^)": api.ErrForm, "x * ^007": api.ErrForm, "x * ^9223372036854775808": api.ErrRange, "x * -^0": api.ErrForm, "x * -(y + ^)": api.ErrForm, "x * (y + 1^": api.ErrEnd, "x * f(9223372036854775807, ^9223372036854775808)": api.ErrRange} {
		text, _, at := marked(s)
		checkTermAt(t, tokens(text), 0, api.Term{}, at, e)
		checkClaimAt(t, tokens(text), 0, api.Claim{}, at, e)
	}
	text, _, at := marked("!x: A, y: A. r & x ^* y = x")
	checkClaimAt(t, tokens(text), 0, api.Claim{}, at, api.ErrForm)
	text, _, at = marked("x * 2 = x ^* y & r r")
	checkClaimAt(t, tokens(text), 0, api.Claim{}, at, api.ErrForm)
}

// number is what digits are, or their error.
type number struct {
	n int64
	e api.Errno
}

func numbers() map[string]number {
	return map[string]number{
		"0": {0, 0}, "1": {1, 0}, "10": {10, 0}, "9223372036854775806": {greatest - 1, 0}, "9223372036854775807": {greatest, 0}, "9223372036854775808": {0, api.ErrRange}, "9223372036854775809": {0, api.ErrRange}, "18446744073709551616": {0, api.ErrRange}, "1" + times(1000, "0"): {0, api.ErrRange},
		"00": {0, api.ErrForm}, "01": {0, api.ErrForm}, "007": {0, api.ErrForm}, "0" + times(1000, "9"): {0, api.ErrForm},
		"-0": {0, api.ErrForm}, "-1": {-1, 0}, "-10": {-10, 0}, "-9223372036854775807": {-greatest, 0}, "-9223372036854775808": {least, 0}, "-9223372036854775809": {0, api.ErrRange}, "-18446744073709551616": {0, api.ErrRange}, "-00": {0, api.ErrForm}, "-01": {0, api.ErrForm}, "-007": {0, api.ErrForm},
	}
}

func TestNumbers(t *testing.T) {
	for s, x := range numbers() {
		minus := strings.Count(s, "-")
		for _, ahead := range []string{"", "x + ", "x - ", "2 * ", "f(", "f(x, ", "(", "((", "-(", "-"} {
			if ahead == "-" && minus == 0 {
				continue
			}
			n := len(tokens(ahead))
			if x.e != 0 {
				for _, behind := range []string{"", " 1", " ) )", " * x * y", " ; ;"} {
					checkTermAt(t, tokens(ahead+s+behind), 0, api.Term{}, n+minus, x.e)
					checkClaimAt(t, tokens("r & "+ahead+s+behind), 0, api.Claim{}, 2+n+minus, x.e)
					checkClaimAt(t, tokens("(x = "+ahead+s+behind), 0, api.Claim{}, 3+n+minus, x.e)
				}
				continue
			}
			closes := times(strings.Count(ahead, "("), ")")
			y := num(x.n)
			want := map[string]api.Term{"": y, "x + ": add(v("x"), y), "x - ": sub(v("x"), y), "2 * ": mul(2, y), "f(": app("f", y), "f(x, ": app("f", v("x"), y), "(": y, "((": y, "-(": neg(y), "-": neg(y)}[ahead]
			l := tokens(ahead + s + closes)
			checkTermAt(t, l, 0, want, len(l), 0)
			l = append(l, tokens("= 1")...)
			checkClaimAt(t, l, 0, eq(want, num(1)), len(l), 0)
			l = tokens(ahead + strings.Replace(s, "-", "- #minus\n", 1) + closes)
			checkTermAt(t, l, 0, want, len(l), 0)
		}
		followText(t, usual(), vars(), s)
		followText(t, usual(), vars(), s+" = i")
	}
	// Between two products a - is no part of a number.
	checkTermAt(t, tokens("1 - 9223372036854775808"), 0, api.Term{}, 2, api.ErrRange)
	checkTermAt(t, tokens("1 - 0"), 0, sub(num(1), num(0)), 3, 0)
	checkTermAt(t, tokens("f(x) - 0"), 0, sub(app("f", v("x")), num(0)), 6, 0)
	checkTermAt(t, tokens("(x) - 9223372036854775808"), 0, api.Term{}, 4, api.ErrRange)
	checkTermAt(t, tokens("-(9223372036854775808)"), 0, api.Term{}, 2, api.ErrRange)
	checkTermAt(t, tokens("-(0)"), 0, neg(num(0)), 4, 0)
	checkTermAt(t, tokens("- - 0"), 0, api.Term{}, 2, api.ErrForm)
}

// oddTokens are tokens of Kinds that there are not, and such as no text has.
var oddTokens = []api.Token{
	{}, {Kind: 0, Text: "x"}, {Kind: 4, Text: "x"}, {Kind: -1, Text: ")"}, {Kind: 9, Text: "1"}, {Kind: least, Text: "&"}, {Kind: greatest, Text: "true"}, {Kind: 1<<32 + 1, Text: "x"}, {Kind: 1<<32 + 3, Text: "("},
	{Kind: 3, Text: ""}, {Kind: 3, Text: "x"}, {Kind: 3, Text: "1"}, {Kind: 3, Text: "true"}, {Kind: 3, Text: "&&"}, {Kind: 3, Text: "& "}, {Kind: 3, Text: " &"}, {Kind: 3, Text: "()"}, {Kind: 3, Text: "~r"}, {Kind: 3, Text: "=="}, {Kind: 3, Text: "=<"}, {Kind: 3, Text: "<>"}, {Kind: 3, Text: "<-"}, {Kind: 3, Text: "<->>"}, {Kind: 3, Text: "->>"}, {Kind: 3, Text: "--"}, {Kind: 3, Text: "-1"}, {Kind: 3, Text: "||"}, {Kind: 3, Text: "**"}, {Kind: 3, Text: "!x"}, {Kind: 3, Text: "\x00"}, {Kind: 3, Text: "\xe2"}, {Kind: 3, Text: "≤"}, {Kind: 3, Text: "→"}, {Kind: 3, Text: "\x64"}, {Kind: 3, Text: "\x92"}, {Kind: 3, Text: "(\x00"}, {Kind: 3, Text: "<=="}, {Kind: 3, Text: ">>"}, {Kind: 3, Text: ">=>"},
	{Kind: 1, Text: ""}, {Kind: 1, Text: "("}, {Kind: 1, Text: "&"}, {Kind: 1, Text: "-"}, {Kind: 1, Text: "1"}, {Kind: 1, Text: "true "}, {Kind: 1, Text: "\xff"}, {Kind: 1, Text: times(40, "x")}, {Kind: 1, Text: "TRUE"},
	{Kind: 2, Text: ""}, {Kind: 2, Text: "x"}, {Kind: 2, Text: "-"}, {Kind: 2, Text: "-5"}, {Kind: 2, Text: "--5"}, {Kind: 2, Text: "+5"}, {Kind: 2, Text: "5 "}, {Kind: 2, Text: "true"}, {Kind: 2, Text: "("}, {Kind: 2, Text: "-9223372036854775808"}, {Kind: 2, Text: "9223372036854775808"},
}

// allTokens are all signs, all words, and some names and numbers.
func allTokens() []api.Token {
	l := tokens("x y r f A Int 0 1 25 007 9223372036854775808")
	for _, s := range token.Signs() {
		l = append(l, api.Token{Kind: 3, Text: s})
	}
	for _, s := range sample.Words() {
		l = append(l, api.Token{Kind: 1, Text: s})
	}
	return l
}

// Every token at every place, ahead of, behind and in place of every other one.
func TestEveryTokenAtEveryPlace(t *testing.T) {
	l := append(allTokens(), oddTokens...)
	for _, s := range []string{"x", "-x + 2 * f(y, -3)", "(x) - 1", "r", "~r & (p(x) | s)", "!x: A, y: B. x + 1 = y -> r", "?x: A. (x) <= 3 <-> true", "(x * 2 < y) & r"} {
		whole := tokens(s)
		for at := range len(whole) + 1 {
			for _, x := range l {
				followAll(t, slices.Insert(slices.Clone(whole), at, x), 0)
				if at < len(whole) {
					replaced := slices.Clone(whole)
					replaced[at] = x
					followAll(t, replaced, 0)
				}
			}
			followAll(t, whole[:at], 0)
			if at < len(whole) {
				followAll(t, slices.Delete(slices.Clone(whole), at, at+1), 0)
				followAll(t, whole[:len(whole):len(whole)], at)
			}
		}
	}
}

// reachable calls f with all lists of at most n tokens that go on from first and in which every token but the last one may count.
func reachable(first []api.Token, n int, alphabet []api.Token, f func(l []api.Token) bool) {
	if !f(first) || n == 0 {
		return
	}
	for _, x := range alphabet {
		reachable(append(slices.Clip(first), x), n-1, alphabet, f)
	}
}

// All short lists of tokens.
func TestTokensFollowTheChapter(t *testing.T) {
	lists := 0
	terms := func(l []api.Token) bool {
		lists++
		return followTerm(t, l, 0)
	}
	claims := func(l []api.Token) bool {
		lists++
		return followClaim(t, l, 0)
	}
	reachable(nil, 7, tokens("x 2 ( ) - * ,"), terms)
	reachable(nil, 6, tokens("x 2 007 ( ) - + * , = &"), terms)
	reachable(nil, 7, tokens("x 2 ( ) - = &"), claims)
	reachable(nil, 5, tokens("r 1 true ( ) ~ & | -> <-> ="), claims)
	reachable(nil, 6, tokens("x 1 ( ) - + * , < <= >= >"), claims)
	reachable(tokens("! x : A"), 7, tokens("x r ( ) & = , : ."), claims)
	reachable(tokens("? x : A . ("), 6, tokens("x 1 ( ) & = + ~"), claims)
	reachable(nil, 7, tokens("! ? x A : . , & ~ ("), claims)
	if lists < 100000 {
		t.Error("too few:", lists)
	}
}

// scatteredTokens are n tokens; most of them may stand there.
func scatteredTokens(next func(n int) int, n int) []api.Token {
	all := append(allTokens(), oddTokens...)
	usual := tokens("x x x y f r 1 2 ( ( ( ) ) ) ) - - + * , = = <= < > >= & | -> <-> ~ ! ? : . true")
	var l []api.Token
	for len(l) < n {
		x := usual[next(len(usual))]
		if next(60) == 0 {
			x = all[next(len(all))]
		}
		_, _, _, term := want(append(slices.Clip(l), x), 0, (*model).sum)
		_, _, _, claim := want(append(slices.Clip(l), x), 0, (*model).claim)
		if term || claim || next(40) == 0 {
			l = append(l, x)
		}
	}
	return l
}

func TestScatteredTokensFollowTheChapter(t *testing.T) {
	next := sample.Scattered(88172645463325252)
	for range 500 {
		l := scatteredTokens(next, 1+next(40))
		followAll(t, l, 0)
		followAll(t, l, next(len(l)))
	}
}

// opener is something that is nested: what is ahead of it, what is behind it, and at which tokens of it things are nested.
// What it has beside that is not nested itself. Operators are the looser the greater their numbers are.
type opener struct {
	ahead, behind string
	at            []int
	own           int // the loosest operator that it has outside
	most          int // the loosest operator that may be outside within it
}

// claimOpeners are nested around claims.
func claimOpeners() []opener {
	return []opener{
		{"( ", ")", []int{0}, 0, 4}, {"~ ", "", []int{0}, 0, 0}, {"!x: A. ", "", []int{1}, 0, 4}, {"?y: Int. ", "", []int{1}, 0, 4}, {"r & ", "", []int{1}, 1, 1}, {"r | ", "", []int{1}, 2, 2}, {"r -> ", "", []int{1}, 3, 3}, {"r <-> ", "", []int{1}, 4, 4},
		{"!x: A, y: B. ", "", []int{1, 5}, 0, 4}, {"?x: A, y: B, x: A. ", "", []int{1, 5, 9}, 0, 4}, {"x = y & ", "", []int{3}, 1, 1}, {"true | ", "", []int{1}, 2, 2}, {"x - 1 + 2 * y < -3 -> ", "", []int{10}, 3, 3},
		{"r & ( ", ")", []int{1, 2}, 1, 4}, {"~( ", ")", []int{0, 1}, 0, 4}, {"( ", ") & r", []int{0}, 0, 4}, {"( ", ") -> s", []int{0}, 0, 4}, {"?x: A. ~(", ") <-> r", []int{1, 5, 6}, 0, 4},
	}
}

// termOpeners are nested around terms.
func termOpeners() []opener {
	return []opener{
		{"( ", ")", []int{0}, 0, 2}, {"f( ", ")", []int{1}, 0, 2}, {"- ", "", []int{0}, 0, 0}, {"f(x, 1 + ", ", y)", []int{1}, 0, 2}, {"x + ( ", ")", []int{2}, 2, 2}, {"2 * ( ", ") - x", []int{2}, 1, 2}, {"-f( ", ")", []int{0, 2}, 0, 2}, {"-(x - ", ")", []int{0, 1}, 0, 2}, {"f(g - -3, f, - ", ")", []int{1, 9}, 0, 0}, {"( ", ") * -7", []int{0}, 0, 2},
	}
}

// scatteredOpeners are some of the openers, at least n things that are nested, each within the one ahead of it.
func scatteredOpeners(next func(n int) int, n int, all []opener) []opener {
	var l []opener
	for nested, most := 0, 4; nested < n; {
		if o := all[next(len(all))]; o.own <= most {
			l = append(l, o)
			nested, most = nested+len(o.at), o.most
		}
	}
	return l
}

// nest is a text in which things are nested: openers, and inside what they are around; at are the tokens at which they begin.
func nest(openers []opener, inside string) (text string, at []int) {
	var ahead, behind string
	for _, o := range openers {
		n := len(tokens(ahead))
		for _, i := range o.at {
			at = append(at, n+i)
		}
		ahead, behind = ahead+o.ahead, o.behind+" "+behind
	}
	return ahead + inside + " " + behind, at
}

// checkNested holds a text in which at most so many things are nested against the model; if there are more than 64, the one too many is the error whatever is behind it.
func checkNested(t *testing.T, openers []opener, inside string, follow func(t *testing.T, l []api.Token, at int) bool, read func(l []api.Token) (int, api.Errno)) {
	t.Helper()
	text, at := nest(openers, inside)
	l := tokens(text)
	follow(t, l, 0)
	end, e := read(l)
	if len(at) <= 64 {
		if end != len(l) || e != 0 {
			t.Error(len(at), "nested:", quoted(text), end, e)
		}
		return
	}
	one := at[64]
	rests := [][]api.Token{nil, tokens(")"), tokens("; x"), tokens("& true"), tokens("(((( x"), tokens("- - - y"), tokens("x"), {{Kind: 9, Text: "1"}}, tokens("! x"), tokens("* y"), l[one+1:]}
	for _, rest := range rests {
		short := append(slices.Clone(l[:one+1]), rest...)
		if end, e := read(short); end != one || e != api.ErrDeep {
			t.Error(len(at), "nested:", tokensText(short), end, e, "want", one)
		}
		follow(t, short, 0)
	}
}

func claimEnd(l []api.Token) (int, api.Errno) {
	_, end, e := ClaimAt(l, 0)
	return end, e
}

func termEnd(l []api.Token) (int, api.Errno) {
	_, end, e := TermAt(l, 0)
	return end, e
}

func TestNested(t *testing.T) {
	for n := 63; n <= 67; n++ {
		for _, o := range claimOpeners() {
			checkNested(t, slices.Repeat([]opener{o}, n/len(o.at)), "r", followClaim, claimEnd)
			checkNested(t, slices.Repeat([]opener{o}, n/len(o.at)), "x + 2 * y = -3", followClaim, claimEnd)
		}
		for _, o := range termOpeners() {
			checkNested(t, slices.Repeat([]opener{o}, n/len(o.at)), "x", followTerm, termEnd)
			l := append([]opener{{ahead: "x = "}}, slices.Repeat([]opener{o}, n/len(o.at))...)
			checkNested(t, l, "-3 - y", followClaim, claimEnd)
		}
		// In parentheses there may be terms or claims.
		for _, inside := range []string{"r", "x = y", "true"} {
			checkNested(t, slices.Repeat(claimOpeners()[:1], n), inside, followClaim, claimEnd)
		}
		l := append([]opener{{behind: "= y"}}, slices.Repeat(claimOpeners()[:1], n)...)
		for _, inside := range []string{"x", "x + 1", "-3"} {
			checkNested(t, l, inside, followClaim, claimEnd)
		}
	}
	next := sample.Scattered(2463534242)
	for range 150 {
		n := 58 + next(12)
		claims := []int{0, 1, next(n), n - 1}[next(4)]
		state := []opener{{"x - 1 <= ", "", nil, 0, 2}, {"", "= y", nil, 0, 2}}[next(2)]
		checkNested(t, slices.Concat(scatteredOpeners(next, claims, claimOpeners()), []opener{state}, scatteredOpeners(next, n-claims, termOpeners())), "x", followClaim, claimEnd)
		checkNested(t, scatteredOpeners(next, n, claimOpeners()), "r", followClaim, claimEnd)
		checkNested(t, scatteredOpeners(next, n, termOpeners()), "x", followTerm, termEnd)
	}
}

// What is not nested may be as much as there is, and what has ended is nested no more.
func TestNotNested(t *testing.T) {
	deep := times(64, "(") + "x" + times(64, ")")
	for s, want := range map[string]api.Term{
		deep + " + " + deep + " - " + deep:                                           sub(add(v("x"), v("x")), v("x")),
		"2 * " + deep:                                                                mul(2, v("x")),
		deep + " * 2":                                                                mul(2, v("x")),
		times(64, "-") + "-3":                                                        sample.Nested(64, num(-3), neg),
		times(64, "(") + "-3" + times(64, ")"):                                       num(-3),
		times(64, "(") + "x - y" + times(64, ")"):                                    sub(v("x"), v("y")),
		times(64, "f(") + "x, -3" + times(63, ")") + ", y) + f(x)":                   add(app("f", sample.Chain(62, app("f", v("x"), num(-3))), v("y")), app("f", v("x"))),
		"f(" + times(299, "x, ") + "x)":                                              app("f", sample.Vars(300, "x")...),
		"f((x), -y, f(x), (x)) - (x) - (x) - -x - -x - f(x)":                         sub(sub(sub(sub(sub(app("f", v("x"), neg(v("y")), app("f", v("x")), v("x")), v("x")), v("x")), neg(v("x"))), neg(v("x"))), app("f", v("x"))),
		times(63, "(") + deep[63:len(deep)-63] + times(63, ") + 1"):                  sample.Nested(63, v("x"), func(t api.Term) api.Term { return add(t, num(1)) }),
		times(2000, "x + ") + "x":                                                    sample.Nested(2000, v("x"), func(t api.Term) api.Term { return add(t, v("x")) }),
		times(500, "-x - 2 * y + ") + "x":                                            wantOf(t, times(500, "-x - 2 * y + ")+"x"),
		times(100, "(x) + -y - f(x) + ") + times(64, "(x - ") + "x" + times(64, ")"): wantOf(t, times(100, "(x) + -y - f(x) + ")+times(64, "(x - ")+"x"+times(64, ")")),
	} {
		l := tokens(s)
		checkTermAt(t, l, 0, want, len(l), 0)
	}
	claims := times(64, "(") + "r" + times(64, ")")
	all := func(c api.Claim) api.Claim { return forAll("x", "A", c) }
	for s, want := range map[string]api.Claim{
		times(63, "~") + "(r)":                              sample.Nots(63, p("r")),
		times(63, "r & ") + "~r":                            sample.Nested(63, not(p("r")), func(c api.Claim) api.Claim { return and(p("r"), c) }),
		claims + "& r":                                      and(p("r"), p("r")),
		claims + "-> ~r | s":                                imp(p("r"), or(not(p("r")), p("s"))),
		times(64, "!x: A. ") + "r":                          sample.Nested(64, p("r"), all),
		times(64, "!x: A. ") + "1 - x = -3":                 sample.Nested(64, eq(sub(num(1), b(0)), num(-3)), all),
		times(62, "(") + "(r) & (s) -> ~r" + times(62, ")"): imp(and(p("r"), p("s")), not(p("r"))),
	} {
		l := tokens(s)
		checkClaimAt(t, l, 0, want, len(l), 0)
	}
}

// wantOf is what the model reads of a term.
func wantOf(t *testing.T, s string) api.Term {
	x, end, e, _ := want(tokens(s), 0, (*model).sum)
	if e != 0 || end != len(tokens(s)) {
		t.Error(quoted(s), end, e)
	}
	return x.term
}

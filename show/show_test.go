package show

import (
	"math"
	"reflect"
	"slices"
	"strconv"
	"strings"
	"testing"

	"corollary/api"
	"corollary/parse"
	"corollary/term"
)

func TestExample(t *testing.T) {
	e := node(2, leaf(x), node(3, node(1, leaf(y), leaf(number(1))), leaf(number(2))))
	expIs(t, e, "X - (Y + 1) * 2")
	unchanged(t, "p() :- X - (Y + 1) * 2 = Z.\n")
}

func TestOrdinary(t *testing.T) {
	for _, s := range []string{
		"rel edge(int, int).\npath(X, Y) :- edge(X, Y).\npath(X, Z) :- path(X, Y), edge(Y, Z), not closed(Z), X < Z * 2.\nn(X, count(Y)) :- path(X, Y).\n",
		"rel e(int, sym).\ne(1, a).\n",
		"p(X, count(Y)) :- q(X, Y), not r(), X < Y.\n",
		"p() :- 1 + 2 + 3 = X.\n",
		"p() :- 1 - (2 - 3) != X * Y * Z.\n",
		"p() :- X * (Y * Z) >= (1 + 2) * -3.\n",
		"p() :- X * Y + Z * 1 <= a.\n",
		"q(Y) :- b(X), Y = X * 70000.\n",
		"rel a().\nrel a().\np().\np().\n",
	} {
		unchanged(t, s)
	}
	for s, want := range map[string]string{
		"p(max(X)):-q(X).rel q(int).p().rel p(int).": "rel q(int).\nrel p(int).\np(max(X)) :- q(X).\np().\n",
		"% none\n\tp ( X,\r\n-1 ,a ) . %":            "p(X, -1, a).\n",
		"p():-((X))>(((Y*2))+1)-(a-(b)).":            "p() :- X > Y * 2 + 1 - (a - b).\n",
	} {
		p, at, err := parse.Parse(s)
		if err != nil {
			t.Fatal(s, at, err)
		}
		whole(t, p, want)
	}
}

func TestParts(t *testing.T) {
	r := term.Rule{Head: atomOf("p", x, y), Agg: 1, Column: 1, Body: []term.Literal{
		plain(atomOf("q", x, y)),
		negated(atomOf("r", y, sym("a"))),
		compared(3, leaf(x), node(3, leaf(y), leaf(number(2)))),
	}}
	got, err := Rule(r)
	is(t, r, "p(X, count(Y)) :- q(X, Y), not r(Y, a), X < Y * 2.", got, err)
	for i, want := range []string{"q(X, Y)", "not r(Y, a)", "X < Y * 2"} {
		got, err := Literal(r.Body[i])
		is(t, r.Body[i], want, got, err)
	}
	for want, e := range map[string]term.Exp{"X": leaf(x), "a": leaf(sym("a")), "0": leaf(number(0)), "-7": leaf(number(-7)), "Y * 2": r.Body[2].Right} {
		got, err := Exp(e)
		is(t, e, want, got, err)
	}
	whole(t, rulesOf(r), "p(X, count(Y)) :- q(X, Y), not r(Y, a), X < Y * 2.\n")
}

func TestNothing(t *testing.T) {
	whole(t, term.Program{}, "")
	whole(t, term.Program{Decls: []term.Decl{}, Rules: []term.Rule{}}, "")
	for line := range Lines(term.Program{}) {
		t.Error(line)
	}
	whole(t, term.Program{Decls: []term.Decl{{Rel: "a"}, {Rel: "b", Kinds: []api.Kind{}}}}, "rel a().\nrel b().\n")
	empty := term.Rule{Head: term.Atom{Rel: "p", Args: []term.Term{}}, Body: []term.Literal{}}
	whole(t, rulesOf(fact("p"), empty), "p().\np().\n")
	both := term.Program{Decls: []term.Decl{declOf("p", api.Int)}, Rules: []term.Rule{fact("p", number(1))}}
	whole(t, both, "rel p(int).\np(1).\n")
}

func TestColumns(t *testing.T) {
	kinds := []api.Kind{api.Int, api.Sym, api.Sym, api.Int, api.Sym, api.Int}
	items := []term.Term{x, number(-2), sym("a"), x, y, number(0)}
	for n, want := range []string{
		"rel r().\np() :- q(), not p().\n",
		"rel r(int).\np(X) :- q(X), not p(X).\n",
		"rel r(int, sym).\np(X, -2) :- q(X, -2), not p(X, -2).\n",
		"rel r(int, sym, sym).\np(X, -2, a) :- q(X, -2, a), not p(X, -2, a).\n",
		"rel r(int, sym, sym, int).\np(X, -2, a, X) :- q(X, -2, a, X), not p(X, -2, a, X).\n",
		"rel r(int, sym, sym, int, sym).\np(X, -2, a, X, Y) :- q(X, -2, a, X, Y), not p(X, -2, a, X, Y).\n",
		"rel r(int, sym, sym, int, sym, int).\np(X, -2, a, X, Y, 0) :- q(X, -2, a, X, Y, 0), not p(X, -2, a, X, Y, 0).\n",
	} {
		list := items[:n]
		r := ruleOf(atomOf("p", list...), plain(atomOf("q", list...)), negated(atomOf("p", list...)))
		whole(t, term.Program{Decls: []term.Decl{declOf("r", kinds[:n]...)}, Rules: []term.Rule{r}}, want)
	}
	for _, k := range []string{"int", "sym"} {
		unchanged(t, "rel p("+k+").\nrel q("+strings.Repeat(k+", ", 5)+k+").\n")
	}
}

func TestBodies(t *testing.T) {
	literals := []term.Literal{
		plain(atomOf("q")), compared(1, leaf(x), leaf(y)), negated(atomOf("q", x)), negated(atomOf("r")),
		compared(2, leaf(sym("a")), leaf(number(-1))), plain(atomOf("q", z)), compared(6, leaf(x), leaf(x)), plain(atomOf("q")),
	}
	texts := strings.Split("q(); X = Y; not q(X); not r(); a != -1; q(Z); X >= X; q()", "; ")
	for n := range 9 {
		want := "p(X)."
		if n > 0 {
			want = "p(X) :- " + strings.Join(texts[:n], ", ") + "."
		}
		whole(t, rulesOf(ruleOf(atomOf("p", x), literals[:n]...)), want+"\n")
	}
}

func TestAggregates(t *testing.T) {
	words := []string{1: "count", 2: "sum", 3: "min", 4: "max"}
	items := []term.Term{x, y, z, x, variable("Count"), variable("A_1")}
	names := []string{"X", "Y", "Z", "X", "Count", "A_1"}
	for n := 1; n <= 6; n++ {
		for column := range n {
			for agg := 1; agg <= 4; agg++ {
				texts := slices.Clone(names[:n])
				texts[column] = words[agg] + "(" + names[column] + ")"
				head := "p(" + strings.Join(texts, ", ") + ")"
				r := term.Rule{Head: atomOf("p", items[:n]...), Agg: agg, Column: column}
				whole(t, rulesOf(r), head+".\n")
				r.Body = []term.Literal{plain(atomOf("q", items[:n]...))}
				whole(t, rulesOf(r), head+" :- q("+strings.Join(names[:n], ", ")+").\n")
			}
		}
	}
	// The other columns of such a head may have values.
	unchanged(t, "p(1, a, min(X), -1) :- q(X).\n")
}

func TestComparisons(t *testing.T) {
	sum, product := node(1, leaf(x), leaf(number(1))), node(3, leaf(y), leaf(sym("b")))
	for i, sign := range []string{"=", "!=", "<", "<=", ">", ">="} {
		for want, l := range map[string]term.Literal{
			"X " + sign + " a":         compared(i+1, leaf(x), leaf(sym("a"))),
			"a " + sign + " X":         compared(i+1, leaf(sym("a")), leaf(x)),
			"-1 " + sign + " -2":       compared(i+1, leaf(number(-1)), leaf(number(-2))),
			"X + 1 " + sign + " Y * b": compared(i+1, sum, product),
			"Y * b " + sign + " X + 1": compared(i+1, product, sum),
		} {
			got, err := Literal(l)
			is(t, l, want, got, err)
			whole(t, rulesOf(ruleOf(atomOf("p"), l)), "p() :- "+want+".\n")
		}
	}
}

// Each operation within each one, on the left, on the right and on both sides.
func TestParentheses(t *testing.T) {
	left := [...][4]string{
		1: {1: "X + Y + Z", 2: "X - Y + Z", 3: "X * Y + Z"},
		2: {1: "X + Y - Z", 2: "X - Y - Z", 3: "X * Y - Z"},
		3: {1: "(X + Y) * Z", 2: "(X - Y) * Z", 3: "X * Y * Z"},
	}
	right := [...][4]string{
		1: {1: "Z + (X + Y)", 2: "Z + (X - Y)", 3: "Z + X * Y"},
		2: {1: "Z - (X + Y)", 2: "Z - (X - Y)", 3: "Z - X * Y"},
		3: {1: "Z * (X + Y)", 2: "Z * (X - Y)", 3: "Z * (X * Y)"},
	}
	for outer := 1; outer <= 3; outer++ {
		for inner := 1; inner <= 3; inner++ {
			e := node(inner, leaf(x), leaf(y))
			expIs(t, node(outer, e, leaf(z)), left[outer][inner])
			expIs(t, node(outer, leaf(z), e), right[outer][inner])
			for other := 1; other <= 3; other++ {
				both := strings.Replace(left[outer][other], "Z", "", 1) + right[outer][inner][len("Z + "):]
				expIs(t, node(outer, node(other, leaf(x), leaf(y)), e), both)
			}
		}
	}
	for _, s := range []string{
		"X + Y * (Z - 1 - (2 - 3) * 4) * (5 * 6) - 7",
		"(X + Y) * (X - Y) * Z",
		"(X - (Y - Z)) * (X * (Y - Z * X))",
		"X * Y + Y * Z - Z * X",
	} {
		unchanged(t, "p() :- "+s+" = "+s+".\n")
	}
}

func TestNegativeOperands(t *testing.T) {
	one, two := leaf(number(-1)), leaf(number(-2))
	for op, sign := range []string{1: "+", 2: "-", 3: "*"} {
		if op == 0 {
			continue
		}
		expIs(t, node(op, one, two), "-1 "+sign+" -2")
		expIs(t, node(op, leaf(x), one), "X "+sign+" -1")
		expIs(t, node(op, one, leaf(x)), "-1 "+sign+" X")
		expIs(t, node(op, node(op, one, two), one), "-1 "+sign+" -2 "+sign+" -1")
		expIs(t, node(op, one, node(op, two, one)), "-1 "+sign+" (-2 "+sign+" -1)")
	}
	unchanged(t, "p(-1, X) :- q(-2), -1 - -2 * -3 < (-4 + -5) * -6 - (-7 - -8).\n")
}

func TestDepth(t *testing.T) {
	for op, sign := range []string{1: "+", 2: "-", 3: "*"} {
		if op == 0 {
			continue
		}
		for _, deep := range []int{19, 20} {
			left := chain(op, deep, false, leaf(y))
			expIs(t, left, "Y"+strings.Repeat(" "+sign+" X", deep))
			right := chain(op, deep, true, leaf(y))
			expIs(t, right, strings.Repeat("X "+sign+" (", deep-1)+"X "+sign+" Y"+strings.Repeat(")", deep-1))
			whole(t, rulesOf(ruleOf(atomOf("p"), compared(1, left, right))), "p() :- "+spaced(wantLiteral(compared(1, left, right)))+".\n")
		}
		for _, right := range []bool{false, true} {
			deeper := chain(op, 21, right, leaf(y))
			got, err := Exp(deeper)
			refused(t, deeper, api.ErrForm, got, err)
		}
	}
	// Sums and products by turns: all parentheses that a depth of 20 can have, one less than those that may be nested.
	e := node(1, leaf(x), leaf(y))
	for i := range 19 {
		e = node([]int{3, 1, 3, 2}[i%4], leaf(x), e)
		if i%2 == 0 {
			e.Kids[0], e.Kids[1] = e.Kids[1], e.Kids[0]
		}
	}
	whole(t, rulesOf(ruleOf(atomOf("p"), compared(1, e, e))), "p() :- "+spaced(wantLiteral(compared(1, e, e)))+".\n")
}

func TestFullTree(t *testing.T) {
	e, want := leaf(x), "X"
	for deep := range 20 {
		e = node(3, e, e)
		if deep == 0 {
			want = "X * X"
		} else {
			want += " * (" + want + ")"
		}
	}
	got, err := Exp(e)
	if got != want || err != nil {
		t.Error("a full tree of depth 20 is printed wrongly", len(got), err)
	}
	l := compared(4, e, leaf(y))
	got, err = Literal(l)
	if got != want+" <= Y" || err != nil {
		t.Error("a comparison with a full tree is printed wrongly", len(got), err)
	}
	r := ruleOf(atomOf("p"), l)
	got, err = Rule(r)
	if got != "p() :- "+want+" <= Y." || err != nil {
		t.Error("a rule with a full tree is printed wrongly", len(got), err)
	}
	got, err = Program(rulesOf(fact("p"), r))
	if got != "" || err != api.ErrLarge {
		t.Error("a program with a full tree is", len(got), err)
	}
	lines := slices.Collect(Lines(rulesOf(fact("p"), r, fact("q"))))
	if !slices.Equal(lines, []string{"p().", "p() :- " + want + " <= Y.", "q()."}) {
		t.Error("the lines of a program with a full tree are wrong")
	}
	deeper := node(3, leaf(x), e)
	got, err = Exp(deeper)
	if got != "" || err != api.ErrForm {
		t.Error("a full tree and one level more is", len(got), err)
	}
}

func TestNumbers(t *testing.T) {
	for n, want := range map[int]string{
		0: "0", 1: "1", -1: "-1", 10: "10", -10: "-10",
		2147483646: "2147483646", 2147483647: "2147483647", -2147483646: "-2147483646", -2147483647: "-2147483647",
	} {
		expIs(t, leaf(number(n)), want)
		expIs(t, node(2, leaf(number(n)), leaf(number(n))), want+" - "+want)
		r := ruleOf(atomOf("p", number(n)), plain(atomOf("q", number(n))), compared(1, leaf(number(n)), leaf(x)))
		whole(t, rulesOf(r), "p("+want+") :- q("+want+"), "+want+" = X.\n")
	}
	for _, n := range []int{2147483648, -2147483648, math.MaxInt, math.MinInt} {
		got, err := Exp(leaf(number(n)))
		refused(t, n, api.ErrForm, got, err)
	}
}

// A symbol may be a key, though its text isn't parsed as one; the name of a relation may not.
func TestKeysAsSymbols(t *testing.T) {
	for _, key := range strings.Fields("rel int sym not count sum min max") {
		s := sym(key)
		r := ruleOf(atomOf("p", s), plain(atomOf("q", x, s)), negated(atomOf("q", s)), compared(1, leaf(s), node(2, leaf(x), leaf(s))))
		want := "p(" + key + ") :- q(X, " + key + "), not q(" + key + "), " + key + " = X - " + key + "."
		got, err := Rule(r)
		is(t, r, want, got, err)
		got, err = Program(rulesOf(r))
		is(t, r, want+"\n", got, err)
		holds(t, rulesOf(r))
		if _, _, err := parse.Parse(got); err != api.ErrForm {
			t.Error(key, err)
		}
		expIs(t, leaf(s), key)
		bad := fact(key)
		got, err = Rule(bad)
		refused(t, bad, api.ErrForm, got, err)
		unchanged(t, "rel "+key+"s(sym).\n"+key+"s("+key+"_).\n"+key+"s(X) :- "+key+"1(X).\n")
	}
}

func TestLongNames(t *testing.T) {
	name, v := strings.Repeat("n", 29)+"_09", "V"+strings.Repeat("aZ", 14)+"_09"
	r := term.Rule{Head: atomOf(name, variable(v), sym(name)), Agg: 3, Body: []term.Literal{
		plain(atomOf(name, variable(v))), negated(atomOf(name, sym(name))), compared(2, leaf(variable(v)), leaf(sym(name))),
	}}
	p := term.Program{Decls: []term.Decl{declOf(name, api.Sym)}, Rules: []term.Rule{r}}
	whole(t, p, "rel "+name+"(sym).\n"+name+"(min("+v+"), "+name+") :- "+name+"("+v+"), not "+name+"("+name+"), "+v+" != "+name+".\n")
	for _, bad := range []term.Rule{fact(name + "n"), fact("p", variable(v+"a")), fact("p", sym(name+"n"))} {
		got, err := Program(rulesOf(bad))
		refused(t, bad, api.ErrForm, got, err)
	}
}

// positions is a program with other positions.
func positions(p term.Program, at func() int) term.Program {
	q := term.Program{Decls: slices.Clone(p.Decls), Rules: slices.Clone(p.Rules)}
	for i := range q.Decls {
		q.Decls[i].At = at()
	}
	for i := range q.Rules {
		q.Rules[i].At = at()
		q.Rules[i].Body = slices.Clone(q.Rules[i].Body)
		for k := range q.Rules[i].Body {
			q.Rules[i].Body[k].At = at()
		}
	}
	return q
}

func TestPositions(t *testing.T) {
	s := "rel a(int).\nrel b().\np(X, sum(Y)) :- q(X, Y), not b(), X - 1 < Y.\np(1, 2).\n"
	p, _, err := parse.Parse(s)
	if err != nil {
		t.Fatal(err)
	}
	places := []int{0, -1, 1, 3999, 4000, 4001, math.MaxInt, math.MinInt}
	for _, at := range places {
		whole(t, positions(p, func() int { return at }), s)
	}
	n := 0
	whole(t, positions(p, func() int { n++; return places[n%len(places)] }), s)
	for _, at := range places {
		bad := rulesOf(term.Rule{At: at})
		got, err := Program(bad)
		refused(t, bad, api.ErrForm, got, err)
	}
}

// factOf is a fact whose line has so many bytes, from 4 to 237.
func factOf(n int) term.Rule {
	items := 0
	for n > 35+34*items-2*min(items, 1) {
		items++
	}
	left := n - 4 - 3*items + 2*min(items, 1)
	longer := func(s string) string {
		more := min(left, 31)
		left -= more
		return s + strings.Repeat("x", more)
	}
	r := fact(longer("p"))
	for i := range items {
		item := variable(longer("V"))
		if i%2 == 1 {
			item = sym("s" + item.Var[1:])
		}
		r.Head.Args = append(r.Head.Args, item)
	}
	return r
}

// filled is a program whose text has so many bytes, with a last rule.
func filled(t *testing.T, n int, last term.Rule) term.Program {
	t.Helper()
	left := n - len(spaced(wantRule(last))) - 1
	var p term.Program
	for left > 400 {
		p.Rules = append(p.Rules, factOf(199))
		left -= 200
	}
	p.Rules = append(p.Rules, factOf(left/2-1), factOf(left-left/2-1), last)
	if got := len(strings.Join(wantLines(p), "\n")) + 1; got != n {
		t.Fatal(got, n)
	}
	return p
}

// ruleOfLength is a rule whose line has so many bytes, from 1000 on, nearly all of them in an expression.
func ruleOfLength(t *testing.T, n int) term.Rule {
	t.Helper()
	leaves := (n + 500) / 36
	lengths := make([]int, leaves)
	build := func() term.Rule {
		var exps []term.Exp
		for _, k := range lengths {
			exps = append(exps, leaf(variable("V"+strings.Repeat("v", k))))
		}
		for len(exps) > 1 {
			var next []term.Exp
			for i := 0; i+1 < len(exps); i += 2 {
				next = append(next, node(1, exps[i], exps[i+1]))
			}
			exps = append(next, exps[len(exps)-len(exps)%2:]...)
		}
		return ruleOf(atomOf("p"), compared(1, leaf(x), exps[0]))
	}
	left := n - len(spaced(wantRule(build())))
	for i := range lengths {
		lengths[i] = min(31, left)
		left -= lengths[i]
	}
	r := build()
	if got := len(spaced(wantRule(r))); got != n {
		t.Fatal(got, n)
	}
	return r
}

// fits holds a program whose text has a length against the limit.
func fits(t *testing.T, p term.Program, n int) {
	t.Helper()
	lines := holds(t, p)
	want := strings.Join(lines, "\n") + "\n"
	got, err := Program(p)
	if len(want) != n {
		t.Fatal(len(want), n)
	}
	if n > 4000 {
		refused(t, n, api.ErrLarge, got, err)
		return
	}
	if is(t, n, want, got, err); len(got) != n {
		t.Fatal(len(got), n)
	}
	returns(t, p)
}

func TestLimit(t *testing.T) {
	for _, n := range []int{3998, 3999, 4000, 4001, 4002, 4200} {
		for _, last := range []term.Rule{
			fact("p"),
			ruleOf(atomOf("p", x), plain(atomOf("q", x)), negated(atomOf("q", y))),
			ruleOf(atomOf("p"), compared(1, chain(3, 20, true, leaf(x)), node(1, leaf(x), leaf(number(-5))))),
			{Head: atomOf("p", x), Agg: 4},
		} {
			fits(t, filled(t, n, last), n)
		}
		// A single line, whose line feed counts too.
		fits(t, rulesOf(ruleOfLength(t, n-1)), n)
		fits(t, rulesOf(fact("p"), ruleOfLength(t, n-6)), n)
		fits(t, rulesOf(ruleOfLength(t, n-6), fact("p")), n)
		fits(t, rulesOf(ruleOfLength(t, n/2-1), ruleOfLength(t, n-n/2-1)), n)
		// Declarations count as rules do.
		p := filled(t, n-9, fact("p"))
		p.Decls = append(p.Decls, declOf("r"))
		fits(t, p, n)
	}
}

// The limit is the one of a program's text alone.
func TestLongParts(t *testing.T) {
	for _, n := range []int{3999, 4000, 4001, 5000} {
		r := ruleOfLength(t, n)
		holds(t, rulesOf(r))
		if got, err := Rule(r); len(got) != n || err != nil {
			t.Error(n, len(got), err)
		}
	}
	e := longTree()
	expIs(t, e, spaced(wantExp(e)))
	if got, err := Exp(e); len(got) < 4001 || err != nil {
		t.Error(len(got), err)
	}
}

func TestMost(t *testing.T) {
	var p term.Program
	want := ""
	for i := range 32 {
		p.Decls = append(p.Decls, declOf("r"+strconv.Itoa(i), api.Int))
		want += "rel r" + strconv.Itoa(i) + "(int).\n"
	}
	for i := range 64 {
		p.Rules = append(p.Rules, fact("r"+strconv.Itoa(i/2), number(i)))
		want += "r" + strconv.Itoa(i/2) + "(" + strconv.Itoa(i) + ").\n"
	}
	whole(t, p, want)
	// As many long lines as there may be.
	p = term.Program{}
	kinds := slices.Repeat([]api.Kind{api.Sym}, 6)
	for range 32 {
		p.Decls = append(p.Decls, declOf(strings.Repeat("r", 32), kinds...))
	}
	for range 64 {
		p.Rules = append(p.Rules, long())
	}
	got, err := Program(p)
	refused(t, "the longest lines", api.ErrLarge, got, err)
	if lines := slices.Collect(Lines(p)); !slices.Equal(lines, wantLines(p)) {
		t.Error(len(lines))
	}
	// Declarations alone can't be too long.
	holds(t, term.Program{Decls: p.Decls})
}

// marked is a copy of a list with a mark behind its end.
func marked[T any](list []T, mark T) []T {
	return append(slices.Clone(list), mark)[:len(list)]
}

func markedExp(e term.Exp) term.Exp {
	var kids []term.Exp
	for _, kid := range e.Kids {
		kids = append(kids, markedExp(kid))
	}
	e.Kids = marked(kids, leaf(sym("mark")))
	return e
}

func markedAtom(a term.Atom) term.Atom {
	a.Args = marked(a.Args, sym("mark"))
	return a
}

// markedProgram is a program of which each list has room for a mark.
func markedProgram(p term.Program) term.Program {
	q := term.Program{Decls: marked(p.Decls, declOf("mark")), Rules: marked(p.Rules, fact("mark"))}
	for i := range q.Decls {
		q.Decls[i].Kinds = marked(q.Decls[i].Kinds, 9)
	}
	for i := range q.Rules {
		r := &q.Rules[i]
		r.Head, r.Body = markedAtom(r.Head), marked(r.Body, plain(atomOf("mark")))
		for k := range r.Body {
			l := &r.Body[k]
			l.Atom, l.Left, l.Right = markedAtom(l.Atom), markedExp(l.Left), markedExp(l.Right)
		}
	}
	return q
}

// open is all that there is in a program's lists, behind their ends too.
func open(x reflect.Value) []any {
	var list []any
	switch x.Kind() {
	case reflect.Struct:
		for i := range x.NumField() {
			list = append(list, open(x.Field(i))...)
		}
	case reflect.Slice:
		for i := range x.Cap() {
			list = append(list, open(x.Slice3(0, x.Cap(), x.Cap()).Index(i))...)
		}
	default:
		list = append(list, x.Interface())
	}
	return list
}

var sample = "rel a(int, sym).\nrel b().\np(X, sum(Y), c) :- q(X, Y), not b(), X - 1 < Y * (Z - 2).\np(1, 2, a).\np(X, Y, Z) :- q(-1, b), (X + Y) * Z != a.\n"

func TestArgumentsStay(t *testing.T) {
	p, at, err := parse.Parse(sample)
	if err != nil {
		t.Fatal(at, err)
	}
	q := markedProgram(p)
	before := open(reflect.ValueOf(q))
	whole(t, q, sample)
	if !reflect.DeepEqual(open(reflect.ValueOf(q)), before) {
		t.Errorf("the program is %+v", q)
	}
}

// Lines tells the program that it was given, whatever becomes of its lists later.
func TestNothingKept(t *testing.T) {
	want := strings.Split(strings.TrimSuffix(sample, "\n"), "\n")
	spoil := func(p term.Program) {
		for _, d := range p.Decls {
			clear(d.Kinds)
		}
		for _, r := range p.Rules {
			for _, l := range r.Body {
				clear(l.Atom.Args)
				clear(l.Left.Kids)
				clear(l.Right.Kids)
			}
			clear(r.Head.Args)
			clear(r.Body)
		}
		clear(p.Decls)
		clear(p.Rules)
	}
	p, _, _ := parse.Parse(sample)
	all := Lines(p)
	spoil(p)
	if got := slices.Collect(all); !slices.Equal(got, want) {
		t.Errorf("the lines are %q", got)
	}
	p, _, _ = parse.Parse(sample)
	all = Lines(p)
	var got []string
	for line := range all {
		spoil(p)
		got = append(got, line)
	}
	if !slices.Equal(got, want) || !slices.Equal(slices.Collect(all), want) {
		t.Errorf("the lines are %q", got)
	}
}

// Two loops over one iterator don't meet.
func TestLoopsWithin(t *testing.T) {
	p, _, _ := parse.Parse(sample)
	want := strings.Split(strings.TrimSuffix(sample, "\n"), "\n")
	all := Lines(p)
	n := 0
	for outer := range all {
		if got := slices.Collect(all); outer != want[n] || !slices.Equal(got, want) {
			t.Fatal(outer, got)
		}
		n++
	}
	if n != len(want) {
		t.Error(n)
	}
}

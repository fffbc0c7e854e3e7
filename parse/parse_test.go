package parse

import (
	"fmt"
	"math/rand"
	"reflect"
	"slices"
	"strings"
	"testing"

	"corollary/api"
	"corollary/lex"
	"corollary/term"
)

// told is what a function answers, in words, so that nil and empty lists are the same.
func told(x any, at int, err error) string { return fmt.Sprintf("%+v, %d, %v", x, at, err) }

// wantOf is what one of the functions has to answer.
func wantOf[T any](s, start string, make func([]lex.Token) T) string {
	var none T
	tokens, at, err := lex.List(s)
	if err != nil {
		return told(none, at, err)
	}
	if err, n := wantError(start, tokens); err != nil {
		at = len(s)
		if n < len(tokens) {
			at = tokens[n].At
		}
		return told(none, at, err)
	}
	return told(make(tokens), 0, nil)
}

// zeroes tells whether a value is zero if there is an error, and the offset is 0 if there is none.
func zeroes(x any, at int, err error) bool {
	if err == nil {
		return at == 0
	}
	_, known := err.(api.Errno)
	return known && reflect.ValueOf(x).IsZero()
}

// holds tells where the functions don't answer for a text what the chapter says.
func holds(t *testing.T, s string) {
	t.Helper()
	p, at, err := Parse(s)
	if got, want := told(p, at, err), wantOf(s, "program/0,0", wantProgram); got != want {
		t.Fatalf("Parse(%q) is\n%s, not\n%s", s, got, want)
	}
	if !zeroes(p, at, err) || !term.Formed(p) {
		t.Fatalf("Parse(%q) is %#v, %d, %v", s, p, at, err)
	}
	r, at, err := Rule(s)
	point := func(tokens []lex.Token) term.Rule { return wantRule(tokens[:len(tokens)-1]) }
	if got, want := told(r, at, err), wantOf(s, "rule", point); got != want {
		t.Fatalf("Rule(%q) is\n%s, not\n%s", s, got, want)
	}
	if !zeroes(r, at, err) || err == nil && !term.RightRule(r) {
		t.Fatalf("Rule(%q) is %#v, %d, %v", s, r, at, err)
	}
	a, at, err := Atom(s)
	if got, want := told(a, at, err), wantOf(s, "atom", wantAtom); got != want {
		t.Fatalf("Atom(%q) is\n%s, not\n%s", s, got, want)
	}
	if !zeroes(a, at, err) || err == nil && !term.RightLiteral(term.Literal{Kind: term.Pos, Atom: a}) {
		t.Fatalf("Atom(%q) is %#v, %d, %v", s, a, at, err)
	}
}

// refuses holds a text's error and its offset against those that are told by hand.
func refuses(t *testing.T, s string, err error, at int) {
	t.Helper()
	holds(t, s)
	if p, k, e := Parse(s); e != err || k != at || !reflect.DeepEqual(p, term.Program{}) {
		t.Errorf("Parse(%q) is %v, %d, %v, not %v at %d", s, p, k, e, err, at)
	}
}

// parses is a text's program.
func parses(t *testing.T, s string) term.Program {
	t.Helper()
	holds(t, s)
	p, at, err := Parse(s)
	if err != nil || at != 0 || !term.Formed(p) {
		t.Fatalf("Parse(%q) is %v at %d", s, err, at)
	}
	return p
}

// same holds a program against one that is told by hand, positions and all.
func same(t *testing.T, s string, want term.Program) {
	t.Helper()
	if got := parses(t, s); told(got, 0, nil) != told(want, 0, nil) {
		t.Errorf("Parse(%q) is\n%+v, not\n%+v", s, got, want)
	}
}

func variable(name string) term.Term { return term.Term{Var: name} }
func number(n int) term.Term         { return term.Term{Value: api.Value{Kind: api.Int, N: n}} }
func sym(s string) term.Term         { return term.Term{Value: api.Value{Kind: api.Sym, S: s}} }
func leaf(t term.Term) term.Exp      { return term.Exp{Term: t} }
func node(op int, left, right term.Exp) term.Exp {
	return term.Exp{Op: op, Kids: []term.Exp{left, right}}
}
func atom(rel string, args ...term.Term) term.Atom { return term.Atom{Rel: rel, Args: args} }
func fact(rel string, args ...term.Term) term.Rule { return term.Rule{Head: atom(rel, args...)} }
func rules(list ...term.Rule) term.Program         { return term.Program{Rules: list} }

var x, y, z = variable("X"), variable("Y"), variable("Z")

func TestExample(t *testing.T) {
	s := "p(X, count(Y)) :- q(X, Y), not r(Y), X < Y * 2."
	same(t, s, rules(term.Rule{Head: atom("p", x, y), Agg: 1, Column: 1, Body: []term.Literal{
		{Kind: term.Pos, Atom: atom("q", x, y), At: 18},
		{Kind: term.Neg, Atom: atom("r", y), At: 27},
		{Kind: term.Cmp, Op: 3, Left: leaf(x), Right: node(3, leaf(y), leaf(number(2))), At: 37},
	}}))
	r, at, err := Rule(s)
	if want := parses(t, s).Rules[0]; told(r, at, err) != told(want, 0, nil) {
		t.Error(told(r, at, err))
	}
	a, at, err := Atom("edge(X, b2, -3)")
	if told(a, at, err) != told(atom("edge", x, sym("b2"), number(-3)), 0, nil) {
		t.Error(told(a, at, err))
	}
}

func TestNothing(t *testing.T) {
	for _, s := range []string{"", " ", "\t\r\n ", "%", "% p().", " % a\n%b\r\n\t"} {
		same(t, s, term.Program{})
		for _, f := range []func(string) (int, error){
			func(s string) (int, error) { _, at, err := Rule(s); return at, err },
			func(s string) (int, error) { _, at, err := Atom(s); return at, err },
		} {
			if at, err := f(s); err != api.ErrForm || at != len(s) {
				t.Errorf("%q: %v at %d", s, err, at)
			}
		}
	}
}

func TestDeclarationsAndRules(t *testing.T) {
	s := " p(). rel a(). q(). rel b(int).%x\nrel c(sym, int). r() :- q()."
	at := func(part string) int { return strings.Index(s, part) }
	same(t, s, term.Program{
		Decls: []term.Decl{
			{Rel: "a", At: at("rel a")},
			{Rel: "b", Kinds: []api.Kind{api.Int}, At: at("rel b")},
			{Rel: "c", Kinds: []api.Kind{api.Sym, api.Int}, At: at("rel c")},
		},
		Rules: []term.Rule{
			{Head: atom("p"), At: 1},
			{Head: atom("q"), At: at("q()")},
			{Head: atom("r"), Body: []term.Literal{{Kind: term.Pos, Atom: atom("q"), At: len(s) - 4}}, At: at("r() :-")},
		},
	})
	for s, at := range map[string]int{
		"rel": 3, "rel ": 4, "rel p": 5, "rel p(": 6, "rel p(int": 9, "rel p(int,": 10, "rel p()": 7,
		"rel .": 4, "rel P().": 4, "rel rel().": 4, "rel int().": 4, "rel 1().": 4, "rel p.": 5, "rel p int.": 6,
		"rel p(X).": 6, "rel p(num).": 6, "rel p(1).": 6, "rel p(rel).": 6, "rel p(count).": 6, "rel p(,int).": 6,
		"rel p(int int).": 10, "rel p(int,).": 10, "rel p(int.": 9, "rel p((int)).": 6, "rel p() :- q().": 8,
		"rel p()..": 8, "rel p() rel q().": 8, "not p().": 0, "P().": 0, "1.": 0, ".": 0, ":-": 0, "int(X).": 0,
		"p.": 1, "p p().": 2, "p()..": 4, "p() q().": 4, "p() :- .": 7, "p() :-": 6, "p() , q().": 4, "p() = q.": 4,
	} {
		refuses(t, s, api.ErrForm, at)
	}
}

// listed is items with commas between, as many as told.
func listed(n int, item string) string {
	return strings.Join(slices.Repeat([]string{item}, n), ",")
}

func TestColumns(t *testing.T) {
	for n := range 7 {
		args := slices.Repeat([]term.Term{sym("a")}, n)
		items := listed(n, "a")
		same(t, "p("+items+").", rules(fact("p", args...)))
		same(t, "p():-q("+items+").", rules(term.Rule{Head: atom("p"), Body: []term.Literal{{Kind: term.Pos, Atom: atom("q", args...), At: 5}}}))
		same(t, "p():-not q("+items+").", rules(term.Rule{Head: atom("p"), Body: []term.Literal{{Kind: term.Neg, Atom: atom("q", args...), At: 5}}}))
		same(t, "rel p("+listed(n, "sym")+").", term.Program{Decls: []term.Decl{{Rel: "p", Kinds: slices.Repeat([]api.Kind{api.Sym}, n)}}})
	}
	for _, start := range []string{"p(", "p():-q(", "p():-not q(", "p() :- q(), r(", "rel p(", "p(count(X),"} {
		item, n := "1", 6
		if start == "rel p(" {
			item = "int"
		}
		if strings.HasPrefix(start, "p(c") {
			n = 5
		}
		full := start + listed(n, item)
		// A right token, wrong ones, and none, where the seventh would begin.
		for _, seventh := range []string{item, item + ").", "X", "max(X)).", ")", ").", ",", ",,", "(", ".", "rel", "- 1", "not", "%", "", "  "} {
			at := len(full) + 1
			if seventh == "%" || seventh == "  " {
				at += len(seventh)
			}
			refuses(t, full+","+seventh, api.ErrLarge, at)
		}
		refuses(t, full+" ,\n\t "+item, api.ErrLarge, len(full)+5)
		// Without the comma there is no seventh.
		refuses(t, full, api.ErrForm, len(full))
		refuses(t, full+".", api.ErrForm, len(full))
		refuses(t, full+" "+item, api.ErrForm, len(full)+1)
	}
	if a, at, err := Atom("p(1,2,3,4,5,6,7)"); err != api.ErrLarge || at != 14 || !reflect.DeepEqual(a, term.Atom{}) {
		t.Error(a, at, err)
	}
	if r, at, err := Rule("p(1,2,3,4,5,6,"); err != api.ErrLarge || at != 14 || !reflect.DeepEqual(r, term.Rule{}) {
		t.Error(r, at, err)
	}
}

func TestAggregates(t *testing.T) {
	for n, agg := range []string{"count", "sum", "min", "max"} {
		for columns := 1; columns <= 6; columns++ {
			for column := range columns {
				items := slices.Repeat([]string{"a"}, columns)
				args := slices.Repeat([]term.Term{sym("a")}, columns)
				items[column], args[column] = agg+"(X)", x
				same(t, "p("+strings.Join(items, ", ")+").", rules(term.Rule{Head: atom("p", args...), Agg: n + 1, Column: column}))
			}
		}
		for item, at := range map[string]int{
			"": 0, " ": 1, ")": 0, " X)": 1, " X": 1, "(1)": 1, "(-1)": 1, "(a)": 1, "()": 1, "(X": 2, "(X,Y)": 2, "((X))": 1,
			"(count(X))": 1, "(X))": 4, "(X) X": 4, "(X Y)": 3, "(X + 1)": 3, "(rel)": 1, ", X)": 0,
		} {
			at += len("p(" + agg)
			s := "p(" + agg + item
			if !strings.HasSuffix(item, "))") && strings.HasSuffix(item, ")") {
				s += ")."
			}
			refuses(t, s, api.ErrForm, at)
		}
		for m, second := range []string{"count", "sum", "min", "max"} {
			refuses(t, "p("+agg+"(X), "+second+"(Y)).", api.ErrForm, len("p("+agg+"(X), "))
			refuses(t, "p(a, "+agg+"(X), b, "+second+"(X)).", api.ErrForm, len("p(a, "+agg+"(X), b, "))
			if m == n {
				refuses(t, "p("+agg+"(X),"+agg+".", api.ErrForm, len("p("+agg+"(X),"))
			}
		}
		// An aggregate stands in heads alone.
		refuses(t, "p() :- q("+agg+"(X)).", api.ErrForm, 9)
		refuses(t, "p() :- not q(a, "+agg+"(X)).", api.ErrForm, 16)
		refuses(t, "p() :- "+agg+"(X) = 1.", api.ErrForm, 7)
		refuses(t, "p() :- 1 = "+agg+"(X).", api.ErrForm, 11)
		refuses(t, agg+"(X).", api.ErrForm, 0)
		if _, at, err := Atom("p(" + agg + "(X))"); err != api.ErrForm || at != 2 {
			t.Error(at, err)
		}
	}
	// Each rule has one of its own.
	p := parses(t, "p(count(X)). q(Y). r(a, max(Y)).")
	for i, want := range [][2]int{{1, 0}, {0, 0}, {4, 1}} {
		if r := p.Rules[i]; [2]int{r.Agg, r.Column} != want {
			t.Error(i, r)
		}
	}
}

func TestBodies(t *testing.T) {
	literals := []string{"q(X)", "not q(X)", "X = 1", "q"}
	for n := 1; n <= 8; n++ {
		for i, l := range literals[:3] {
			p := parses(t, "p() :- "+listed(n, l)+".")
			body := p.Rules[0].Body
			if len(body) != n {
				t.Fatal(n, l, p)
			}
			for k, b := range body {
				if b.At != 7+k*(len(l)+1) || int(b.Kind) != i+1 {
					t.Error(n, k, b)
				}
			}
		}
	}
	for _, l := range literals[:3] {
		full := "p() :- " + listed(8, l)
		for _, ninth := range append(literals, ".", ",", ")", ":-", "rel", "=", "-", "", " ", "% q()", "count") {
			at := len(full) + 1
			if strings.HasPrefix(ninth, "%") || ninth == " " {
				at += len(ninth)
			}
			refuses(t, full+","+ninth, api.ErrLarge, at)
			if r, k, err := Rule(full + "," + ninth); err != api.ErrLarge || k != at || !reflect.DeepEqual(r, term.Rule{}) {
				t.Error(r, k, err)
			}
		}
		refuses(t, full, api.ErrForm, len(full))
		refuses(t, full+" "+l, api.ErrForm, len(full)+1)
		refuses(t, full+":-", api.ErrForm, len(full))
		// The limit is a rule's, not the program's.
		if p := parses(t, full+"."+full+"."); len(p.Rules[0].Body) != 8 || len(p.Rules[1].Body) != 8 {
			t.Error(p)
		}
	}
	for s, at := range map[string]int{
		"p() :- q()": 10, "p() :- q(),": 11, "p() :- q(),.": 11, "p() :- q() q().": 11, "p() :- q() :- r().": 11,
		"p() :- ,q().": 7, "p() :- q(),,r().": 11, "p() :- :- q().": 7, "p() :- rel q().": 7, "p() :- q(). .": 12,
		"p() := q().": 4, "p() not q().": 4,
	} {
		refuses(t, s, api.ErrForm, at)
	}
}

func TestLiterals(t *testing.T) {
	body := func(s string) term.Literal {
		t.Helper()
		l := parses(t, "p() :- "+s+".").Rules[0].Body[0]
		if l.At != 7 {
			t.Error(s, l)
		}
		l.At = 0
		return l
	}
	for n, sign := range []string{"=", "!=", "<", "<=", ">", ">="} {
		for _, blank := range []string{"", " "} {
			got := body("X" + blank + sign + blank + "a")
			if want := (term.Literal{Kind: term.Cmp, Op: n + 1, Left: leaf(x), Right: leaf(sym("a"))}); told(got, 0, nil) != told(want, 0, nil) {
				t.Error(got)
			}
			// A name ahead of a comparison is a symbol.
			got = body("q" + blank + sign + blank + "-1")
			if want := (term.Literal{Kind: term.Cmp, Op: n + 1, Left: leaf(sym("q")), Right: leaf(number(-1))}); told(got, 0, nil) != told(want, 0, nil) {
				t.Error(got)
			}
		}
	}
	// A name ahead of a parenthesis is a relation.
	for _, s := range []string{"q(a)", "q (a)", "q%\n( a )"} {
		if got := body(s); told(got, 0, nil) != told(term.Literal{Kind: term.Pos, Atom: atom("q", sym("a"))}, 0, nil) {
			t.Error(got)
		}
		if got := body("not " + s); told(got, 0, nil) != told(term.Literal{Kind: term.Neg, Atom: atom("q", sym("a"))}, 0, nil) {
			t.Error(got)
		}
	}
	for _, s := range []string{"q + 1 = 2", "q * 2 < X", "(q) = 1", "(q)+(q) = (q)", "q - (1) = 1"} {
		if got := body(s); got.Kind != term.Cmp || got.Atom.Rel != "" {
			t.Error(s, got)
		}
	}
	for s, at := range map[string]int{
		"q": 1, "X": 1, "1": 1, "-1": 2, "-": 1, "- 1": 3, "(X)": 3, "(X": 2, "X = ": 4, "X =": 3, "X + = 1": 4, "X = = 1": 4,
		"X = 1 = 1": 6, "X < Y < Z": 6, "X = 1 + ": 8, "X = 1 *": 7, "X = * 1": 4, "= 1": 0, "X X": 2, "X 1": 2, "X(1)": 1,
		"1(1)": 1, "q(X) = 1": 5, "q(X) + 1 = 1": 5, "X = q(Y)": 5, "X = 1 + q(Y)": 9, "(q(X))": 2, "not": 3, "not X": 4,
		"not X < 1": 4, "not not q()": 4, "not (q())": 4, "not q": 5, "not q = 1": 6, "not 1": 4, "not rel()": 4,
		"X = ()": 5, "X = (1": 6, "X = (1 1)": 7, "X = 1)": 5, "X = (1, 2)": 6, "X = (1 = 1)": 7, "(X = 1)": 3,
		"X = + 1": 4, "X = -": 5, "X = -a": 5, "X = -Y": 5, "X = -(1)": 5, "X = --1": 5, "X = 1 - -": 9, "X = 1 - - a": 10,
		"X = int": 4, "X = not": 4, "count = 1": 0, "rel = 1": 0, "X = a b": 6, "q(-)": 3, "q(-a)": 3, "q(- Y)": 4, "q(--1)": 3,
		"q(1 + 1)": 4, "q((1))": 2, "q(X Y)": 4, "q(,)": 2, "q(X,)": 4, "q(": 2, "q(X": 3, "q(X,": 4, "q(not)": 2, "q(q())": 3,
	} {
		// A text that ends too early is refused at its end; with a token behind, at that token.
		if at == len(s) {
			refuses(t, "p() :- "+s, api.ErrForm, 7+at)
			refuses(t, "p() :- "+s+" ", api.ErrForm, 8+at)
			refuses(t, "p() :- "+s+" .", api.ErrForm, 8+at)
			continue
		}
		refuses(t, "p() :- "+s+".", api.ErrForm, 7+at)
	}
}

// side is what stands on the right of a comparison.
func side(t *testing.T, s string) term.Exp {
	t.Helper()
	e := parses(t, "p():-X="+s+".").Rules[0].Body[0].Right
	if l := parses(t, "p():-"+s+"=X.").Rules[0].Body[0].Left; told(l, 0, nil) != told(e, 0, nil) {
		t.Errorf("%q is %v on the left, %v on the right", s, l, e)
	}
	return e
}

func TestExpressions(t *testing.T) {
	a, b, c := leaf(x), leaf(y), leaf(z)
	for op1, sign1 := range []string{"", "+", "-", "*"} {
		if op1 == 0 {
			continue
		}
		if got := side(t, "X "+sign1+" Y"); told(got, 0, nil) != told(node(op1, a, b), 0, nil) {
			t.Error(sign1, got)
		}
		for op2, sign2 := range []string{"", "+", "-", "*"} {
			if op2 == 0 {
				continue
			}
			left, right := node(op2, node(op1, a, b), c), node(op1, a, node(op2, b, c))
			want := left
			if op2 == 3 && op1 != 3 {
				want = right
			}
			for s, want := range map[string]term.Exp{
				"X" + sign1 + "Y" + sign2 + "Z":         want,
				"(X" + sign1 + "Y)" + sign2 + "Z":       left,
				"X" + sign1 + "(Y" + sign2 + "Z)":       right,
				"((X)" + sign1 + "((Y" + sign2 + "Z)))": right,
			} {
				if got := side(t, s); told(got, 0, nil) != told(want, 0, nil) {
					t.Errorf("%s is %v, not %v", s, got, want)
				}
			}
		}
	}
	one, two := leaf(number(1)), leaf(number(-2))
	for s, want := range map[string]term.Exp{
		"1 - -2": node(2, one, two), "1--2": node(2, one, two), "1 * -2": node(3, one, two), "1 + - 2": node(1, one, two),
		"-2": two, "- 2": two, "-%\n2": two, "(-2)": two, "(((1)))": one, "-2 - 1": node(2, two, one), "-2-1": node(2, two, one),
		"1-2":   node(2, one, leaf(number(2))),
		"- 2*1": node(3, two, one), "(- 2)*1": node(3, two, one),
		"a-b":           node(2, leaf(sym("a")), leaf(sym("b"))),
		"1 + 1 - 1 + 1": node(1, node(2, node(1, one, one), one), one),
		"1 * 1 * 1 * 1": node(3, node(3, node(3, one, one), one), one),
		"1 - 1 - 1 - 1": node(2, node(2, node(2, one, one), one), one),
		"1+1*1*1-1*1":   node(2, node(1, one, node(3, node(3, one, one), one)), node(3, one, one)),
		"(1+1)*(1-1)":   node(3, node(1, one, one), node(2, one, one)),
	} {
		if got := side(t, s); told(got, 0, nil) != told(want, 0, nil) {
			t.Errorf("%s is %v, not %v", s, got, want)
		}
	}
}

func TestTerms(t *testing.T) {
	long := strings.Repeat("a", 32)
	for s, want := range map[string]term.Term{
		"X": x, "a": sym("a"), "0": number(0), "-0": number(0), "1": number(1), "-1": number(-1), "2147483647": number(1<<31 - 1),
		"-2147483647": number(1 - 1<<31), "-\n7": number(-7), long: sym(long), "X" + long[1:]: variable("X" + long[1:]), "counts": sym("counts"),
		"rel_": sym("rel_"), "Rel": variable("Rel"), "x_1": sym("x_1"),
	} {
		same(t, "p("+s+").", rules(fact("p", want)))
		same(t, "p() :- q("+s+").", rules(term.Rule{Head: atom("p"), Body: []term.Literal{{Kind: term.Pos, Atom: atom("q", want), At: 7}}}))
		if got := side(t, s); told(got, 0, nil) != told(leaf(want), 0, nil) {
			t.Error(s, got)
		}
		if a, at, err := Atom("p(" + s + ")"); told(a, at, err) != told(atom("p", want), 0, nil) {
			t.Error(s, a, at, err)
		}
	}
	for _, s := range []string{"rel", "int", "sym", "not", "count", "sum", "min", "max"} {
		if !slices.Contains([]string{"count", "sum", "min", "max"}, s) {
			refuses(t, "p("+s+").", api.ErrForm, 2)
		}
		refuses(t, "p() :- q("+s+").", api.ErrForm, 9)
		refuses(t, "p() :- X = "+s+".", api.ErrForm, 11)
		if s != "not" {
			refuses(t, s+"s() :- "+s+"().", api.ErrForm, len(s)+7)
		}
	}
}

func wrapped(n int, s string) string { return strings.Repeat("(", n) + s + strings.Repeat(")", n) }

func TestNested(t *testing.T) {
	for _, n := range []int{0, 1, 19, 20} {
		for _, s := range []string{wrapped(n, "1"), wrapped(n, "1") + "+" + wrapped(n, "1"), strings.Repeat("(1*", n) + "1" + strings.Repeat(")", n)} {
			side(t, s)
		}
	}
	if e := side(t, wrapped(20, "1")); told(e, 0, nil) != told(leaf(number(1)), 0, nil) {
		t.Error(e)
	}
	for _, n := range []int{21, 22, 60} {
		for _, s := range []string{wrapped(n, "1"), strings.Repeat("(", n), strings.Repeat("(", n) + ")", wrapped(n, ""), wrapped(n, "= .")} {
			refuses(t, "p() :- "+s+" = 1.", api.ErrDeep, 27)
			refuses(t, "p() :- 1 = "+s+".", api.ErrDeep, 31)
			refuses(t, "p() :- 1 + "+s+" = 1.", api.ErrDeep, 31)
			refuses(t, "p() :- 1 = 1 * "+s, api.ErrDeep, 35)
			refuses(t, "p() :- 1 = "+wrapped(20, "1")+"-"+s, api.ErrDeep, 11+41+1+20)
			refuses(t, "p() :- "+wrapped(20, "1")+" = "+s, api.ErrDeep, 7+41+3+20)
			refuses(t, "p() :- q(), 1 = "+s, api.ErrDeep, 36)
		}
	}
	refuses(t, "p() :- 1 = "+strings.Repeat("(", 20)+"1 + ( 1 )", api.ErrDeep, 35)
	refuses(t, "p() :- 1 = "+strings.Repeat("(1*", 20)+"(", api.ErrDeep, 11+60)
	// What is wrong ahead of it comes first; a list's parentheses aren't counted.
	refuses(t, "p() :- 1 + ) = "+wrapped(21, "1"), api.ErrForm, 11)
	refuses(t, "p() :- "+strings.Repeat("(", 20)+"q"+strings.Repeat("(", 2), api.ErrForm, 28)
	refuses(t, strings.Repeat("(", 21), api.ErrForm, 0)
	refuses(t, "p"+strings.Repeat("(", 21), api.ErrForm, 2)
	refuses(t, "p() :- not "+strings.Repeat("(", 21), api.ErrForm, 11)
	parses(t, "p() :- "+listed(8, wrapped(20, "1")+"="+wrapped(20, "1"))+".")
}

func TestDepth(t *testing.T) {
	chain := func(n int, sign string) string { return "1" + strings.Repeat(sign+"1", n) }
	shapes := []func(n int) string{
		func(n int) string { return chain(n, " + ") },
		func(n int) string { return chain(n, "-") },
		func(n int) string { return chain(n, "*") },
		func(n int) string { return chain(n-1, "*") + "+1" },
		func(n int) string { return "1-" + chain(n-1, " * ") },
		func(n int) string { return "X * (" + chain(n-1, "+") + ")" },
		func(n int) string { return "(" + chain(n-2, "*") + "- a) * X" },
		func(n int) string { return strings.Repeat("(1+", n-1) + "1*1" + strings.Repeat(")", n-1) },
		func(n int) string { return strings.Repeat("1-(", n-2) + "1*1*1" + strings.Repeat(")", n-2) },
		func(n int) string { return "((" + chain(n-3, "+") + ")*2)*(((3))*-1)+1" },
	}
	for i, shape := range shapes {
		for _, n := range []int{5, 19, 20} {
			if e := side(t, shape(n)); depth(e) != n {
				t.Fatal(i, n, depth(e))
			}
			parses(t, "p() :- "+shape(n)+" <= "+shape(20)+".")
		}
		for _, n := range []int{21, 22} {
			if i == 7 && n > 21 { // It would have more than 20 parentheses.
				continue
			}
			s := shape(n)
			refuses(t, "p() :- 1 = "+s+".", api.ErrDeep, 7)
			refuses(t, "p() :- "+s+" = 1.", api.ErrDeep, 7)
			refuses(t, "p() :- "+s+" = "+s+".", api.ErrDeep, 7)
			refuses(t, "p() :- q(), X=1, \n"+s+" = 1, "+s+"= 2.", api.ErrDeep, 18)
			refuses(t, "rel p(). p(). p() :- 1 = 1, 1 = "+s+", q().", api.ErrDeep, 28)
			// The comparison is whole, whatever is behind it.
			for _, end := range []string{"", " ", ")", "(", "X", "1", ",", "=", " = 1", ":-", "not", "rel", ", )"} {
				refuses(t, "p() :- 1 = "+s+" "+end, api.ErrDeep, 7)
			}
			// It isn't, and what is wrong comes first.
			for _, more := range []string{"", ".", "q", ")", "1", "not", "(", ",", ":-"} {
				refuses(t, "p() :- "+s+" "+more, api.ErrForm, 7+len(s)+1)
			}
			for _, sign := range []string{"+", "-", "*"} {
				refuses(t, "p() :- 1 = "+s+sign, api.ErrForm, 11+len(s)+1)
				refuses(t, "p() :- 1 = "+s+sign+")", api.ErrForm, 11+len(s)+1)
				refuses(t, "p() :- 1 = "+s+sign+wrapped(21, "1"), api.ErrDeep, 11+len(s)+1+20)
			}
			refuses(t, "p() :- "+s+" = ", api.ErrForm, 7+len(s)+3)
			refuses(t, "p() :- "+s+" = .", api.ErrForm, 7+len(s)+3)
			refuses(t, "p() :- "+s+" = "+wrapped(21, "1")+".", api.ErrDeep, 7+len(s)+3+20)
			refuses(t, "p() :- "+wrapped(21, "1")+" = "+s+".", api.ErrDeep, 27)
		}
	}
	parses(t, "p() :- X = "+wrapped(20, "1")+strings.Repeat(" + 1", 20)+".")
	refuses(t, "p() :- X = "+wrapped(20, "1")+strings.Repeat(" + 1", 21)+".", api.ErrDeep, 7)
	refuses(t, "p() :- X = 1"+strings.Repeat("+1", 1900)+".", api.ErrDeep, 7)
	refuses(t, "p() :- "+strings.Repeat("1*", 1900), api.ErrForm, 7+3800)
}

func TestManyStatements(t *testing.T) {
	for decls := 30; decls <= 33; decls++ {
		for _, count := range []int{0, 1, 64} {
			s := strings.Repeat("rel p().", decls) + strings.Repeat("p().", count)
			if decls == 33 {
				refuses(t, s, api.ErrLarge, 8*32)
				continue
			}
			if p := parses(t, s); len(p.Decls) != decls || len(p.Rules) != count {
				t.Error(p)
			}
		}
	}
	for count := 62; count <= 65; count++ {
		for _, decls := range []int{0, 1, 32} {
			s := strings.Repeat("p():-q().", count) + strings.Repeat("rel p().", decls)
			if count == 65 {
				refuses(t, s, api.ErrLarge, 9*64)
				continue
			}
			if p := parses(t, s); len(p.Decls) != decls || len(p.Rules) != count {
				t.Error(p)
			}
		}
	}
	decls, facts := strings.Repeat("rel p().", 32), strings.Repeat("p().", 64)
	// Mixed, each kind is counted by itself.
	mixed := strings.Repeat("p(). rel p(). p(). ", 32)
	if p := parses(t, mixed); len(p.Decls) != 32 || len(p.Rules) != 64 {
		t.Error(p)
	}
	for _, full := range []string{decls + facts, facts + decls, mixed} {
		for _, token := range []string{"rel", "p", "X", "1", ")", ".", ",", "not", ":-", "-", "int"} {
			refuses(t, full+token, api.ErrLarge, len(full))
			refuses(t, full+" %\n"+token+" .", api.ErrLarge, len(full)+3)
		}
		for _, end := range []string{"", " ", "%rel"} {
			parses(t, full+end)
		}
	}
	// Behind 32 declarations another one begins with rel, and anything else where a rule might begin is wrong for a rule.
	for _, end := range []string{"rel", "rel q", "rel )", "rel rel"} {
		refuses(t, decls+end, api.ErrLarge, len(decls))
	}
	for _, end := range []string{")", "X", "1", ".", "not", ":-"} {
		refuses(t, decls+end, api.ErrForm, len(decls))
	}
	refuses(t, decls+"p", api.ErrForm, len(decls)+1)
	// Behind 64 rules a declaration may begin; at any other token the rule that is too many would.
	for _, end := range []string{"p", "p().", "X", "1", ")", ".", "not", ":-"} {
		refuses(t, facts+end, api.ErrLarge, len(facts))
	}
	refuses(t, facts+"rel", api.ErrForm, len(facts)+3)
	refuses(t, facts+"rel X", api.ErrForm, len(facts)+4)
	// What is wrong ahead of it comes first.
	refuses(t, "p() "+facts+"p().", api.ErrForm, 4)
	refuses(t, facts+"rel ().p().", api.ErrForm, len(facts)+4)
}

func TestErrorsOfTokens(t *testing.T) {
	bad := map[string]error{"$": api.ErrForm, "aB": api.ErrForm, "01": api.ErrForm, "2147483648": api.ErrForm, "!": api.ErrForm, ":": api.ErrForm,
		"_": api.ErrForm, "\x00": api.ErrForm, "é": api.ErrForm, "X" + strings.Repeat("x", 32): api.ErrForm}
	for token, err := range bad {
		for _, start := range []string{"", "p() :- ", ") p(). ", "p(", "p(1,2,3,4,5,6,7). ", "p() :- X = " + strings.Repeat("(", 21) + " ", "p(). % x\n"} {
			for _, end := range []string{"", " ", " . ) (", " $"} {
				s := start + token + end
				refuses(t, s, err, len(start))
				if r, at, e := Rule(s); e != err || at != len(start) || !reflect.DeepEqual(r, term.Rule{}) {
					t.Error(s, r, at, e)
				}
				if a, at, e := Atom(s); e != err || at != len(start) || !reflect.DeepEqual(a, term.Atom{}) {
					t.Error(s, a, at, e)
				}
			}
		}
	}
	for _, start := range []string{"p().", "p(", ") ", "$", ""} {
		whole := start + strings.Repeat(" ", 4000-len(start))
		holds(t, whole)
		refuses(t, whole+" ", api.ErrLarge, 4000)
		refuses(t, whole+strings.Repeat("$", 5000), api.ErrLarge, 4000)
	}
	if p, at, err := Parse("p()." + strings.Repeat(" ", 3996)); err != nil || at != 0 || len(p.Rules) != 1 {
		t.Error(p, at, err)
	}
	if a, at, err := Atom("p()" + strings.Repeat(" ", 3998)); err != api.ErrLarge || at != 4000 || !reflect.DeepEqual(a, term.Atom{}) {
		t.Error(a, at, err)
	}
}

func TestFollowing(t *testing.T) {
	for _, rule := range []string{"p().", " p(X) :- q(X), X = 1.", "p(count(X)).\n"} {
		if r, at, err := Rule(rule); err != nil || at != 0 || !term.RightRule(r) {
			t.Error(rule, r, at, err)
		}
		for _, more := range vocabulary {
			if r, at, err := Rule(rule + " " + more); err != api.ErrForm || at != len(rule)+1 || !reflect.DeepEqual(r, term.Rule{}) {
				t.Error(rule, more, r, at, err)
			}
			holds(t, rule+" "+more)
		}
		if r, at, err := Rule(rule + " %x"); err != nil || at != 0 || r.Head.Rel != "p" {
			t.Error(rule, r, at, err)
		}
	}
	for _, a := range []string{"p()", " p(X, -1)", "p ( a ) "} {
		if got, at, err := Atom(a); err != nil || at != 0 || got.Rel != "p" {
			t.Error(a, got, at, err)
		}
		for _, more := range vocabulary {
			if got, at, err := Atom(a + " " + more); err != api.ErrForm || at != len(a)+1 || !reflect.DeepEqual(got, term.Atom{}) {
				t.Error(a, more, got, at, err)
			}
			holds(t, a+" "+more)
		}
	}
	for s, at := range map[string]int{"rel p().": 0, "p()": 3, "p() :- q()": 10, "p(). p().": 5, "p(). rel q().": 5, "X": 0, "p": 1} {
		if r, k, err := Rule(s); err != api.ErrForm || k != at || !reflect.DeepEqual(r, term.Rule{}) {
			t.Error(s, r, k, err)
		}
	}
	for s, at := range map[string]int{"rel p()": 0, "p": 1, "p(": 2, "not p()": 0, "X(1)": 0, "p(X,)": 4, "p(Y) :- q(Y).": 5, "p() p()": 4, "p(X+1)": 3, "p((X))": 2} {
		if a, k, err := Atom(s); err != api.ErrForm || k != at || !reflect.DeepEqual(a, term.Atom{}) {
			t.Error(s, a, k, err)
		}
	}
}

// vocabulary has each key and sign, and some of the other words.
var vocabulary = strings.Fields("rel int sym not count sum min max a p X 1 0 2147483647 :- != <= >= ( ) , . = < > + - *")

// samples are right texts.
var samples = []string{
	"rel p(int, sym). rel q(). p(1, a).",
	"p(X, count(Y)) :- q(X, Y), not r(Y), X < Y * 2.",
	"p() :- a = b, a(b), X != -1 + 2 - (3 * Y), (Z) >= (4).",
	"rel r(sym). r(a). s(max(X), -3) :- X = 1, not t(), r(X, -5). rel t().",
	"p(a, b, c, d, e, f) :- q(a, b, c, d, e, f), 1 <= 2, 1 > 2, 1 < 2.",
	"p(sum(X), 2, 3, 4, 5, 6) :- a(), b(), c(), d(), e(), f(), g(), h().",
}

// texts is the texts of tokens.
func texts(t *testing.T, s string) []string {
	tokens, _, err := lex.List(s)
	if err != nil {
		t.Fatal(s, err)
	}
	var list []string
	for _, token := range tokens {
		list = append(list, token.Text)
	}
	return list
}

func TestFaults(t *testing.T) {
	for _, s := range samples {
		parses(t, s)
		list := texts(t, s)
		for i := range list {
			// The text that ends ahead of the token.
			ended := strings.Join(list[:i], " ")
			holds(t, ended)
			if p, at, err := Parse(ended); i > 0 && list[i-1] != "." && (err != api.ErrForm || at != len(ended) || !reflect.DeepEqual(p, term.Program{})) {
				t.Errorf("Parse(%q) is %v, %d, %v", ended, p, at, err)
			}
			holds(t, strings.Join(slices.Delete(slices.Clone(list), i, i+1), " "))
			holds(t, strings.Join(slices.Insert(slices.Clone(list), i, list[i]), " "))
			for _, other := range append(vocabulary, "$") {
				changed := slices.Clone(list)
				changed[i] = other
				holds(t, strings.Join(changed, " "))
				holds(t, strings.Join(slices.Insert(slices.Clone(list), i, other), " "))
			}
		}
	}
}

// shorts is all texts of up to so many tokens, behind a beginning.
func shorts(t *testing.T, start string, n int, from []string) {
	holds(t, start)
	if n == 0 {
		return
	}
	for _, token := range from {
		shorts(t, start+" "+token, n-1, from)
	}
}

func TestShortTexts(t *testing.T) {
	few := strings.Fields("rel int not max a X 1 :- = ( ) , . + - *")
	shorts(t, "", 3, vocabulary)
	shorts(t, "p(", 3, few)
	shorts(t, "p(X, min(", 3, few)
	shorts(t, "p() :-", 3, few)
	shorts(t, "p() :- X", 3, few)
	shorts(t, "p() :- X = (", 3, few)
	shorts(t, "p() :- a (", 3, few)
	shorts(t, "p(a, b, c, d, e, f", 2, vocabulary)
	shorts(t, "p() :- a(),a(),a(),a(),a(),a(),a(),1=1", 2, few)
	shorts(t, "p() :- 1 = "+strings.Repeat("(", 19), 2, few)
	shorts(t, "p() :- 1 = 1"+strings.Repeat("*1", 19), 2, few)
	shorts(t, strings.Repeat("p().", 63)+"p()", 2, vocabulary)
	shorts(t, strings.Repeat("rel p().", 31)+"rel p()", 2, vocabulary)
}

// draw draws right texts, as lists of tokens.
type draw struct{ *rand.Rand }

func (d draw) pick(of ...string) string { return of[d.Intn(len(of))] }

func (d draw) name() string {
	return d.pick("a", "b", "p", "q1", "edge", "a_b", "relation", "nots", "mini")
}

func (d draw) value() []string {
	switch d.Intn(4) {
	case 0:
		return []string{d.name()}
	case 1:
		return []string{d.pick("0", "1", "17", "2147483647")}
	case 2:
		return []string{"-", d.pick("0", "1", "17", "2147483647")}
	}
	return []string{d.pick("X", "Y", "Z", "Rel", "X1", "A_b")}
}

// most is a number up to one, and often that one.
func (d draw) most(n int) int {
	if d.Intn(8) == 0 {
		return n
	}
	return d.Intn(n + 1)
}

func (d draw) list(n int, item func() []string) []string {
	list := []string{"("}
	for i := range n {
		if i > 0 {
			list = append(list, ",")
		}
		list = append(list, item()...)
	}
	return append(list, ")")
}

func (d draw) atom() []string {
	return append([]string{d.name()}, d.list(d.most(6), d.value)...)
}

func (d draw) expression(deep int) []string {
	if deep == 0 || d.Intn(3) == 0 {
		return d.value()
	}
	if d.Intn(4) == 0 {
		return slices.Concat([]string{"("}, d.expression(deep-1), []string{")"})
	}
	return slices.Concat(d.expression(deep-1), []string{d.pick("+", "-", "*")}, d.expression(deep-1))
}

func (d draw) literal() []string {
	switch d.Intn(4) {
	case 0:
		return append([]string{"not"}, d.atom()...)
	case 1:
		return d.atom()
	}
	return slices.Concat(d.expression(d.Intn(6)), []string{d.pick("=", "!=", "<", "<=", ">", ">=")}, d.expression(d.Intn(6)))
}

func (d draw) head() []string {
	n := d.most(6)
	at := d.Intn(12)
	i := -1
	return append([]string{d.name()}, d.list(n, func() []string {
		if i++; i == at {
			return []string{d.pick("count", "sum", "min", "max"), "(", d.pick("X", "Y"), ")"}
		}
		return d.value()
	})...)
}

func (d draw) rule() []string {
	list := d.head()
	sign := ":-"
	for range d.most(8) {
		list = append(append(list, sign), d.literal()...)
		sign = ","
	}
	return append(list, ".")
}

func (d draw) declaration() []string {
	kinds := d.list(d.most(6), func() []string { return []string{d.pick("int", "sym")} })
	return slices.Concat([]string{"rel", d.name()}, kinds, []string{"."})
}

func (d draw) program() []string {
	var list []string
	for range d.Intn(5) {
		if d.Intn(3) == 0 {
			list = append(list, d.declaration()...)
		} else {
			list = append(list, d.rule()...)
		}
	}
	return list
}

// spoil leaves out, doubles, inserts, changes or swaps some tokens.
func (d draw) spoil(list []string) []string {
	list = slices.Clone(list)
	for range 1 + d.Intn(2) {
		if len(list) < 2 {
			return list
		}
		i, j := d.Intn(len(list)), d.Intn(len(list))
		switch d.Intn(5) {
		case 0:
			list = slices.Delete(list, i, i+1)
		case 1:
			list = slices.Insert(list, i, list[i])
		case 2:
			list = slices.Insert(list, i, d.pick(vocabulary...))
		case 3:
			list[i] = d.pick(vocabulary...)
		case 4:
			list[i], list[j] = list[j], list[i]
		}
	}
	return list
}

// blank is a blank or a comment, or some of them.
func (d draw) blank() string {
	s := ""
	for range 1 + d.Intn(3) {
		s += d.pick(" ", "\t", "\n", "\r", "\r\n", "% p(X) :- $.\n", "%\n", "%%, \x00\n", "%\r\n")
	}
	return s
}

// spread is tokens with blanks and comments ahead of them, between them and behind them; some stand side by side.
func (d draw) spread(list []string) string {
	s := d.pick("", d.blank())
	for i, text := range list {
		if i > 0 && (d.Intn(3) > 0 || !apart(list[i-1], text)) {
			s += d.blank()
		}
		s += text
	}
	return s + d.pick("", d.blank(), "% the end", "%")
}

// apart tells whether two tokens side by side are the same two tokens.
func apart(a, b string) bool {
	tokens, _, err := lex.List(a + b)
	return err == nil && len(tokens) == 2 && tokens[0].Text == a
}

// placed is what a function answers for a text, with the numbers of tokens in place of offsets.
func placed(t *testing.T, s string) string {
	tokens, _, err := lex.List(s)
	if err != nil {
		t.Fatal(s, err)
	}
	index := func(at int) int {
		i := slices.IndexFunc(tokens, func(t lex.Token) bool { return t.At >= at })
		if i < 0 {
			if at != len(s) {
				t.Fatal(s, at)
			}
			return len(tokens)
		}
		if tokens[i].At != at {
			t.Fatal(s, at)
		}
		return i
	}
	p, at, err := Parse(s)
	if err != nil {
		return told(p, index(at), err)
	}
	for i := range p.Decls {
		p.Decls[i].At = index(p.Decls[i].At)
	}
	for i := range p.Rules {
		p.Rules[i].At = index(p.Rules[i].At)
		for k := range p.Rules[i].Body {
			p.Rules[i].Body[k].At = index(p.Rules[i].Body[k].At)
		}
	}
	return told(p, at, err)
}

func TestDrawnTexts(t *testing.T) {
	d := draw{rand.New(rand.NewSource(6))}
	right := 0
	for range 3000 {
		list := d.program()
		switch d.Intn(8) {
		case 0:
			list = d.rule()
		case 1:
			list = d.atom()
		}
		if d.Intn(3) > 0 {
			list = d.spoil(list)
		}
		plain, spread := strings.Join(list, " "), d.spread(list)
		if len(plain) > 4000 || len(spread) > 4000 {
			continue
		}
		holds(t, plain)
		holds(t, spread)
		if a, b := placed(t, plain), placed(t, spread); a != b {
			t.Fatalf("%q is\n%s,\n%q is\n%s", plain, a, spread, b)
		}
		p, _, err := Parse(plain)
		q, _, _ := Parse(spread)
		if !term.Same(p, q) {
			t.Fatal(plain, spread)
		}
		if err == nil {
			right++
		}
	}
	if right < 750 || right > 2250 {
		t.Error(right, "of 3000 drawn texts are right")
	}
}

func TestDrawnBytes(t *testing.T) {
	d := draw{rand.New(rand.NewSource(66))}
	letters := "pX1 \n%.,()-+*=<>!:_a\x80$0"
	for range 20000 {
		var s []byte
		for range d.Intn(12) {
			s = append(s, letters[d.Intn(len(letters))])
		}
		holds(t, string(s))
	}
}

// Programs that are drawn first and written down then: each comes back from its text.

func (d draw) term() term.Term {
	switch d.Intn(3) {
	case 0:
		return variable(d.pick("X", "Y", "Z", "Rel"))
	case 1:
		return sym(d.name())
	}
	return number(d.Intn(7) - 3)
}

func (d draw) terms() []term.Term {
	var list []term.Term
	for range d.most(6) {
		list = append(list, d.term())
	}
	return list
}

func (d draw) tree(deep int) term.Exp {
	if deep == 0 || d.Intn(4) == 0 {
		return leaf(d.term())
	}
	return node(1+d.Intn(3), d.tree(deep-1), d.tree(deep-1))
}

func (d draw) drawnRule() term.Rule {
	r := term.Rule{Head: atom(d.name(), d.terms()...)}
	if i := d.Intn(7); i < len(r.Head.Args) && r.Head.Args[i].Var != "" {
		r.Agg, r.Column = 1+d.Intn(4), i
	}
	for range d.most(8) {
		switch l := (term.Literal{Kind: term.Kind(1 + d.Intn(3))}); l.Kind {
		case term.Cmp:
			l.Op, l.Left, l.Right = 1+d.Intn(6), d.tree(d.Intn(5)), d.tree(d.Intn(5))
			r.Body = append(r.Body, l)
		default:
			l.Atom = atom(d.name(), d.terms()...)
			r.Body = append(r.Body, l)
		}
	}
	return r
}

func writtenTerm(t term.Term) string {
	switch t.Value.Kind {
	case api.Int:
		return fmt.Sprint(t.Value.N)
	case api.Sym:
		return t.Value.S
	}
	return t.Var
}

func writtenAtom(a term.Atom, item func(int, string) string) string {
	var items []string
	for i, t := range a.Args {
		items = append(items, item(i, writtenTerm(t)))
	}
	return a.Rel + "(" + strings.Join(items, ", ") + ")"
}

// written is an expression with the parentheses that it needs where a number tells how tightly it has to bind, and some more.
func (d draw) written(e term.Exp, tight int) string {
	if e.Op == 0 {
		return writtenTerm(e.Term)
	}
	own := []int{0, 1, 1, 2}[e.Op]
	s := d.written(e.Kids[0], own) + d.pick("", " ") + " +-*"[e.Op:e.Op+1] + " " + d.written(e.Kids[1], own+1)
	if own < tight || d.Intn(6) == 0 {
		return "(" + s + ")"
	}
	return s
}

func (d draw) writtenRule(r term.Rule) string {
	plain := func(_ int, s string) string { return s }
	s := writtenAtom(r.Head, func(i int, s string) string {
		if r.Agg > 0 && i == r.Column {
			return []string{"", "count", "sum", "min", "max"}[r.Agg] + "(" + s + ")"
		}
		return s
	})
	sign := " :- "
	for _, l := range r.Body {
		s, sign = s+sign, ", "
		switch l.Kind {
		case term.Pos:
			s += writtenAtom(l.Atom, plain)
		case term.Neg:
			s += "not " + writtenAtom(l.Atom, plain)
		case term.Cmp:
			s += d.written(l.Left, 0) + " " + []string{"", "=", "!=", "<", "<=", ">", ">="}[l.Op] + " " + d.written(l.Right, 0)
		}
	}
	return s + "."
}

func TestWrittenPrograms(t *testing.T) {
	d := draw{rand.New(rand.NewSource(666))}
	for range 3000 {
		var want term.Program
		var lines []string
		for range d.Intn(3) {
			decl := term.Decl{Rel: d.name()}
			var kinds []string
			for range d.most(6) {
				k := d.Intn(2)
				kinds = append(kinds, []string{"int", "sym"}[k])
				decl.Kinds = append(decl.Kinds, api.Kind(k+1))
			}
			want.Decls = append(want.Decls, decl)
			lines = append(lines, "rel "+decl.Rel+"("+strings.Join(kinds, ",")+").")
		}
		at := 0
		for range d.Intn(4) {
			r := d.drawnRule()
			want.Rules = append(want.Rules, r)
			// A rule goes anywhere behind the rule ahead of it.
			at += d.Intn(len(lines) - at + 1)
			lines = slices.Insert(lines, at, d.writtenRule(r))
			at++
		}
		s := strings.Join(lines, "\n")
		if len(s) > 4000 {
			continue
		}
		got, at, err := Parse(s)
		if err != nil || at != 0 || !term.Same(got, want) || !term.Formed(got) {
			t.Fatalf("Parse(%q) is\n%+v, %d, %v, not\n%+v", s, got, at, err, want)
		}
	}
}

// scribble writes over a list and what it has room for.
func scribble[T any](list []T) {
	clear(list[:cap(list)])
}

func scribbleExp(e term.Exp) {
	for _, kid := range e.Kids {
		scribbleExp(kid)
	}
	scribble(e.Kids)
}

// scribbleAll writes over all lists of a program, the inner ones first.
func scribbleAll(p term.Program) {
	for _, d := range p.Decls {
		scribble(d.Kinds)
	}
	for _, r := range p.Rules {
		for _, l := range r.Body {
			scribble(l.Atom.Args)
			scribbleExp(l.Left)
			scribbleExp(l.Right)
		}
		scribble(r.Head.Args)
		scribble(r.Body)
	}
	scribble(p.Decls)
	scribble(p.Rules)
}

// spares writes into what each list of a program has room for behind its end.
func spares(p term.Program) {
	var exp func(e term.Exp)
	exp = func(e term.Exp) {
		for _, kid := range e.Kids {
			exp(kid)
		}
		scribble(e.Kids[len(e.Kids):])
	}
	for _, d := range p.Decls {
		scribble(d.Kinds[len(d.Kinds):])
	}
	for _, r := range p.Rules {
		for _, l := range r.Body {
			scribble(l.Atom.Args[len(l.Atom.Args):])
			exp(l.Left)
			exp(l.Right)
		}
		scribble(r.Head.Args[len(r.Head.Args):])
		scribble(r.Body[len(r.Body):])
	}
	scribble(p.Decls[len(p.Decls):])
	scribble(p.Rules[len(p.Rules):])
}

func TestNothingShared(t *testing.T) {
	for _, s := range samples {
		want := told(parses(t, s), 0, nil)
		first, second := parses(t, s), parses(t, s)
		spares(first)
		if told(first, 0, nil) != want {
			t.Errorf("%q: two lists share memory", s)
		}
		// Parts that are written over leave all others as they are.
		for i := range first.Rules {
			if len(first.Rules[i].Body) == 0 {
				continue
			}
			part := first.Rules[i].Body[0]
			rest := told(first.Rules[i].Body[1:], 0, nil)
			scribble(part.Atom.Args)
			scribbleExp(part.Left)
			if told(first.Rules[i].Body[1:], 0, nil) != rest {
				t.Errorf("%q: two literals share memory", s)
			}
		}
		scribbleAll(first)
		if told(second, 0, nil) != want || told(parses(t, s), 0, nil) != want {
			t.Errorf("%q: two results share memory", s)
		}
	}
}

package show

import (
	"fmt"
	"math"
	"slices"
	"strings"
	"testing"

	"corollary/api"
	"corollary/term"
)

// Each way in which a part isn't well-formed, at every place where that part may stand.

var (
	badRels  = append(strings.Fields("rel int sym not count sum min max P _p 0 1a p-q aB é"), "", " p", "p ", "p q", "p(", "p\n", "p\x00", "p\xff", strings.Repeat("p", 33))
	badVars  = []string{"x", "a", "_", "_X", "0", " ", " X", "X ", "X Y", "X-", "X\n", "X\x00", "É", "Xé", "count", strings.Repeat("X", 33)}
	badSyms  = []string{"", "A", "_a", "0", "1a", "aB", " a", "a ", "a b", "a\n", "é", "-1", strings.Repeat("a", 33)}
	badKinds = []api.Kind{0, 3, -1, math.MaxInt, math.MinInt}
	ends     = []int{math.MinInt, -1, math.MaxInt}
)

func badTerms() []term.Term {
	list := []term.Term{
		{},
		{Value: api.Value{N: 1}},
		{Value: api.Value{S: "a"}},
		{Value: api.Value{Kind: api.Int, S: "a"}},
		{Value: api.Value{Kind: api.Int, N: 1, S: "1"}},
		{Value: api.Value{Kind: api.Sym, N: 1, S: "a"}},
		{Var: "X", Value: number(0).Value},
		{Var: "X", Value: sym("a").Value},
		{Var: "X", Value: api.Value{N: 1}},
		{Var: "X", Value: api.Value{S: "a"}},
		{Var: "x", Value: sym("a").Value},
	}
	for _, n := range []int{2147483648, -2147483648, math.MaxInt, math.MinInt} {
		list = append(list, number(n))
	}
	for _, s := range badSyms {
		list = append(list, sym(s))
	}
	for _, s := range badVars {
		list = append(list, variable(s))
	}
	for _, k := range badKinds {
		list = append(list, term.Term{Value: api.Value{Kind: k}}, term.Term{Value: api.Value{Kind: k, N: 1}}, term.Term{Value: api.Value{Kind: k, S: "a"}})
	}
	return list
}

// badNodes is expressions that are bad by themselves or in a term at their top.
func badNodes() []term.Exp {
	one := leaf(number(1))
	list := []term.Exp{
		{Term: x, Kids: []term.Exp{one}},
		{Term: x, Kids: []term.Exp{one, one}},
		{Kids: []term.Exp{one, one}},
		{Op: 1, Term: x},
		{Op: 3, Term: number(1)},
	}
	for _, t := range badTerms() {
		list = append(list, leaf(t))
	}
	for _, op := range append([]int{4, 5, 256, 257}, ends...) {
		list = append(list, node(op, one, one), term.Exp{Op: op, Term: x}, term.Exp{Op: op})
	}
	for op := 1; op <= 3; op++ {
		for _, n := range []int{0, 1, 3, 4} {
			list = append(list, term.Exp{Op: op, Kids: slices.Repeat([]term.Exp{one}, n)})
		}
		for _, t := range []term.Term{x, number(1), sym("a"), {Value: api.Value{Kind: api.Int}}, {Value: api.Value{N: 1}}, {Value: api.Value{S: "a"}}} {
			list = append(list, term.Exp{Op: op, Term: t, Kids: []term.Exp{one, one}})
		}
	}
	return list
}

// badExps is bad expressions, and those that have one within, or are too deep.
func badExps() []term.Exp {
	var list []term.Exp
	for _, e := range badNodes() {
		list = append(list, e, node(1, e, leaf(x)), node(2, leaf(x), e), node(3, e, e))
		for op := 1; op <= 3; op++ {
			list = append(list, chain(op, 19, false, e), chain(op, 19, true, e))
		}
	}
	for op := 1; op <= 3; op++ {
		for _, right := range []bool{false, true} {
			deep := chain(op, 21, right, leaf(x))
			list = append(list, deep, chain(op, 100, right, leaf(x)), chain(op, 20, right, node(op, leaf(x), leaf(y))))
			list = append(list, node(op, leaf(x), deep), node(op, deep, leaf(x)))
		}
	}
	// One that is its own child has no end.
	kids := make([]term.Exp, 2)
	round := term.Exp{Op: 1, Kids: kids}
	kids[0], kids[1] = leaf(x), round
	return append(list, round)
}

// badAtoms is bad atoms; those with a good name have a bad term at every place of a list of every length, or 7 terms.
func badAtoms() []term.Atom {
	var list []term.Atom
	for _, rel := range badRels {
		list = append(list, atomOf(rel), atomOf(rel, x, y))
	}
	for _, bad := range badTerms() {
		for n := 1; n <= 6; n++ {
			for at := range n {
				terms := slices.Repeat([]term.Term{x}, n)
				terms[at] = bad
				list = append(list, atomOf("p", terms...))
			}
		}
	}
	for _, n := range []int{7, 8, 100} {
		list = append(list, atomOf("p", slices.Repeat([]term.Term{x}, n)...))
	}
	return list
}

func badLiterals() []term.Literal {
	one := leaf(x)
	good := atomOf("q", x)
	var list []term.Literal
	for _, k := range []term.Kind{0, 4, 5, -1, math.MaxInt, math.MinInt} {
		list = append(list, term.Literal{Kind: k}, term.Literal{Kind: k, Atom: good}, term.Literal{Kind: k, Op: 1, Left: one, Right: one})
	}
	for _, k := range []term.Kind{term.Pos, term.Neg} {
		list = append(list, term.Literal{Kind: k, Op: 1, Left: one, Right: one})
		for _, a := range badAtoms() {
			list = append(list, term.Literal{Kind: k, Atom: a})
		}
		for _, op := range append([]int{1, 2, 3, 4, 5, 6, 7}, ends...) {
			list = append(list, term.Literal{Kind: k, Atom: good, Op: op})
		}
		for _, e := range []term.Exp{one, leaf(number(0)), {Op: 1}, {Op: -1}, {Kids: []term.Exp{{}}}, {Term: term.Term{Value: api.Value{N: 1}}}, node(1, one, one)} {
			list = append(list, term.Literal{Kind: k, Atom: good, Left: e}, term.Literal{Kind: k, Atom: good, Right: e})
		}
	}
	for _, op := range append([]int{0, 7, 8, 256, 257}, ends...) {
		list = append(list, compared(op, one, one))
	}
	for _, a := range []term.Atom{good, atomOf("q"), atomOf("", x), atomOf("", term.Term{}), atomOf("Q")} {
		list = append(list, term.Literal{Kind: term.Cmp, Op: 1, Left: one, Right: one, Atom: a})
	}
	for i, e := range badExps() {
		list = append(list, compared(1+i%6, e, one), compared(1+i%6, one, e), compared(1+i%6, e, e))
	}
	return list
}

// badRules is rules that are bad but for their literals.
func badRules() []term.Rule {
	var list []term.Rule
	for _, a := range badAtoms() {
		list = append(list, ruleOf(a), ruleOf(a, plain(atomOf("q"))))
		for i, t := range a.Args {
			if t.Var == "" && i < 6 {
				list = append(list, term.Rule{Head: a, Agg: 1 + i%4, Column: i})
			}
		}
	}
	head := atomOf("p", x, number(1), sym("a"), y)
	for _, agg := range append([]int{5, 6, 256, 257}, ends...) {
		list = append(list, term.Rule{Head: head, Agg: agg}, term.Rule{Head: head, Agg: agg, Column: 3})
	}
	for _, column := range append([]int{1, 2, 3, 4}, ends...) {
		list = append(list, term.Rule{Head: head, Column: column})
	}
	for agg := 1; agg <= 4; agg++ {
		list = append(list, term.Rule{Head: atomOf("p"), Agg: agg})
		for _, column := range append([]int{1, 2, 4, 5, 6}, ends...) {
			list = append(list, term.Rule{Head: head, Agg: agg, Column: column})
		}
	}
	for _, n := range []int{9, 10, 100} {
		list = append(list, ruleOf(head, slices.Repeat([]term.Literal{plain(atomOf("q", x))}, n)...))
	}
	return append(list, term.Rule{})
}

func badDecls() []term.Decl {
	list := []term.Decl{{}}
	for _, rel := range badRels {
		list = append(list, declOf(rel), declOf(rel, api.Int, api.Sym))
	}
	for _, bad := range badKinds {
		for n := 1; n <= 6; n++ {
			for at := range n {
				kinds := slices.Repeat([]api.Kind{api.Sym}, n)
				kinds[at] = bad
				list = append(list, declOf("p", kinds...))
			}
		}
	}
	for _, n := range []int{7, 8, 100} {
		list = append(list, declOf("p", slices.Repeat([]api.Kind{api.Int}, n)...))
	}
	return list
}

// The rules and the declaration beside which bad ones are put are right, so that it's the bad ones that are refused.
var (
	goodRule = fact("p", x)
	goodDecl = declOf("p", api.Int)
)

func programRefused(t *testing.T, decls []term.Decl, rules []term.Rule) {
	t.Helper()
	p := term.Program{Decls: decls, Rules: rules}
	got, err := Program(p)
	if got != "" || err != api.ErrForm {
		t.Fatalf("%+v is printed as %q, %v", p, got, err)
	}
	for line := range Lines(p) {
		t.Fatalf("%+v has the line %q", p, line)
	}
}

// ruleRefused puts a rule alone, into a program, and beside rules whose text is too long.
func ruleRefused(t *testing.T, r term.Rule) {
	t.Helper()
	got, err := Rule(r)
	refused(t, r, api.ErrForm, got, err)
	decls := []term.Decl{goodDecl}
	programRefused(t, nil, []term.Rule{r})
	programRefused(t, decls, []term.Rule{goodRule, r, goodRule})
}

// besideLong puts a rule ahead of one whose text is too long, and behind it.
func besideLong(t *testing.T, r, long term.Rule) {
	t.Helper()
	programRefused(t, nil, []term.Rule{r, long})
	programRefused(t, []term.Decl{goodDecl}, []term.Rule{long, r})
}

func TestWrongExps(t *testing.T) {
	wide := longTree()
	for _, e := range badExps() {
		got, err := Exp(e)
		refused(t, e, api.ErrForm, got, err)
	}
	for _, e := range badNodes() {
		for _, e := range []term.Exp{node(1, wide, e), node(2, e, wide)} {
			got, err := Exp(e)
			refused(t, e, api.ErrForm, got, err)
		}
	}
}

func TestWrongLiterals(t *testing.T) {
	wide := longTree()
	for _, l := range badLiterals() {
		got, err := Literal(l)
		refused(t, l, api.ErrForm, got, err)
	}
	for _, e := range badNodes() {
		for _, l := range []term.Literal{compared(1, wide, e), compared(6, e, wide)} {
			got, err := Literal(l)
			refused(t, l, api.ErrForm, got, err)
		}
	}
	for _, op := range []int{0, 7} {
		got, err := Literal(compared(op, wide, wide))
		refused(t, op, api.ErrForm, got, err)
	}
}

func TestWrongRules(t *testing.T) {
	for _, r := range badRules() {
		ruleRefused(t, r)
	}
	good := []term.Literal{plain(atomOf("q", x)), negated(atomOf("q")), compared(1, leaf(x), node(1, leaf(x), leaf(y)))}
	for _, l := range badLiterals() {
		ruleRefused(t, ruleOf(atomOf("p"), l))
		for at := range 8 {
			body := []term.Literal{good[0], good[1], good[2], good[0], good[1], good[2], good[0], good[1]}
			if got, err := Rule(ruleOf(atomOf("p"), body...)); got == "" || err != nil {
				t.Fatal(got, err)
			}
			body[at] = l
			got, err := Rule(ruleOf(atomOf("p"), body...))
			refused(t, l, api.ErrForm, got, err)
		}
	}
}

// A program that isn't well-formed is ErrForm, though its text would be too long as well.
func TestWrongBesideLong(t *testing.T) {
	wide := long()
	got, err := Program(rulesOf(wide))
	refused(t, "a long rule", api.ErrLarge, got, err)
	literal := wide.Body[0]
	for _, r := range badRules() {
		besideLong(t, r, wide)
		if len(r.Body) == 0 {
			r.Body = []term.Literal{literal}
			got, err := Rule(r)
			refused(t, r, api.ErrForm, got, err)
			programRefused(t, nil, []term.Rule{r})
		}
	}
	for _, l := range badLiterals() {
		besideLong(t, ruleOf(atomOf("p"), l), wide)
		for _, r := range []term.Rule{ruleOf(atomOf("p"), literal, l), ruleOf(atomOf("p"), l, literal)} {
			got, err := Rule(r)
			refused(t, r, api.ErrForm, got, err)
			programRefused(t, []term.Decl{goodDecl}, []term.Rule{r})
		}
	}
	for _, d := range badDecls() {
		programRefused(t, []term.Decl{d}, []term.Rule{wide})
		programRefused(t, []term.Decl{goodDecl, d}, []term.Rule{wide, goodRule})
	}
	programRefused(t, slices.Repeat([]term.Decl{goodDecl}, 33), []term.Rule{wide})
	programRefused(t, nil, slices.Repeat([]term.Rule{wide}, 65))
}

func TestWrongDecls(t *testing.T) {
	for _, d := range badDecls() {
		programRefused(t, []term.Decl{d}, nil)
		programRefused(t, []term.Decl{d, goodDecl}, []term.Rule{goodRule})
		programRefused(t, []term.Decl{goodDecl, d}, []term.Rule{goodRule})
	}
}

// Every place of a program that is as long as it may be, and those that are too many.
func TestWrongPlaces(t *testing.T) {
	decls, rules := slices.Repeat([]term.Decl{goodDecl}, 32), slices.Repeat([]term.Rule{goodRule}, 64)
	holds(t, term.Program{Decls: decls, Rules: rules})
	for at := range decls {
		for _, bad := range []term.Decl{{}, declOf("rel"), declOf("p", api.Int, 3)} {
			list := slices.Clone(decls)
			list[at] = bad
			programRefused(t, list, rules)
		}
	}
	for at := range rules {
		for _, bad := range []term.Rule{{}, fact("rel"), {Head: atomOf("p", x), Agg: 5}, ruleOf(atomOf("p"), term.Literal{})} {
			list := slices.Clone(rules)
			list[at] = bad
			programRefused(t, decls, list)
		}
	}
	for _, n := range []int{33, 34, 1000} {
		programRefused(t, slices.Repeat(decls[:1], n), nil)
		programRefused(t, slices.Repeat(decls[:1], n), rules)
	}
	for _, n := range []int{65, 66, 1000} {
		programRefused(t, nil, slices.Repeat(rules[:1], n))
		programRefused(t, decls, slices.Repeat(rules[:1], n))
	}
}

// The errors are package api's own numbers.
func TestErrorKinds(t *testing.T) {
	for _, f := range []func() (string, error){
		func() (string, error) { return Program(rulesOf(term.Rule{})) },
		func() (string, error) { return Rule(term.Rule{}) },
		func() (string, error) { return Literal(term.Literal{}) },
		func() (string, error) { return Exp(term.Exp{}) },
	} {
		if s, err := f(); s != "" || fmt.Sprintf("%T %v", err, err) != "api.Errno form" {
			t.Errorf("%q %T %v", s, err, err)
		}
	}
	if s, err := Program(rulesOf(long())); s != "" || fmt.Sprintf("%T %v", err, err) != "api.Errno large" {
		t.Errorf("%q %T %v", s, err, err)
	}
}

package term

import (
	"fmt"
	"math"
	"math/rand"
	"reflect"
	"regexp"
	"slices"
	"strings"
	"testing"

	"corollary/api"
)

// The chapter's definitions in other words than the package's own, to hold it against.
var (
	varForm  = regexp.MustCompile(`\A[A-Z][A-Za-z0-9_]{0,31}\z`)
	nameForm = regexp.MustCompile(`\A[a-z][a-z0-9_]{0,31}\z`)
	keyForm  = regexp.MustCompile(`\A(?:rel|int|sym|not|count|sum|min|max)\z`)
)

func wantTerm(t Term) bool {
	v := t.Value
	switch {
	case t.Var != "":
		return varForm.MatchString(t.Var) && v.Kind == 0 && v.N == 0 && v.S == ""
	case v.Kind == 1:
		return v.S == "" && v.N >= -2147483647 && v.N <= 2147483647
	case v.Kind == 2:
		return v.N == 0 && nameForm.MatchString(v.S)
	}
	return false
}

func depth(e Exp) int {
	if e.Op == 0 && len(e.Kids) == 0 {
		return 0
	}
	deepest := 0
	for _, kid := range e.Kids {
		deepest = max(deepest, depth(kid))
	}
	return deepest + 1
}

// wantNodes tells whether the nodes of an expression are right, however deep it is.
func wantNodes(e Exp) bool {
	switch e.Op {
	case 0:
		return len(e.Kids) == 0 && wantTerm(e.Term)
	case 1, 2, 3:
		return reflect.DeepEqual(e.Term, Term{}) && len(e.Kids) == 2 && wantNodes(e.Kids[0]) && wantNodes(e.Kids[1])
	}
	return false
}

func wantExp(e Exp) bool { return depth(e) <= 20 && wantNodes(e) }

func wantRel(s string) bool { return nameForm.MatchString(s) && !keyForm.MatchString(s) }

func wantAtom(a Atom) bool {
	for _, t := range a.Args {
		if !wantTerm(t) {
			return false
		}
	}
	return wantRel(a.Rel) && len(a.Args) < 7
}

func noExp(e Exp) bool {
	return e.Op == 0 && e.Term.Var == "" && e.Term.Value.Kind == 0 && e.Term.Value.N == 0 && e.Term.Value.S == "" && len(e.Kids) == 0
}

func wantLiteral(l Literal) bool {
	if l.Kind == 1 || l.Kind == 2 {
		return wantAtom(l.Atom) && l.Op == 0 && noExp(l.Left) && noExp(l.Right)
	}
	if l.Kind != 3 || l.Atom.Rel != "" || len(l.Atom.Args) > 0 {
		return false
	}
	return slices.Contains([]int{1, 2, 3, 4, 5, 6}, l.Op) && wantExp(l.Left) && wantExp(l.Right)
}

func wantRule(r Rule) bool {
	for _, l := range r.Body {
		if !wantLiteral(l) {
			return false
		}
	}
	if !wantAtom(r.Head) || len(r.Body) > 8 {
		return false
	}
	switch r.Agg {
	case 0:
		return r.Column == 0
	case 1, 2, 3, 4:
		for i, t := range r.Head.Args {
			if i == r.Column {
				return t.Var != ""
			}
		}
	}
	return false
}

func wantDecl(d Decl) bool {
	for _, k := range d.Kinds {
		if k != 1 && k != 2 {
			return false
		}
	}
	return wantRel(d.Rel) && len(d.Kinds) <= 6
}

func wantProgram(p Program) bool {
	for _, d := range p.Decls {
		if !wantDecl(d) {
			return false
		}
	}
	for _, r := range p.Rules {
		if !wantRule(r) {
			return false
		}
	}
	return len(p.Decls) < 33 && len(p.Rules) < 65
}

// wantLeaves is the terms of an expression's leaves, gone through without recursion.
func wantLeaves(e Exp) []Term {
	var list []Term
	for open := []Exp{e}; len(open) > 0; {
		e, open = open[len(open)-1], open[:len(open)-1]
		if len(e.Kids) == 0 {
			list = append(list, e.Term)
		}
		for i := len(e.Kids) - 1; i >= 0; i-- {
			open = append(open, e.Kids[i])
		}
	}
	return list
}

// wantVars is the variables of terms: those that stand nowhere ahead of their place.
func wantVars(lists ...[]Term) []string {
	var vars []string
	for _, t := range slices.Concat(lists...) {
		if t.Var != "" && slices.Index(vars, t.Var) < 0 {
			vars = append(vars, t.Var)
		}
	}
	return vars
}

func literalTerms(l Literal) []Term {
	return slices.Concat(l.Atom.Args, wantLeaves(l.Left), wantLeaves(l.Right))
}

func ruleTerms(r Rule) []Term {
	list := slices.Clone(r.Head.Args)
	for _, l := range r.Body {
		list = append(list, literalTerms(l)...)
	}
	return list
}

func variable(name string) Term    { return Term{Var: name} }
func number(n int) Term            { return Term{Value: api.Value{Kind: api.Int, N: n}} }
func symbol(s string) Term         { return Term{Value: api.Value{Kind: api.Sym, S: s}} }
func leaf(t Term) Exp              { return Exp{Term: t} }
func node(op int, kids ...Exp) Exp { return Exp{Op: op, Kids: kids} }
func atom(rel string, args ...Term) Atom {
	return Atom{Rel: rel, Args: args}
}
func compare(op int, left, right Exp) Literal {
	return Literal{Kind: Cmp, Op: op, Left: left, Right: right}
}

var (
	x, y, z = variable("X"), variable("Y"), variable("Z")
	one     = number(1)
)

// chain is an expression of a depth, whose deeper child is the left, the right, or each by turns.
func chain(deep, side int) Exp {
	e := leaf(variable("L0"))
	for i := range deep {
		kids := []Exp{leaf(variable(fmt.Sprint("L", i+1))), e}
		if side == 0 || side == 2 && i%2 == 0 {
			slices.Reverse(kids)
		}
		e = node(i%3+1, kids...)
	}
	return e
}

// expHolds tells where the functions of an expression aren't what the chapter says.
func expHolds(t *testing.T, e Exp) {
	t.Helper()
	if got, want := RightExp(e), wantExp(e); got != want {
		t.Errorf("RightExp(%+v) = %v", e, got)
	}
	want := wantLeaves(e)
	if got := slices.Collect(Terms(e)); !slices.Equal(got, want) {
		t.Errorf("Terms(%+v) = %v", e, got)
	}
	if got := Of(e); !slices.Equal(got, wantVars(want)) {
		t.Errorf("Of(%+v) = %v", e, got)
	}
}

func literalHolds(t *testing.T, l Literal) {
	t.Helper()
	if got, want := RightLiteral(l), wantLiteral(l); got != want {
		t.Errorf("RightLiteral(%+v) = %v", l, got)
	}
	if got := In(l); !slices.Equal(got, wantVars(literalTerms(l))) {
		t.Errorf("In(%+v) = %v", l, got)
	}
}

func ruleHolds(t *testing.T, r Rule) {
	t.Helper()
	if got, want := RightRule(r), wantRule(r); got != want {
		t.Errorf("RightRule(%+v) = %v", r, got)
	}
	if got := Vars(r); !slices.Equal(got, wantVars(ruleTerms(r))) {
		t.Errorf("Vars(%+v) = %v", r, got)
	}
	formedHolds(t, Program{Rules: []Rule{r}})
}

func formedHolds(t *testing.T, p Program) {
	t.Helper()
	if got, want := Formed(p), wantProgram(p); got != want {
		t.Errorf("Formed(%+v) = %v", p, got)
	}
}

func TestKinds(t *testing.T) {
	if Pos != 1 || Neg != 2 || Cmp != 3 {
		t.Error(Pos, Neg, Cmp)
	}
}

func TestVariableLengths(t *testing.T) {
	for n := 1; n <= 70; n++ {
		for _, filler := range []string{"a", "Z", "0", "_"} {
			if s := "X" + strings.Repeat(filler, n-1); Variable(s) != (n <= 32) {
				t.Error(s)
			}
		}
	}
	if Variable(strings.Repeat("X", 100000)) {
		t.Error("100000 bytes")
	}
}

func TestVariableBytes(t *testing.T) {
	for c := range 256 {
		first := string([]byte{byte(c)})
		if Variable(first) != varForm.MatchString(first) {
			t.Errorf("%q", first)
		}
		for d := range 256 {
			s := string([]byte{byte(c), byte(d)})
			if Variable(s) != varForm.MatchString(s) {
				t.Errorf("%q", s)
			}
		}
		for _, s := range []string{"Xa" + first + "b", first + "Xy", "XY_9" + first} {
			if Variable(s) != varForm.MatchString(s) {
				t.Errorf("%q", s)
			}
		}
	}
}

func TestVariableWords(t *testing.T) {
	for _, s := range []string{"X", "A", "Z", "Rel", "NOT", "X_1", "Xy", "X0", "X_", "XyZ_09"} {
		if !Variable(s) {
			t.Errorf("%q is one", s)
		}
	}
	for _, s := range []string{"", " ", "x", "_X", "9X", "rel", "X Y", " X", "X ", "\nX", "X\n", "X%", "%X", "%\nX", "X%\n", "X.", "X,Y", "-X", "Xä", "Ä", "X\x00", "(X)", ":-", "X\xff"} {
		if Variable(s) {
			t.Errorf("%q is none", s)
		}
	}
}

func TestTermIsOneOfTwo(t *testing.T) {
	long, longer := strings.Repeat("a", 32), strings.Repeat("a", 33)
	for _, right := range []Term{
		x, variable("X" + long[1:]), variable("Rel"), one, number(0), number(-1), number(math.MaxInt32), number(-math.MaxInt32),
		symbol("a"), symbol(long), symbol("rel"), symbol("not"), symbol("count"), symbol("a_9"),
	} {
		if !RightExp(leaf(right)) {
			t.Errorf("%+v is a term", right)
		}
		expHolds(t, leaf(right))
		ruleHolds(t, Rule{Head: atom("p", right)})
	}
	for _, wrong := range []Term{
		{}, {Var: "x"}, {Var: "X" + long}, {Var: "X "}, {Var: "_"}, {Var: "rel"}, {Var: "5"},
		{Var: "X", Value: one.Value}, {Var: "X", Value: api.Value{S: "a", Kind: api.Sym}}, {Var: "X", Value: api.Value{Kind: 1}},
		{Var: "X", Value: api.Value{Kind: 3}}, {Var: "X", Value: api.Value{N: 1}}, {Var: "X", Value: api.Value{S: "a"}},
		{Var: "x", Value: one.Value}, {Value: api.Value{N: 1}}, {Value: api.Value{S: "a"}}, {Value: api.Value{Kind: 3}},
		{Value: api.Value{Kind: -1, N: 1}}, {Value: api.Value{Kind: api.Int, S: "a"}}, {Value: api.Value{Kind: api.Sym}},
		{Value: api.Value{Kind: api.Sym, S: "a", N: 1}}, symbol(longer), symbol("A"), symbol("9"), symbol("a b"),
		number(math.MaxInt32 + 1), number(-math.MaxInt32 - 1), number(math.MaxInt), number(math.MinInt),
	} {
		if RightExp(leaf(wrong)) {
			t.Errorf("%+v is no term", wrong)
		}
		expHolds(t, leaf(wrong))
		expHolds(t, node(1, leaf(x), leaf(wrong)))
		expHolds(t, node(1, leaf(wrong), leaf(x)))
		literalHolds(t, Literal{Kind: Pos, Atom: atom("p", x, wrong, y)})
		ruleHolds(t, Rule{Head: atom("p", wrong)})
	}
}

func TestExpDepth(t *testing.T) {
	for side := range 3 {
		for deep := range 24 {
			e := chain(deep, side)
			if RightExp(e) != (deep <= 20) {
				t.Errorf("depth %d, side %d", deep, side)
			}
			expHolds(t, e)
			literalHolds(t, compare(1, e, leaf(x)))
			literalHolds(t, compare(1, leaf(x), e))
			expHolds(t, node(1, e, chain(deep, 1-side/2)))
		}
	}
	full := leaf(one)
	for range 12 {
		full = node(3, full, full)
	}
	if !RightExp(full) || RightExp(node(1, chain(8, 0), chain(20, 1))) || !RightExp(node(1, chain(19, 2), chain(19, 1))) {
		t.Error("both children")
	}
}

func TestExpShape(t *testing.T) {
	for op := -3; op <= 8; op++ {
		for kids := range 5 {
			e := node(op, slices.Repeat([]Exp{leaf(y)}, kids)...)
			if RightExp(e) != (op >= 1 && op <= 3 && kids == 2) {
				t.Errorf("operation %d with %d children", op, kids)
			}
			expHolds(t, e)
			e.Term = x
			if RightExp(e) != (op == 0 && kids == 0) {
				t.Errorf("operation %d with %d children and a term", op, kids)
			}
			expHolds(t, e)
			expHolds(t, node(2, e, leaf(one)))
		}
	}
	for _, op := range []int{math.MinInt, math.MaxInt, 1 << 32, 1<<32 + 1, -1 << 63} {
		expHolds(t, node(op, leaf(x), leaf(y)))
		expHolds(t, node(op))
	}
	for _, held := range []Term{x, one, {Value: api.Value{Kind: 1}}, {Value: api.Value{N: 1}}, {Value: api.Value{S: "a"}}, symbol("a")} {
		if e := (Exp{Op: 1, Term: held, Kids: []Exp{leaf(x), leaf(y)}}); RightExp(e) {
			t.Errorf("%+v", e)
		}
	}
	if RightExp(Exp{}) || RightExp(node(1, leaf(x), Exp{})) || !RightExp(Exp{Term: x, Kids: []Exp{}}) {
		t.Error("none and empty")
	}
}

// A fault at any node, however deep, is a fault of the whole.
func TestFaultWithin(t *testing.T) {
	faults := []Exp{{}, {Op: 4}, {Op: 1}, leaf(variable("x")), leaf(number(math.MaxInt)), node(0, leaf(x)), node(4, leaf(x), leaf(x)), node(1, leaf(x)), {Op: 1, Term: x, Kids: []Exp{leaf(x), leaf(x)}}}
	for deep := range 21 {
		for side := range 3 {
			for _, fault := range faults {
				e := fault
				for i := range deep {
					kids := []Exp{leaf(one), e}
					if side == 0 || side == 2 && i%2 == 0 {
						slices.Reverse(kids)
					}
					e = node(1, kids...)
				}
				if RightExp(e) || RightLiteral(compare(1, leaf(x), e)) || RightLiteral(compare(1, e, leaf(x))) {
					t.Fatalf("depth %d: %+v", deep, fault)
				}
				r := Rule{Head: atom("p"), Body: []Literal{compare(1, leaf(x), leaf(x)), compare(2, leaf(x), e)}}
				if RightRule(r) || Formed(Program{Rules: []Rule{{Head: atom("p")}, r}}) {
					t.Fatalf("depth %d: %+v", deep, fault)
				}
				expHolds(t, e)
			}
		}
	}
}

func TestAtoms(t *testing.T) {
	for n := range 10 {
		a := atom("p", slices.Repeat([]Term{x}, n)...)
		for _, kind := range []Kind{Pos, Neg} {
			if RightLiteral(Literal{Kind: kind, Atom: a}) != (n <= 6) {
				t.Errorf("%d terms", n)
			}
		}
		if RightRule(Rule{Head: a}) != (n <= 6) {
			t.Errorf("a head of %d terms", n)
		}
		for i := range n {
			a.Args[i] = Term{}
			literalHolds(t, Literal{Kind: Pos, Atom: a})
			a.Args[i] = one
		}
	}
}

func TestRelationNames(t *testing.T) {
	tell := func(rel string, right bool) {
		t.Helper()
		for i, got := range []bool{
			RightLiteral(Literal{Kind: Pos, Atom: atom(rel, x)}), RightLiteral(Literal{Kind: Neg, Atom: atom(rel)}),
			RightRule(Rule{Head: atom(rel, x)}), Formed(Program{Decls: []Decl{{Rel: rel}}}),
		} {
			if got != right {
				t.Errorf("%q, part %d", rel, i)
			}
		}
	}
	long := strings.Repeat("a", 32)
	for _, rel := range []string{"p", "z", "rels", "re", "in", "ints", "nota", "counts", "su", "mi", "maximum", "p_1", "a9", "not_", "sum1", "rel0", long, "count" + long[5:]} {
		tell(rel, true)
	}
	for _, rel := range []string{"rel", "int", "sym", "not", "count", "sum", "min", "max", "", "P", "Rel", "aB", "9a", "_a", "5", "-5", "a b", " a", "a ", "a%", "%", "a.", ".", "a\n", "\xff", "ä", long + "a", strings.Repeat("a", 5000)} {
		tell(rel, false)
	}
	for c := range 256 {
		for d := range 256 {
			for _, rel := range []string{string([]byte{byte(c)}), string([]byte{byte(c), byte(d)})} {
				if RightRule(Rule{Head: Atom{Rel: rel}}) != wantRel(rel) {
					t.Errorf("%q", rel)
				}
			}
		}
	}
}

func TestLiterals(t *testing.T) {
	e, a := node(1, leaf(y), leaf(one)), atom("p", x, one)
	for kind := Kind(-2); kind < 7; kind++ {
		for op := -2; op < 10; op++ {
			for _, a := range []Atom{{}, a, {Rel: "p"}, {Args: []Term{x}}, {Args: []Term{}}, {Rel: "rel"}, {Rel: "p", Args: []Term{{}}}} {
				for _, left := range []Exp{{}, e, {Kids: []Exp{}}, {Op: 1}, leaf(x), leaf(one), {Kids: []Exp{leaf(x)}}, {Kids: []Exp{{}}}} {
					for _, right := range []Exp{{}, e, leaf(x), {Op: 2}, leaf(one), {Kids: []Exp{{}, {}}}} {
						for _, at := range []int{0, -1, math.MaxInt} {
							literalHolds(t, Literal{kind, a, op, left, right, at})
						}
					}
				}
			}
		}
	}
	for _, op := range []int{math.MinInt, math.MaxInt, 1<<32 + 1, 7, 8} {
		literalHolds(t, compare(op, e, e))
	}
}

func TestEachOperationAndComparison(t *testing.T) {
	for n := -1; n < 9; n++ {
		if RightExp(node(n, leaf(x), leaf(y))) != (n == 1 || n == 2 || n == 3) {
			t.Errorf("operation %d", n)
		}
		if RightLiteral(compare(n, leaf(x), leaf(y))) != (n >= 1 && n <= 6) {
			t.Errorf("comparison %d", n)
		}
		if RightRule(Rule{Head: atom("p", x), Agg: n}) != (n >= 0 && n <= 4) {
			t.Errorf("aggregate %d", n)
		}
	}
}

func TestRuleLengths(t *testing.T) {
	for n := range 12 {
		r := Rule{Head: atom("p", x), Body: slices.Repeat([]Literal{{Kind: Pos, Atom: atom("q", x)}}, n)}
		if RightRule(r) != (n <= 8) {
			t.Errorf("%d literals", n)
		}
		for i := range n {
			r.Body[i].Op = 1
			ruleHolds(t, r)
			r.Body[i].Op = 0
		}
		ruleHolds(t, r)
	}
}

func TestAggregates(t *testing.T) {
	heads := []Atom{atom("p"), atom("p", x), atom("p", one), atom("p", x, one, symbol("a"), y, z, x), atom("p", variable("x")), atom("p", Term{Var: "X", Value: one.Value}), atom("p", x, x, x, x, x, x, x), {}, {Args: []Term{x}}}
	for _, head := range heads {
		for agg := -3; agg < 9; agg++ {
			for column := -3; column < 10; column++ {
				ruleHolds(t, Rule{Head: head, Agg: agg, Column: column})
			}
			for _, column := range []int{math.MinInt, math.MaxInt, 1 << 32} {
				ruleHolds(t, Rule{Head: head, Agg: agg, Column: column})
			}
		}
		for _, agg := range []int{math.MinInt, math.MaxInt, 1 << 32} {
			ruleHolds(t, Rule{Head: head, Agg: agg})
		}
	}
	last := Rule{Head: atom("p", one, x), Agg: 4, Column: 1}
	if !RightRule(last) {
		t.Error("the last column")
	}
	for _, change := range []func(*Rule){
		func(r *Rule) { r.Column = 0 }, func(r *Rule) { r.Column = 2 }, func(r *Rule) { r.Column = -1 }, func(r *Rule) { r.Agg = 0 },
		func(r *Rule) { r.Agg = 5 }, func(r *Rule) { r.Agg = -1 }, func(r *Rule) { r.Head.Args = nil },
	} {
		r := last
		change(&r)
		if RightRule(r) {
			t.Errorf("%+v", r)
		}
	}
}

func TestDeclarations(t *testing.T) {
	for n := range 10 {
		d := Decl{Rel: "p", Kinds: slices.Repeat([]api.Kind{api.Sym, api.Int}, n)[:n]}
		if Formed(Program{Decls: []Decl{d}}) != (n <= 6) {
			t.Errorf("%d columns", n)
		}
		for i := range n {
			for _, k := range []api.Kind{0, 3, -1, math.MaxInt, math.MinInt, 1, 2} {
				d.Kinds[i] = k
				formedHolds(t, Program{Decls: []Decl{{Rel: "q"}, d}})
			}
		}
	}
	if Formed(Program{Decls: []Decl{{}}}) || Formed(Program{Decls: []Decl{{Kinds: []api.Kind{api.Int}}}}) {
		t.Error("no name")
	}
}

func TestProgramLengths(t *testing.T) {
	d, r := Decl{Rel: "p"}, Rule{Head: atom("q", x)}
	for _, n := range []int{0, 1, 31, 32, 33, 64, 65, 100} {
		for _, m := range []int{0, 1, 32, 33, 63, 64, 65, 100} {
			p := Program{slices.Repeat([]Decl{d}, n), slices.Repeat([]Rule{r}, m)}
			if Formed(p) != (n <= 32 && m <= 64) {
				t.Errorf("%d declarations, %d rules", n, m)
			}
			if n > 0 {
				p.Decls[n-1].Rel = "not"
				formedHolds(t, p)
				p.Decls[n-1].Rel = "p"
			}
			if m > 0 {
				p.Rules[m-1].Agg = 5
				formedHolds(t, p)
			}
		}
	}
}

// A program is formed whatever its relations are: that two declarations name one, or none is declared, is for later layers.
func TestFormedAsksNothingElse(t *testing.T) {
	p := Program{
		Decls: []Decl{{Rel: "p", Kinds: []api.Kind{api.Int}}, {Rel: "p"}},
		Rules: []Rule{{Head: atom("q", x, y)}, {Head: atom("q", symbol("a")), Body: []Literal{{Kind: Neg, Atom: atom("q")}}}},
	}
	if !Formed(p) || !Formed(Program{}) || !Formed(Program{Decls: []Decl{}, Rules: []Rule{}}) {
		t.Error("formed")
	}
}

func TestPositionsOfAnyNumber(t *testing.T) {
	for _, at := range []int{0, -1, 1, 4000, math.MinInt, math.MaxInt} {
		l := compare(3, leaf(x), leaf(one))
		l.At = at
		r := Rule{Head: atom("p"), Body: []Literal{l}, At: at}
		if !RightLiteral(l) || !RightRule(r) || !Formed(Program{[]Decl{{Rel: "p", At: at}}, []Rule{r}}) {
			t.Error(at)
		}
	}
}

func TestZeroValues(t *testing.T) {
	if Variable("") || RightExp(Exp{}) || RightLiteral(Literal{}) || RightRule(Rule{}) || !Formed(Program{}) {
		t.Error("right")
	}
	for kind := Kind(1); kind <= 3; kind++ {
		if RightLiteral(Literal{Kind: kind}) {
			t.Error(kind)
		}
	}
	if len(Of(Exp{})) != 0 || len(In(Literal{})) != 0 || len(Vars(Rule{})) != 0 || !Same(Program{}, Program{}) {
		t.Error("variables")
	}
	if got := slices.Collect(Terms(Exp{})); !slices.Equal(got, []Term{{}}) {
		t.Error(got)
	}
}

func TestExampleVariables(t *testing.T) {
	r := Rule{Head: atom("p", x, y), Body: []Literal{{Kind: Pos, Atom: atom("q", y, z)}, compare(1, leaf(x), node(1, leaf(z), leaf(one)))}}
	if got := Vars(r); !slices.Equal(got, []string{"X", "Y", "Z"}) {
		t.Error(got)
	}
	if got := In(r.Body[1]); !slices.Equal(got, []string{"X", "Z"}) {
		t.Error(got)
	}
	if got := Of(r.Body[1].Right); !slices.Equal(got, []string{"Z"}) {
		t.Error(got)
	}
}

func TestVariablesInOrder(t *testing.T) {
	a, b, c, d := variable("A"), variable("B"), variable("C"), variable("D")
	e := node(1, node(2, leaf(d), node(3, leaf(c), leaf(d))), node(1, leaf(one), leaf(a)))
	if got := Of(e); !slices.Equal(got, []string{"D", "C", "A"}) {
		t.Error(got)
	}
	if got := In(compare(1, leaf(b), e)); !slices.Equal(got, []string{"B", "D", "C", "A"}) {
		t.Error(got)
	}
	if got := In(compare(1, e, node(1, leaf(b), leaf(a)))); !slices.Equal(got, []string{"D", "C", "A", "B"}) {
		t.Error(got)
	}
	r := Rule{Head: atom("p", c, symbol("s"), c, a), Body: []Literal{{Kind: Neg, Atom: atom("q", d, a)}, {Kind: Pos, Atom: atom("q", b, d)}}}
	if got := Vars(r); !slices.Equal(got, []string{"C", "A", "D", "B"}) {
		t.Error(got)
	}
}

// Names that are no variables are told too, and those of parts that a literal of its kind doesn't have.
func TestVariablesOfWhatIsNotFormed(t *testing.T) {
	odd := []Term{{Var: "x"}, {Var: "X", Value: one.Value}, {}, {Var: " "}, {Var: "rel"}, {Var: "\xff"}}
	want := []string{"x", "X", " ", "rel", "\xff"}
	if got := Vars(Rule{Head: Atom{Args: odd}}); !slices.Equal(got, want) {
		t.Error(got)
	}
	for kind := Kind(-1); kind < 6; kind++ {
		l := Literal{Kind: kind, Atom: Atom{Args: []Term{z, y}}, Left: node(9, leaf(y), leaf(x), leaf(variable("W"))), Right: node(0, leaf(variable("V")))}
		if got := In(l); !slices.Equal(got, []string{"Z", "Y", "X", "W", "V"}) {
			t.Error(kind, got)
		}
	}
	if got := Of(Exp{Op: 1, Term: x}); !slices.Equal(got, []string{"X"}) {
		t.Error("an operation without children is a leaf:", got)
	}
	if got := Of(Exp{Term: x, Kids: []Exp{leaf(y)}}); !slices.Equal(got, []string{"Y"}) {
		t.Error("a node with children is none:", got)
	}
	many := make([]Term, 20000)
	for i := range many {
		many[i] = variable(fmt.Sprint("V", i%10000))
	}
	if got := Vars(Rule{Head: Atom{Args: many}}); len(got) != 10000 || got[9999] != "V9999" {
		t.Error(len(got))
	}
}

func TestTermsLeftEarly(t *testing.T) {
	e := chain(6, 2)
	all := wantLeaves(e)
	seq := Terms(e)
	for stop := range len(all) + 1 {
		var got []Term
		for x := range seq {
			if len(got) == stop {
				break
			}
			got = append(got, x)
		}
		if !slices.Equal(got, all[:min(stop, len(all))]) {
			t.Errorf("left after %d: %v", stop, got)
		}
		if again := slices.Collect(seq); !slices.Equal(again, all) {
			t.Errorf("begun again: %v", again)
		}
	}
	calls := 0
	seq(func(Term) bool { calls++; return calls < 3 })
	if calls != 3 {
		t.Errorf("%d calls", calls)
	}
	pairs := 0
	for range seq {
		for range seq {
			pairs++
		}
	}
	if pairs != len(all)*len(all) {
		t.Errorf("%d pairs", pairs)
	}
}

// Nothing that is handed in is kept: an iterator tells the terms of its making.
func TestTermsAreTakenAtOnce(t *testing.T) {
	e := node(1, leaf(x), node(2, leaf(y), leaf(z)))
	want := wantLeaves(e)
	seq := Terms(e)
	e.Kids[0].Term = one
	e.Kids[1].Kids[1] = node(3, leaf(one), leaf(one))
	if got := slices.Collect(seq); !slices.Equal(got, want) {
		t.Error(got)
	}
}

func TestListsShareNothing(t *testing.T) {
	r := Rule{Head: atom("p", x, y), Body: []Literal{compare(1, node(1, leaf(z), leaf(x)), leaf(one))}}
	for _, f := range []func() []string{func() []string { return Vars(r) }, func() []string { return In(r.Body[0]) }, func() []string { return Of(r.Body[0].Left) }} {
		first := f()
		want := slices.Clone(first)
		for i := range first {
			first[i] = "changed"
		}
		_ = append(first, "more")
		if got := f(); !slices.Equal(got, want) {
			t.Error(got)
		}
	}
}

// Slices are handed in with more behind their ends, which must stay as it is.
func TestArgumentsStay(t *testing.T) {
	spare := func(list ...Term) []Term {
		return append(list, slices.Repeat([]Term{symbol("spare")}, 20)...)[:len(list)]
	}
	kids := append([]Exp{leaf(x), leaf(y)}, leaf(symbol("spare")), leaf(symbol("spare")))
	l := compare(1, Exp{Op: 1, Kids: kids[:2]}, leaf(z))
	body := append([]Literal{l, {Kind: Pos, Atom: Atom{"q", spare(x, z)}}}, Literal{Kind: 9}, Literal{Kind: 9})
	r := Rule{Head: Atom{"p", spare(x, y)}, Body: body[:2]}
	p := Program{Decls: []Decl{{Rel: "p"}}, Rules: []Rule{r}}
	before := fmt.Sprintf("%v %v %v", p, body, kids)
	Formed(p)
	RightRule(r)
	RightLiteral(l)
	RightExp(l.Left)
	Vars(r)
	In(body[1])
	In(l)
	Of(l.Left)
	_ = slices.Collect(Terms(l.Left))
	Same(p, p)
	if after := fmt.Sprintf("%v %v %v", p, body, kids); after != before {
		t.Error(after)
	}
	for _, args := range [][]Term{r.Head.Args, body[1].Atom.Args} {
		if slices.ContainsFunc(args[len(args):len(args)+20], func(t Term) bool { return t != symbol("spare") }) {
			t.Error(args[:len(args)+20])
		}
	}
}

func TestDeepArguments(t *testing.T) {
	for side := range 3 {
		e := chain(9990, side)
		if RightExp(e) || RightLiteral(compare(1, e, e)) || len(Of(e)) != 9991 || len(In(compare(1, leaf(x), e))) != 9992 {
			t.Error("deep")
		}
		r := Rule{Head: atom("p"), Body: []Literal{compare(1, leaf(x), e)}}
		p := Program{Rules: []Rule{r}}
		if RightRule(r) || Formed(p) || !Same(p, p) || len(Vars(r)) != 9992 {
			t.Error("deep")
		}
		other := Program{Rules: []Rule{{Head: atom("p"), Body: []Literal{compare(1, leaf(x), chain(9989, side))}}}}
		if Same(p, other) {
			t.Error("not as deep")
		}
	}
}

// Of a tree in which every node's children are one, no more is gone through than the depth that is asked about.
func TestDoubledExpressions(t *testing.T) {
	e := leaf(x)
	for range 5000 {
		e = node(1, e, e)
	}
	if RightExp(e) {
		t.Error("deep")
	}
}

// rich is a new program with every kind of part in it.
func rich(at int) Program {
	return Program{
		Decls: []Decl{{"p", []api.Kind{api.Int, api.Sym}, at}, {"q", nil, at + 1}, {"r", []api.Kind{api.Sym}, at + 2}},
		Rules: []Rule{
			{Head: atom("p", x, symbol("a")), At: at + 3},
			{Head: atom("p", x, y), Agg: 2, Column: 1, At: at + 4, Body: []Literal{
				{Kind: Pos, Atom: atom("q", x, one), At: at + 5},
				{Kind: Neg, Atom: atom("r", symbol("b")), At: at + 6},
				{Kind: Cmp, Op: 3, Left: node(1, leaf(y), node(3, leaf(one), leaf(z))), Right: leaf(symbol("c")), At: at + 7},
			}},
		},
	}
}

// fields calls f with each number and text within a value, and the name of its field.
func fields(v reflect.Value, name string, f func(reflect.Value, string)) {
	switch v.Kind() {
	case reflect.Struct:
		for i := range v.NumField() {
			fields(v.Field(i), v.Type().Field(i).Name, f)
		}
	case reflect.Slice:
		for i := range v.Len() {
			fields(v.Index(i), name, f)
		}
	default:
		f(v, name)
	}
}

func TestSameButForOneField(t *testing.T) {
	p, q := rich(0), rich(100)
	if !Same(p, q) || !Same(q, p) || !Formed(p) {
		t.Fatal("the same but for positions")
	}
	tried := map[string]int{}
	fields(reflect.ValueOf(&q).Elem(), "", func(v reflect.Value, name string) {
		tried[name]++
		if v.Kind() == reflect.String {
			old := v.String()
			defer v.SetString(old)
			v.SetString(old + "1")
		} else {
			old := v.Int()
			defer v.SetInt(old)
			v.SetInt(old + 1)
		}
		if want := name == "At"; Same(p, q) != want || Same(q, p) != want {
			t.Errorf("another %s: %+v", name, q)
		}
	})
	for _, name := range []string{"Rel", "Kinds", "At", "Var", "Kind", "N", "S", "Agg", "Column", "Op"} {
		if tried[name] < 2 {
			t.Errorf("%s tried %d times", name, tried[name])
		}
	}
	if !Same(p, q) {
		t.Error("changed for good")
	}
}

// lists calls f with each list within a value, from the outside.
func lists(v reflect.Value, f func(reflect.Value)) {
	switch v.Kind() {
	case reflect.Struct:
		for i := range v.NumField() {
			lists(v.Field(i), f)
		}
	case reflect.Slice:
		f(v)
		for i := range v.Len() {
			lists(v.Index(i), f)
		}
	}
}

func TestSameButForOneList(t *testing.T) {
	p, q := rich(0), rich(7)
	count := 0
	lists(reflect.ValueOf(&q).Elem(), func(v reflect.Value) {
		count++
		old := reflect.MakeSlice(v.Type(), v.Len(), v.Len())
		reflect.Copy(old, v)
		defer v.Set(old)
		more := []reflect.Value{reflect.Append(old, reflect.Zero(v.Type().Elem()))}
		if n := old.Len(); n > 0 {
			more = append(more, old.Slice(0, n-1), old.Slice(1, n), reflect.Zero(v.Type()), reflect.Append(old, old.Index(n-1)))
		}
		for _, other := range more {
			v.Set(other)
			if Same(p, q) || Same(q, p) {
				t.Errorf("another list: %+v", q)
			}
		}
	})
	if count != 22 || !Same(p, q) {
		t.Error(count, "lists")
	}
}

func TestSameInOrder(t *testing.T) {
	p, q := rich(0), rich(0)
	slices.Reverse(q.Decls)
	if Same(p, q) {
		t.Error("declarations")
	}
	q = rich(0)
	slices.Reverse(q.Rules)
	if Same(p, q) {
		t.Error("rules")
	}
	for _, swap := range []func(Rule){
		func(r Rule) { slices.Reverse(r.Body) }, func(r Rule) { slices.Reverse(r.Head.Args) },
		func(r Rule) { slices.Reverse(r.Body[0].Atom.Args) }, func(r Rule) { slices.Reverse(r.Body[2].Left.Kids) },
		func(r Rule) { l := &r.Body[2]; l.Left, l.Right = l.Right, l.Left },
	} {
		q = rich(0)
		swap(q.Rules[1])
		if Same(p, q) || Same(q, p) {
			t.Errorf("%+v", q)
		}
	}
	q = rich(0)
	q.Rules[1].Agg, q.Rules[1].Column = q.Rules[1].Column, q.Rules[1].Agg
	if Same(p, q) {
		t.Error("the numbers of an aggregate")
	}
}

func TestSameOfNoneAndEmpty(t *testing.T) {
	none := Program{Decls: []Decl{{}}, Rules: []Rule{{}, {Body: []Literal{{}}}}}
	empty := Program{
		Decls: []Decl{{Kinds: []api.Kind{}}},
		Rules: []Rule{{Head: Atom{Args: []Term{}}, Body: []Literal{}}, {Body: []Literal{{Atom: Atom{Args: []Term{}}, Left: Exp{Kids: []Exp{}}, Right: Exp{Kids: []Exp{}}}}}},
	}
	if !Same(none, empty) || !Same(empty, none) || !Same(Program{}, Program{[]Decl{}, []Rule{}}) {
		t.Error("none and empty")
	}
	if Same(Program{}, none) || Same(none, Program{Decls: none.Decls}) || Same(none, Program{Rules: none.Rules}) {
		t.Error("some and none")
	}
	l := Literal{Kind: Pos, Atom: Atom{"p", []Term{}}, Left: Exp{Kids: []Exp{}}, Right: Exp{Kids: []Exp{}}}
	if !RightLiteral(l) || !RightLiteral(Literal{Kind: Cmp, Op: 1, Atom: Atom{Args: []Term{}}, Left: Exp{Term: x, Kids: []Exp{}}, Right: leaf(x)}) {
		t.Error("empty lists are none")
	}
}

// draw makes parts of programs, mostly right; odd is how many in a thousand of its choices are not.
type draw struct {
	*rand.Rand
	odd int
}

func (d draw) strange() bool { return d.Intn(1000) < d.odd }

// pick is one of a number of choices, now and then one beside them.
func (d draw) pick(from, to int) int {
	if d.strange() {
		return []int{from - 1, to + 1, math.MinInt, math.MaxInt, 0}[d.Intn(5)]
	}
	return from + d.Intn(to-from+1)
}

func (d draw) word(right, wrong string) string {
	if d.strange() {
		right = wrong
	}
	list := strings.Split(right, " ")
	return list[d.Intn(len(list))]
}

func (d draw) term() Term {
	switch t := (Term{}); d.Intn(4) {
	case 0:
		t.Value = api.Value{Kind: api.Int, N: d.pick(-3, 3)}
		return t
	case 1:
		t.Value = api.Value{Kind: api.Kind(d.pick(2, 2)), S: d.word("a b rel not x_1", " A 5 a.b")}
		return t
	default:
		t.Var = d.word("X Y Z Xy X_1 Rel", " x _X X% 5 rel")
		if d.strange() {
			t.Value.N = 1
		}
		return t
	}
}

func (d draw) exp(deep int) Exp {
	if deep == 0 || d.Intn(3) == 0 {
		e := leaf(d.term())
		if d.strange() {
			e.Kids = []Exp{leaf(x)}
		}
		return e
	}
	e := node(d.pick(1, 3), d.exp(deep-1), d.exp(deep-1))
	if d.strange() {
		e.Term = d.term()
	}
	if d.strange() {
		e.Kids = e.Kids[:d.Intn(2)]
	}
	return e
}

func (d draw) atom() Atom {
	a := Atom{Rel: d.word("p q r p_1 nots", " rel not P 5 p.q")}
	for range d.Intn(4) {
		a.Args = append(a.Args, d.term())
	}
	if d.strange() {
		a.Args = slices.Repeat([]Term{x}, 6+d.Intn(2))
	}
	return a
}

func (d draw) literal() Literal {
	l := Literal{Kind: Kind(d.pick(1, 3)), At: d.Intn(9)}
	if l.Kind != Cmp || d.strange() {
		l.Atom = d.atom()
	}
	if l.Kind == Cmp || d.strange() {
		l.Op = d.pick(1, 6)
	}
	if l.Kind == Cmp || d.strange() {
		l.Left = d.exp(d.Intn(4))
	}
	if l.Kind == Cmp || d.strange() {
		l.Right = d.exp(d.Intn(4))
	}
	if d.odd > 0 && d.Intn(40) == 0 {
		l.Right = chain(19+d.Intn(3), d.Intn(3))
	}
	return l
}

func (d draw) rule() Rule {
	r := Rule{Head: d.atom(), At: d.Intn(9)}
	for range d.Intn(5) {
		r.Body = append(r.Body, d.literal())
	}
	if d.strange() {
		r.Body = slices.Repeat(r.Body, 3)
	}
	if n := len(r.Head.Args); n > 0 && d.Intn(2) == 0 {
		r.Agg, r.Column = d.pick(1, 4), d.pick(0, n-1)
		if c := r.Column; d.odd == 0 {
			r.Head.Args[c] = variable("V")
		}
	}
	return r
}

func (d draw) program() Program {
	var p Program
	for range d.Intn(4) {
		decl := Decl{Rel: d.word("p q r", " rel not P"), At: d.Intn(9)}
		for range d.Intn(5) {
			decl.Kinds = append(decl.Kinds, api.Kind(d.pick(1, 2)))
		}
		p.Decls = append(p.Decls, decl)
	}
	for range d.Intn(4) {
		p.Rules = append(p.Rules, d.rule())
	}
	if d.strange() {
		p.Decls = slices.Repeat(p.Decls, 11)
	}
	if d.strange() {
		p.Rules = slices.Repeat(p.Rules, 22)
	}
	return p
}

// partsHold tells where a part of what is formed isn't, or a variable of a rule is in none of its parts.
func partsHold(t *testing.T, p Program) {
	t.Helper()
	formed := Formed(p)
	for _, d := range p.Decls {
		if formed && !Formed(Program{Decls: []Decl{d}}) {
			t.Fatalf("declaration %+v", d)
		}
	}
	for _, r := range p.Rules {
		if formed && !RightRule(r) {
			t.Fatalf("rule %+v", r)
		}
		right := RightRule(r)
		parts := [][]string{Vars(Rule{Head: r.Head})}
		if right && !RightLiteral(Literal{Kind: Pos, Atom: r.Head}) {
			t.Fatalf("head %+v", r.Head)
		}
		for _, l := range r.Body {
			if right && !RightLiteral(l) {
				t.Fatalf("literal %+v", l)
			}
			if RightLiteral(l) && l.Kind == Cmp {
				nodesHold(t, l.Left)
				nodesHold(t, l.Right)
			}
			parts = append(parts, In(l))
		}
		for _, name := range Vars(r) {
			if !slices.Contains(slices.Concat(parts...), name) {
				t.Fatalf("%s of %+v", name, r)
			}
		}
	}
}

func nodesHold(t *testing.T, e Exp) {
	t.Helper()
	if !RightExp(e) {
		t.Fatalf("expression %+v", e)
	}
	for _, kid := range e.Kids {
		nodesHold(t, kid)
	}
	for leaf := range Terms(e) {
		if !RightExp(Exp{Term: leaf}) {
			t.Fatalf("term %+v", leaf)
		}
	}
}

func TestDrawnPrograms(t *testing.T) {
	formed := 0
	for i := range 20000 {
		d := draw{rand.New(rand.NewSource(int64(i))), i % 4 * 8}
		p := d.program()
		formedHolds(t, p)
		partsHold(t, p)
		if Formed(p) {
			formed++
		}
		if d.odd == 0 && !Formed(p) {
			t.Fatalf("not formed: %+v", p)
		}
		for _, r := range p.Rules {
			ruleHolds(t, r)
			for _, l := range r.Body {
				literalHolds(t, l)
				expHolds(t, l.Left)
				expHolds(t, l.Right)
			}
		}
	}
	if formed < 8000 || formed > 18000 {
		t.Errorf("%d of 20000 are formed", formed)
	}
}

func TestDrawnProgramsAreSame(t *testing.T) {
	programs := []Program{}
	for i := range 300 {
		programs = append(programs, draw{rand.New(rand.NewSource(int64(i))), i % 4 * 8}.program())
	}
	texts := make([]string, len(programs))
	for i := range programs {
		p := draw{rand.New(rand.NewSource(int64(i))), i % 4 * 8}.program()
		fields(reflect.ValueOf(&p).Elem(), "", func(v reflect.Value, name string) {
			if name == "At" {
				v.SetInt(int64(i + 50))
			}
		})
		if !Same(p, programs[i]) || !Same(programs[i], p) {
			t.Fatalf("%+v", p)
		}
		fields(reflect.ValueOf(&p).Elem(), "", func(v reflect.Value, name string) {
			if name == "At" {
				v.SetInt(0)
			}
		})
		texts[i] = strings.ReplaceAll(fmt.Sprintf("%#v", p), "(nil)", "{}")
	}
	for i, p := range programs {
		for j, q := range programs {
			if Same(p, q) != (texts[i] == texts[j]) {
				t.Fatalf("%s and %s", texts[i], texts[j])
			}
		}
	}
}

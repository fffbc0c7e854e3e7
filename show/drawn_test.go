package show

import (
	"math/rand"
	"slices"
	"strings"
	"testing"

	"corollary/api"
	"corollary/parse"
	"corollary/term"
)

type draw struct{ *rand.Rand }

func pick[T any](d draw, list ...T) T { return list[d.Intn(len(list))] }

// most is a number up to a greatest one, which comes often.
func (d draw) most(n int) int {
	if d.Intn(6) == 0 {
		return n
	}
	return d.Intn(n + 1)
}

func (d draw) rel() string {
	return pick(d, "p", "q", "r", "edge", "a1", "rels", "not_", "n", "count_all", strings.Repeat("z", 32))
}

func (d draw) variable() term.Term {
	return variable(pick(d, "X", "Y", "Z", "X1", "Rel", "NOT", "V_a", strings.Repeat("V", 32)))
}

func (d draw) term() term.Term {
	switch d.Intn(4) {
	case 0:
		return sym(pick(d, "a", "b", "c2", "rel_", "p", strings.Repeat("s", 32)))
	case 1:
		return number(pick(d, 0, 1, -1, 2, -2, 10, -10, 2147483647, -2147483647, d.Intn(1000)-500))
	}
	return d.variable()
}

func (d draw) atom() term.Atom {
	a := term.Atom{Rel: d.rel()}
	for range d.most(6) {
		a.Args = append(a.Args, d.term())
	}
	return a
}

// exp is an expression of at most so many levels.
func (d draw) exp(deep int) term.Exp {
	if deep == 0 || d.Intn(4) == 0 {
		return leaf(d.term())
	}
	return node(1+d.Intn(3), d.exp(deep-1), d.exp(deep-1))
}

// thin is an expression of just so many levels, most of which have a term on one side.
func (d draw) thin(deep int) term.Exp {
	e := leaf(d.term())
	for range deep {
		other := d.exp(pick(d, 0, 0, 0, 1))
		if d.Intn(2) == 0 {
			e, other = other, e
		}
		e = node(1+d.Intn(3), e, other)
	}
	return e
}

func (d draw) side() term.Exp {
	if d.Intn(12) == 0 {
		return d.thin(pick(d, 10, 19))
	}
	return d.exp(d.Intn(5))
}

func (d draw) literal() term.Literal {
	l := compared(1+d.Intn(6), d.side(), d.side())
	switch d.Intn(3) {
	case 0:
		l = plain(d.atom())
	case 1:
		l = negated(d.atom())
	}
	l.At = d.Intn(9) - 4
	return l
}

func (d draw) rule() term.Rule {
	r := term.Rule{Head: d.atom(), At: d.Intn(9) - 4}
	if n := len(r.Head.Args); n > 0 && d.Intn(2) == 0 {
		r.Agg, r.Column = 1+d.Intn(4), d.Intn(n)
		r.Head.Args[r.Column] = d.variable()
	}
	for range d.most(8) {
		r.Body = append(r.Body, d.literal())
	}
	return r
}

func (d draw) program() term.Program {
	var p term.Program
	for range pick(d, 0, 1, 2, 3, d.most(32)) {
		decl := term.Decl{Rel: d.rel(), At: d.Intn(9) - 4}
		for range d.most(6) {
			decl.Kinds = append(decl.Kinds, pick(d, api.Int, api.Sym))
		}
		p.Decls = append(p.Decls, decl)
	}
	for range pick(d, 0, 1, 2, 3, 4, d.most(64)) {
		p.Rules = append(p.Rules, d.rule())
	}
	return p
}

func TestDrawnPrograms(t *testing.T) {
	d := draw{rand.New(rand.NewSource(7))}
	large := 0
	for range 3000 {
		p := d.program()
		if !term.Formed(p) || !keyless(p) {
			t.Fatal(p)
		}
		holds(t, p)
		returns(t, p)
		if _, err := Program(p); err == api.ErrLarge {
			large++
		}
	}
	if large < 150 || large > 1500 {
		t.Error(large, "of 3000 drawn programs have too long a text")
	}
}

func TestDrawnExpressions(t *testing.T) {
	d := draw{rand.New(rand.NewSource(77))}
	for range 3000 {
		e := d.exp(d.Intn(6))
		got, err := Exp(e)
		is(t, e, spaced(wantExp(e)), got, err)
		returns(t, rulesOf(ruleOf(atomOf("p"), compared(1+d.Intn(6), e, leaf(x)))))
	}
	for range 500 {
		e := d.thin(19 + d.Intn(2))
		got, err := Exp(e)
		if !term.RightExp(e) {
			refused(t, e, api.ErrForm, got, err)
			continue
		}
		is(t, e, spaced(wantExp(e)), got, err)
		returns(t, rulesOf(ruleOf(atomOf("p"), compared(1+d.Intn(6), leaf(x), e))))
	}
}

// small is all expressions of some terms with up to so many levels.
func small(deep int) []term.Exp {
	list := []term.Exp{leaf(x), leaf(number(-1))}
	if deep == 0 {
		return list
	}
	if deep == 2 {
		list = list[:1]
	}
	kids := small(deep - 1)
	for op := 1; op <= 3; op++ {
		for _, left := range kids {
			for _, right := range kids {
				list = append(list, node(op, left, right))
			}
		}
	}
	return list
}

func TestAllSmallExpressions(t *testing.T) {
	for _, e := range small(2) {
		expIs(t, e, spaced(wantExp(e)))
		returns(t, rulesOf(ruleOf(atomOf("p"), compared(1, e, leaf(y)))))
	}
}

// sameExp tells whether a text is still the right side of a rule that is parsed as an expression.
func sameExp(text string, e term.Exp) bool {
	r, _, err := parse.Rule("p() :- X = " + text + ".")
	return err == nil && term.Same(rulesOf(r), rulesOf(ruleOf(atomOf("p"), compared(1, leaf(x), e))))
}

// None of the parentheses is needless: a text without a pair of them is another expression's.
func TestNoNeedlessParentheses(t *testing.T) {
	d := draw{rand.New(rand.NewSource(777))}
	pairs := 0
	for range 1500 {
		e := d.exp(1 + d.Intn(5))
		text, err := Exp(e)
		if err != nil || len(text) > 3900 || !sameExp(text, e) {
			t.Fatalf("%q isn't the text of %+v: %v", text, e, err)
		}
		var opened []int
		for at := range len(text) {
			switch text[at] {
			case '(':
				opened = append(opened, at)
			case ')':
				first := opened[len(opened)-1]
				opened = opened[:len(opened)-1]
				pairs++
				if without := text[:first] + text[first+1:at] + text[at+1:]; sameExp(without, e) {
					t.Fatalf("%q has parentheses that aren't needed at %d and %d", text, first, at)
				}
			}
		}
	}
	if pairs < 1500 {
		t.Error(pairs)
	}
}

// A text has single blanks and line feeds behind points, and nothing else between its tokens.
func TestDrawnBlanks(t *testing.T) {
	d := draw{rand.New(rand.NewSource(7777))}
	for range 300 {
		p := d.program()
		for line := range Lines(p) {
			if strings.ContainsAny(line, "\n\r\t%") || strings.Contains(line, "  ") || strings.TrimSpace(line) != line || !strings.HasSuffix(line, ".") {
				t.Fatalf("%q", line)
			}
		}
		text, err := Program(p)
		if err != nil {
			continue
		}
		want := wantLines(p)
		if strings.Count(text, "\n") != len(want) || text != "" && !strings.HasSuffix(text, ".\n") {
			t.Fatalf("%q", text)
		}
		var tokens []string
		for _, line := range want {
			tokens = append(tokens, tokensOf(t, line)...)
		}
		if got := tokensOf(t, text); !slices.Equal(got, tokens) {
			t.Fatalf("%q has the tokens %q, not %q", text, got, tokens)
		}
	}
}

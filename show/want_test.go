package show

import (
	"fmt"
	"slices"
	"strings"
	"testing"
	"unicode"

	"corollary/api"
	"corollary/lex"
	"corollary/parse"
	"corollary/term"
)

// The chapter's definitions in other words than the package's own, to hold it against: a part is a list of tokens first,
// and two tokens that stand side by side tell whether there is a blank between them.

func wantTerm(t term.Term) string {
	switch t.Value.Kind {
	case 1:
		return fmt.Sprintf("%d", t.Value.N)
	case 2:
		return t.Value.S
	}
	return t.Var
}

// wantExp goes by the chapter's list of operands that have parentheses.
func wantExp(e term.Exp) []string {
	if len(e.Kids) == 0 {
		return []string{wantTerm(e.Term)}
	}
	var list []string
	for i, kid := range e.Kids {
		sum, product := kid.Op == 1 || kid.Op == 2, kid.Op == 3
		wrapped := false
		switch e.Op {
		case 1, 2:
			wrapped = i == 1 && sum
		case 3:
			wrapped = sum || i == 1 && product
		}
		if i == 1 {
			list = append(list, [...]string{1: "+", 2: "-", 3: "*"}[e.Op])
		}
		if wrapped {
			list = append(list, "(")
		}
		list = append(list, wantExp(kid)...)
		if wrapped {
			list = append(list, ")")
		}
	}
	return list
}

// wantList is a name and a list in parentheses, of which one item has an aggregate, if the aggregate has a name.
func wantList(name string, items []string, aggregate string, column int) []string {
	list := []string{name, "("}
	for i, item := range items {
		if i > 0 {
			list = append(list, ",")
		}
		if i == column && aggregate != "" {
			list = append(list, aggregate, "(", item, ")")
		} else {
			list = append(list, item)
		}
	}
	return append(list, ")")
}

func wantTerms(terms []term.Term) []string {
	var items []string
	for _, t := range terms {
		items = append(items, wantTerm(t))
	}
	return items
}

func wantLiteral(l term.Literal) []string {
	plain := wantList(l.Atom.Rel, wantTerms(l.Atom.Args), "", 0)
	switch l.Kind {
	case 1:
		return plain
	case 2:
		return append([]string{"not"}, plain...)
	}
	sign := strings.Fields("= != < <= > >=")[l.Op-1]
	return slices.Concat(wantExp(l.Left), []string{sign}, wantExp(l.Right))
}

func wantRule(r term.Rule) []string {
	aggregate := strings.Split(" count sum min max", " ")[r.Agg]
	list := wantList(r.Head.Rel, wantTerms(r.Head.Args), aggregate, r.Column)
	for i, l := range r.Body {
		list = append(append(list, [...]string{":-", ","}[min(i, 1)]), wantLiteral(l)...)
	}
	return append(list, ".")
}

func wantDecl(d term.Decl) []string {
	var items []string
	for _, k := range d.Kinds {
		items = append(items, map[api.Kind]string{api.Int: "int", api.Sym: "sym"}[k])
	}
	return append(append([]string{"rel"}, wantList(d.Rel, items, "", 0)...), ".")
}

// spaced is tokens with a blank between two of them where there is one in a printed text.
func spaced(tokens []string) string {
	var s strings.Builder
	for i, t := range tokens {
		if i > 0 && blankBetween(tokens[i-1], t) {
			s.WriteByte(' ')
		}
		s.WriteString(t)
	}
	return s.String()
}

func blankBetween(a, b string) bool {
	if a == "(" || b == ")" || b == "," || b == "." {
		return false
	}
	// A list's parenthesis stands at a word, an operand's behind a sign.
	return b != "(" || !unicode.IsLetter(rune(a[0]))
}

func wantLines(p term.Program) []string {
	var lines []string
	for _, d := range p.Decls {
		lines = append(lines, spaced(wantDecl(d)))
	}
	for _, r := range p.Rules {
		lines = append(lines, spaced(wantRule(r)))
	}
	return lines
}

// is holds an answer against a text that there has to be.
func is(t *testing.T, what any, want string, got string, err error) {
	t.Helper()
	if got != want || err != nil {
		t.Fatalf("%+v is printed as\n%q, %v, not\n%q", what, got, err, want)
	}
}

// refused tells where an answer isn't an error and the empty text.
func refused(t *testing.T, what any, want error, got string, err error) {
	t.Helper()
	if got != "" || err != want {
		t.Fatalf("%+v is printed as %q, %v, not %v", what, got, err, want)
	}
}

// holds tells where a well-formed program and its parts aren't printed as the chapter says; its lines are answered.
func holds(t *testing.T, p term.Program) []string {
	t.Helper()
	lines := wantLines(p)
	want := ""
	for _, line := range lines {
		want += line + "\n"
	}
	got, err := Program(p)
	if len(want) > 4000 {
		refused(t, p, api.ErrLarge, got, err)
	} else {
		is(t, p, want, got, err)
	}
	linesHold(t, p, lines)
	for i, r := range p.Rules {
		got, err := Rule(r)
		is(t, r, lines[len(p.Decls)+i], got, err)
		for _, l := range r.Body {
			literalHolds(t, l)
		}
	}
	return lines
}

func literalHolds(t *testing.T, l term.Literal) {
	t.Helper()
	got, err := Literal(l)
	is(t, l, spaced(wantLiteral(l)), got, err)
	if l.Kind != term.Cmp {
		return
	}
	for _, side := range []term.Exp{l.Left, l.Right} {
		got, err := Exp(side)
		is(t, side, spaced(wantExp(side)), got, err)
	}
}

// linesHold goes through a program's lines: whole, once more, and left behind each of them.
func linesHold(t *testing.T, p term.Program, want []string) {
	t.Helper()
	all := Lines(p)
	for range 2 {
		if got := slices.Collect(all); !slices.Equal(got, want) {
			t.Fatalf("the lines of %+v are\n%q, not\n%q", p, got, want)
		}
	}
	for stop := range want {
		var got []string
		for line := range all {
			got = append(got, line)
			if len(got) > stop {
				break
			}
		}
		if !slices.Equal(got, want[:stop+1]) {
			t.Fatalf("the lines of %+v, left behind line %d, are %q", p, stop, got)
		}
	}
	if got := slices.Collect(all); !slices.Equal(got, want) {
		t.Fatalf("the lines of %+v, left before, are\n%q, not\n%q", p, got, want)
	}
}

// returns tells where a program of which no symbol is a key doesn't come back from its text, or a rule from its line where
// the whole text is too long.
func returns(t *testing.T, p term.Program) {
	t.Helper()
	text, err := Program(p)
	if err == api.ErrLarge {
		rulesReturn(t, p.Rules)
		return
	}
	q, at, other := parse.Parse(text)
	if err != nil || other != nil || at != 0 || !term.Same(p, q) {
		t.Fatalf("%+v is printed as %q, %v, which is parsed as\n%+v, %d, %v", p, text, err, q, at, other)
	}
	again, err := Program(q)
	is(t, q, text, again, err)
}

func rulesReturn(t *testing.T, rules []term.Rule) {
	t.Helper()
	for _, r := range rules {
		line, err := Rule(r)
		if err != nil || len(line) > 4000 {
			continue
		}
		q, _, err := parse.Rule(line)
		if err != nil || !term.Same(rulesOf(r), rulesOf(q)) {
			t.Fatalf("%q is parsed as\n%+v, %v, not\n%+v", line, q, err, r)
		}
	}
}

// whole holds a program against a text that is told by hand, and its text against the program.
func whole(t *testing.T, p term.Program, want string) {
	t.Helper()
	holds(t, p)
	got, err := Program(p)
	is(t, p, want, got, err)
	returns(t, p)
}

// unchanged holds a text against itself: it's printed as it is.
func unchanged(t *testing.T, s string) {
	t.Helper()
	p, at, err := parse.Parse(s)
	if err != nil {
		t.Fatal(s, at, err)
	}
	whole(t, p, s)
}

// expIs holds an expression against a text that is told by hand, alone and on both sides of a comparison.
func expIs(t *testing.T, e term.Exp, want string) {
	t.Helper()
	got, err := Exp(e)
	is(t, e, want, got, err)
	l := compared(3, e, e)
	got, err = Literal(l)
	is(t, l, want+" < "+want, got, err)
	literalHolds(t, l)
}

var x, y, z = variable("X"), variable("Y"), variable("Z")

func variable(name string) term.Term { return term.Term{Var: name} }
func number(n int) term.Term         { return term.Term{Value: api.Value{Kind: api.Int, N: n}} }
func sym(s string) term.Term         { return term.Term{Value: api.Value{Kind: api.Sym, S: s}} }
func leaf(t term.Term) term.Exp      { return term.Exp{Term: t} }
func node(op int, left, right term.Exp) term.Exp {
	return term.Exp{Op: op, Kids: []term.Exp{left, right}}
}
func compared(op int, left, right term.Exp) term.Literal {
	return term.Literal{Kind: term.Cmp, Op: op, Left: left, Right: right}
}
func plain(a term.Atom) term.Literal                 { return term.Literal{Kind: term.Pos, Atom: a} }
func negated(a term.Atom) term.Literal               { return term.Literal{Kind: term.Neg, Atom: a} }
func atomOf(rel string, args ...term.Term) term.Atom { return term.Atom{Rel: rel, Args: args} }
func ruleOf(head term.Atom, body ...term.Literal) term.Rule {
	return term.Rule{Head: head, Body: body}
}
func fact(rel string, args ...term.Term) term.Rule { return ruleOf(atomOf(rel, args...)) }
func rulesOf(list ...term.Rule) term.Program       { return term.Program{Rules: list} }
func declOf(rel string, kinds ...api.Kind) term.Decl {
	return term.Decl{Rel: rel, Kinds: kinds}
}

// chain is operations of one sign within one another, so many, on the left or on the right.
func chain(op, deep int, right bool, ground term.Exp) term.Exp {
	e := ground
	for range deep {
		if right {
			e = node(op, leaf(x), e)
		} else {
			e = node(op, e, leaf(x))
		}
	}
	return e
}

// longTree is an expression whose text has more than 4000 bytes.
func longTree() term.Exp {
	e := leaf(variable(strings.Repeat("V", 32)))
	for range 7 {
		e = node(1, e, e)
	}
	return e
}

// long is a rule whose text has more than 4000 bytes.
func long() term.Rule { return ruleOf(atomOf("p"), compared(1, longTree(), leaf(x))) }

// keyless tells whether no symbol of a program is a key.
func keyless(p term.Program) bool {
	keys := strings.Fields("rel int sym not count sum min max")
	for _, r := range p.Rules {
		terms := slices.Clone(r.Head.Args)
		for _, l := range r.Body {
			terms = slices.Concat(terms, l.Atom.Args, slices.Collect(term.Terms(l.Left)), slices.Collect(term.Terms(l.Right)))
		}
		for _, t := range terms {
			if slices.Contains(keys, t.Value.S) {
				return false
			}
		}
	}
	return true
}

// tokensOf is the texts of a text's tokens.
func tokensOf(t *testing.T, s string) []string {
	t.Helper()
	tokens, at, err := lex.List(s)
	if err != nil {
		t.Fatal(s, at, err)
	}
	var texts []string
	for _, token := range tokens {
		texts = append(texts, token.Text)
	}
	return texts
}

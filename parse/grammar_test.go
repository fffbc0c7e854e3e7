package parse

import (
	"slices"
	"strconv"
	"strings"

	"corollary/api"
	"corollary/lex"
	"corollary/term"
)

// The chapter's grammar in other words than the package's own, to hold it against: what is still to come of a text is a
// stack of symbols, all stacks that are possible are kept at once, and the tree is made from a right text by cutting it up.

// symbol is the symbol that a token is for the grammar.
func symbol(t lex.Token) string {
	switch t.Kind {
	case lex.Name:
		return "name"
	case lex.Var:
		return "var"
	case lex.Number:
		return "number"
	}
	return t.Text
}

// numbered is a symbol with numbers that grow, such as the ones of what there is already.
func numbered(symbol string, n ...int) string {
	for i, k := range n {
		symbol += []string{"/", ","}[min(i, 1)] + strconv.Itoa(k)
	}
	return symbol
}

// forms is what may stand for a symbol, or nothing for a token. A symbol with ! in front is an error, not a form:
// !large for any token, !large:rel and !large:rest for that key and for all others, !deep for a parenthesis.
// The symbol # stands behind a whole comparison.
func forms(symbol string) []string {
	kind, rest, _ := strings.Cut(symbol, "/")
	first, second, _ := strings.Cut(rest, ",")
	a, _ := strconv.Atoi(first)
	b, _ := strconv.Atoi(second)
	switch kind {
	case "program":
		return programForms(a, b)
	case "rule":
		return []string{"name ( items . ", "name ( items :- " + numbered("body", 0) + " ."}
	case "items":
		return []string{")", numbered("item", 0, 0)}
	case "item", "kind", "term":
		return listForms(kind, a, b)
	case "kinds":
		return []string{")", numbered("kind", 0, 0)}
	case "terms":
		return []string{")", numbered("term", 0, 0)}
	case "aggregate":
		return []string{"count", "sum", "min", "max"}
	case "value":
		return []string{"var", "name", "number", "- number"}
	case "body":
		if a == 8 {
			return []string{"!large"}
		}
		return []string{"literal", "literal , " + numbered("body", a+1)}
	case "literal":
		return []string{"not atom", "atom", numbered("expression", 0) + " sign " + numbered("expression", 0) + " #"}
	case "atom":
		return []string{"name ( terms"}
	case "sign":
		return []string{"=", "!=", "<", "<=", ">", ">="}
	case "expression":
		return []string{numbered("product", a) + " " + numbered("more", a)}
	case "more":
		return []string{"", "+ " + numbered("expression", a), "- " + numbered("expression", a)}
	case "product":
		return []string{numbered("operand", a) + " " + numbered("times", a)}
	case "times":
		return []string{"", "* " + numbered("product", a)}
	case "operand":
		if a == 20 {
			return []string{"value", "!deep"}
		}
		return []string{"value", "( " + numbered("expression", a+1) + " )"}
	}
	return nil
}

func programForms(decls, rules int) []string {
	list := []string{""}
	if decls == 32 {
		list = append(list, "!large:rel")
	} else {
		list = append(list, "rel name ( kinds . "+numbered("program", decls+1, rules))
	}
	if rules == 64 {
		return append(list, "!large:rest")
	}
	return append(list, "rule "+numbered("program", decls, rules+1))
}

// listForms is the forms of a list's end from an item on; a head's list notes whether it has an aggregate.
func listForms(kind string, n, aggregates int) []string {
	if n == 6 {
		return []string{"!large"}
	}
	next := func(item string, aggregates int) []string {
		return []string{item + " )", item + " , " + numbered(kind, n+1, aggregates)}
	}
	if kind == "kind" {
		return slices.Concat(next("int", 0), next("sym", 0))
	}
	if kind == "item" && aggregates == 0 {
		return slices.Concat(next("value", 0), next("aggregate ( var )", 1))
	}
	return next("value", aggregates)
}

// opened is stacks with tokens, errors and # on top alone, and the empty one; it's kept, as most texts begin alike.
func opened(stacks []string) []string {
	key := strings.Join(stacks, "|")
	if list, ok := kept[key]; ok {
		return list
	}
	var list []string
	for len(stacks) > 0 {
		top, below, _ := strings.Cut(stacks[0], " ")
		ways := forms(top)
		if len(ways) == 0 {
			list = append(list, stacks[0])
		}
		stacks = stacks[1:]
		for _, way := range ways {
			stacks = append(stacks, strings.TrimSpace(strings.TrimSpace(way)+" "+below))
		}
	}
	slices.Sort(list)
	kept[key] = slices.Compact(list)
	return kept[key]
}

var kept = map[string][]string{}

// wantError is the first error of tokens by the grammar, and the number of the token where it is; those of the text's end
// are at the number of the tokens.
func wantError(start string, tokens []lex.Token) (error, int) {
	stacks := []string{start}
	for i := 0; i <= len(tokens); i++ {
		next := ""
		if i < len(tokens) {
			next = symbol(tokens[i])
		}
		stacks = opened(stacks)
		if passed := pass(stacks, next); passed != nil {
			first := literalStart(tokens[:i])
			if deepest(tokens[first:i]) > 20 {
				return api.ErrDeep, first
			}
			stacks = passed
		}
		if err := refused(stacks, next); err != nil {
			return err, i
		}
		if i == len(tokens) && slices.Contains(stacks, "") {
			return nil, 0
		}
		var left []string
		for _, s := range stacks {
			if top, below, _ := strings.Cut(s, " "); top == next && next != "" {
				left = append(left, below)
			}
		}
		if stacks = left; len(left) == 0 {
			return api.ErrForm, i
		}
	}
	panic("beyond the end")
}

// pass is the stacks behind a whole comparison, if one ends ahead of a token.
func pass(stacks []string, next string) []string {
	if slices.Contains([]string{"+", "-", "*"}, next) {
		return nil
	}
	var list []string
	whole := false
	for _, s := range stacks {
		if top, below, _ := strings.Cut(s, " "); top == "#" {
			s, whole = below, true
		}
		list = append(list, s)
	}
	if !whole {
		return nil
	}
	return opened(list)
}

// refused is the error that a token is, whatever else may stand there.
func refused(stacks []string, next string) error {
	for _, s := range stacks {
		switch top, _, _ := strings.Cut(s, " "); {
		case top == "!large", top == "!large:rel" && next == "rel", top == "!large:rest" && next != "rel" && next != "":
			return api.ErrLarge
		case top == "!deep" && next == "(":
			return api.ErrDeep
		}
	}
	return nil
}

// literalStart is the number of the first token of the comparison that ends behind tokens.
func literalStart(tokens []lex.Token) int {
	for i := len(tokens) - 1; i >= 0; i-- {
		if text := tokens[i].Text; text == "," || text == ":-" {
			return i + 1
		}
	}
	panic("no start")
}

// deepest is the depth of the deeper side of a comparison.
func deepest(tokens []lex.Token) int {
	l := wantLiteral(tokens)
	return max(depth(l.Left), depth(l.Right))
}

func depth(e term.Exp) int {
	if e.Op == 0 {
		return 0
	}
	return 1 + max(depth(e.Kids[0]), depth(e.Kids[1]))
}

// split is tokens cut at a sign, where it stands in no parentheses.
func split(tokens []lex.Token, sign string) [][]lex.Token {
	if len(tokens) == 0 {
		return nil
	}
	list, open := [][]lex.Token{nil}, 0
	for _, t := range tokens {
		switch t.Text {
		case "(":
			open++
		case ")":
			open--
		}
		if t.Text == sign && open == 0 {
			list = append(list, nil)
			continue
		}
		list[len(list)-1] = append(list[len(list)-1], t)
	}
	return list
}

// wantProgram is the program of tokens in which there is no error.
func wantProgram(tokens []lex.Token) term.Program {
	var p term.Program
	for _, statement := range split(tokens, ".") {
		switch {
		case len(statement) == 0:
		case statement[0].Text == "rel":
			d := term.Decl{Rel: statement[1].Text, At: statement[0].At}
			for _, t := range statement[2:] {
				if n := slices.Index([]string{"int", "sym"}, t.Text); n >= 0 {
					d.Kinds = append(d.Kinds, api.Kind(n+1))
				}
			}
			p.Decls = append(p.Decls, d)
		default:
			p.Rules = append(p.Rules, wantRule(statement))
		}
	}
	return p
}

// wantRule is the rule of tokens without its point.
func wantRule(tokens []lex.Token) term.Rule {
	parts := split(tokens, ":-")
	head := parts[0]
	r := term.Rule{Head: term.Atom{Rel: head[0].Text}, At: head[0].At}
	for i, item := range split(head[2:len(head)-1], ",") {
		if len(item) == 4 {
			r.Agg, r.Column = slices.Index([]string{"", "count", "sum", "min", "max"}, item[0].Text), i
			item = item[2:3]
		}
		r.Head.Args = append(r.Head.Args, wantTerm(item))
	}
	for _, body := range parts[1:] {
		for _, l := range split(body, ",") {
			r.Body = append(r.Body, wantLiteral(l))
		}
	}
	return r
}

func wantAtom(tokens []lex.Token) term.Atom {
	a := term.Atom{Rel: tokens[0].Text}
	for _, item := range split(tokens[2:len(tokens)-1], ",") {
		a.Args = append(a.Args, wantTerm(item))
	}
	return a
}

func wantLiteral(tokens []lex.Token) term.Literal {
	l := term.Literal{Kind: term.Cmp, At: tokens[0].At}
	for n, sign := range []string{"=", "!=", "<", "<=", ">", ">="} {
		if sides := split(tokens, sign); len(sides) == 2 {
			l.Op, l.Left, l.Right = n+1, wantExp(sides[0]), wantExp(sides[1])
			return l
		}
	}
	l.Kind = term.Pos
	if tokens[0].Text == "not" {
		l.Kind, tokens = term.Neg, tokens[1:]
	}
	l.Atom = wantAtom(tokens)
	return l
}

// wantExp cuts an expression at its last + or - in no parentheses, or else at its last *, or else takes its parentheses off.
func wantExp(tokens []lex.Token) term.Exp {
	for _, signs := range [...]string{"+-", "*"} {
		open := 0
		for i := len(tokens) - 1; i > 0; i-- {
			switch tokens[i].Text {
			case "(":
				open--
			case ")":
				open++
			}
			binds := strings.Contains(signs, tokens[i].Text) && !strings.Contains("(+-*", tokens[i-1].Text)
			if open == 0 && binds {
				op := strings.Index(" +-*", tokens[i].Text)
				return term.Exp{Op: op, Kids: []term.Exp{wantExp(tokens[:i]), wantExp(tokens[i+1:])}}
			}
		}
	}
	if tokens[0].Text == "(" {
		return wantExp(tokens[1 : len(tokens)-1])
	}
	return term.Exp{Term: wantTerm(tokens)}
}

func wantTerm(tokens []lex.Token) term.Term {
	t := tokens[0]
	switch t.Kind {
	case lex.Var:
		return term.Term{Var: t.Text}
	case lex.Name:
		return term.Term{Value: api.Value{Kind: 2, S: t.Text}}
	}
	n, err := strconv.Atoi(lex.Join(tokens...))
	if err != nil {
		n, err = strconv.Atoi("-" + tokens[1].Text)
	}
	if err != nil {
		panic(err)
	}
	return term.Term{Value: api.Value{Kind: 1, N: n}}
}

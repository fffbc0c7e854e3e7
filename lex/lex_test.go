package lex

import (
	"fmt"
	"math/rand"
	"regexp"
	"slices"
	"strconv"
	"strings"
	"testing"

	"corollary/api"
	"corollary/value"
)

// The chapter's definitions in other words than the package's own, to hold it against.
var (
	skipForm   = regexp.MustCompile(`\A(?:[\t\n\r ]|%[^\n]*)*`)
	wordForm   = regexp.MustCompile(`\A[a-zA-Z0-9_]+`)
	signForm   = regexp.MustCompile(`\A(?::-|!=|<=|>=|[(),.=<>+*-])`)
	keyForm    = regexp.MustCompile(`\A(?:rel|int|sym|not|count|sum|min|max)\z`)
	nameForm   = regexp.MustCompile(`\A[a-z][a-z0-9_]{0,31}\z`)
	varForm    = regexp.MustCompile(`\A[A-Z][a-zA-Z0-9_]{0,31}\z`)
	numberForm = regexp.MustCompile(`\A(?:0|[1-9][0-9]{0,9})\z`)
)

var (
	allKeys  = strings.Fields("rel int sym not count sum min max")
	allSigns = strings.Fields(":- != <= >= ( ) , . = < > + - *")
)

const wordBytes = "abcdefghijklmnopqrstuvwxyzABCDEFGHIJKLMNOPQRSTUVWXYZ0123456789_"

// formed is the kind of a word or a sign, 0 if it is none.
func formed(s string) Kind {
	switch {
	case keyForm.MatchString(s):
		return Key
	case nameForm.MatchString(s):
		return Name
	case varForm.MatchString(s):
		return Var
	case numberForm.MatchString(s):
		if n, err := strconv.ParseInt(s, 10, 64); err != nil || n > 2147483647 {
			return 0
		}
		return Number
	case signForm.FindString(s) == s && s != "":
		return Sign
	}
	return 0
}

// wanted is the tokens of a text, the offset at which there is none, and whether there is such a one.
func wanted(s string) ([]Token, int, bool) {
	var list []Token
	for at := 0; ; {
		at += len(skipForm.FindString(s[at:]))
		if at == len(s) {
			return list, 0, false
		}
		text := wordForm.FindString(s[at:])
		if text == "" {
			text = signForm.FindString(s[at:])
		}
		if formed(text) == 0 {
			return list, at, true
		}
		list = append(list, Token{formed(text), text, at})
		at += len(text)
	}
}

// holds tells where All, List or a second loop isn't what the chapter says of a text.
func holds(t *testing.T, s string) {
	t.Helper()
	tokens, at, fault := wanted(s)
	seq := All(s)
	for range 2 {
		var got []Token
		var errs []error
		for x, err := range seq {
			got, errs = append(got, x), append(errs, err)
		}
		ends := slices.Clone(tokens)
		if fault {
			ends = append(ends, Token{At: at})
		}
		if !slices.Equal(got, ends) {
			t.Fatalf("All(%q) = %v, not %v", s, got, ends)
		}
		for i, err := range errs {
			if last := fault && i == len(errs)-1; last && err != api.ErrForm || !last && err != nil {
				t.Fatalf("All(%q): token %d with %v", s, i, err)
			}
		}
	}
	listHolds(t, s, tokens, at, fault)
}

func listHolds(t *testing.T, s string, tokens []Token, at int, fault bool) {
	t.Helper()
	want, err := tokens, error(nil)
	if fault {
		want, err = nil, api.ErrForm
	}
	if len(s) > 4000 {
		want, at, err = nil, 4000, api.ErrLarge
	}
	got, gotAt, gotErr := List(s)
	if !slices.Equal(got, want) || gotAt != at || gotErr != err {
		t.Fatalf("List(%q) = %v, %d, %v, not %v, %d, %v", s, got, gotAt, gotErr, want, at, err)
	}
}

// one tells if a text isn't a single token of that kind.
func one(t *testing.T, s string, kind Kind) {
	t.Helper()
	list, at, err := List(s)
	if err != nil || at != 0 || !slices.Equal(list, []Token{{kind, s, 0}}) {
		t.Errorf("List(%q) = %v, %d, %v, not one token of kind %d", s, list, at, err, kind)
	}
	holds(t, s)
}

// refused tells if a text hasn't its first fault at an offset.
func refused(t *testing.T, s string, at int) {
	t.Helper()
	if list, got, err := List(s); len(list) != 0 || got != at || err != api.ErrForm {
		t.Errorf("List(%q) = %v, %d, %v, not a fault at %d", s, list, got, err, at)
	}
	holds(t, s)
}

func TestKinds(t *testing.T) {
	if Key != 1 || Name != 2 || Var != 3 || Number != 4 || Sign != 5 {
		t.Error(Key, Name, Var, Number, Sign)
	}
}

func TestOrdinary(t *testing.T) {
	for s, want := range map[string][]Token{
		"p(X):-q(X).%x": {
			{Name, "p", 0}, {Sign, "(", 1}, {Var, "X", 2}, {Sign, ")", 3}, {Sign, ":-", 4},
			{Name, "q", 6}, {Sign, "(", 7}, {Var, "X", 8}, {Sign, ")", 9}, {Sign, ".", 10},
		},
		"rel e(int, sym).": {
			{Key, "rel", 0}, {Name, "e", 4}, {Sign, "(", 5}, {Key, "int", 6}, {Sign, ",", 9}, {Key, "sym", 11}, {Sign, ")", 14}, {Sign, ".", 15},
		},
		"Y != -10 * 2+x_1<=Zz": {
			{Var, "Y", 0}, {Sign, "!=", 2}, {Sign, "-", 5}, {Number, "10", 6}, {Sign, "*", 9}, {Number, "2", 11}, {Sign, "+", 12},
			{Name, "x_1", 13}, {Sign, "<=", 16}, {Var, "Zz", 18},
		},
		"a% b c\nd": {{Name, "a", 0}, {Name, "d", 7}},
		"a%%\n%\nb": {{Name, "a", 0}, {Name, "b", 6}},
	} {
		list, at, err := List(s)
		if err != nil || at != 0 || !slices.Equal(list, want) {
			t.Errorf("List(%q) = %v, %d, %v", s, list, at, err)
		}
		holds(t, s)
	}
	refused(t, "n(count(Y))\n:- not p, % why\r\n\tY!=-07a", 34)
}

func TestNoTokens(t *testing.T) {
	for _, s := range []string{
		"", " ", "\t", "\n", "\r", " \t\r\n ", "%", "%\n", "%a", "%a\n", "% a ( \xff $ %\r b", "\n%\n%\n", "%\n%", " % only a note", " % only a note\n ",
		strings.Repeat(" ", 4000), strings.Repeat("\n", 4000), "%" + strings.Repeat("$", 3999), strings.Repeat("%\n", 2000),
	} {
		if list, at, err := List(s); len(list) != 0 || at != 0 || err != nil {
			t.Errorf("List(%q) = %v, %d, %v", s, list, at, err)
		}
		for x, err := range All(s) {
			t.Errorf("All(%q) has %v, %v", s, x, err)
		}
		holds(t, s)
	}
}

func TestComments(t *testing.T) {
	for c := range 256 {
		s := "a %" + string([]byte{byte(c)}) + "$\nb"
		if c == '\n' {
			refused(t, s, 4)
			continue
		}
		// Line feed alone ends one; the line feed's fellows, and another %, do not.
		if list, _, err := List(s); err != nil || !slices.Equal(list, []Token{{Name, "a", 0}, {Name, "b", 6}}) {
			t.Errorf("List(%q) = %v, %v", s, list, err)
		}
		holds(t, s)
	}
	for _, end := range []string{"", "\n", "\r", "\r\n", "\n\n", "\n\t"} {
		for _, inside := range []string{"", "x", " x", "%", "$", "\xff"} {
			s := "a%" + inside + end
			if list, _, err := List(s); err != nil || !slices.Equal(list, []Token{{Name, "a", 0}}) {
				t.Errorf("List(%q) = %v, %v", s, list, err)
			}
			holds(t, s)
		}
	}
}

func TestKeys(t *testing.T) {
	for _, k := range allKeys {
		one(t, k, Key)
		for i := range len(wordBytes) {
			c := wordBytes[i : i+1]
			switch {
			case strings.Contains(wordBytes[:26], c):
				one(t, k+c, Name)
				one(t, c+k, Name)
			case strings.Contains(wordBytes[26:52], c):
				refused(t, k+c, 0)
				one(t, c+k, Var)
			default:
				one(t, k+c, Name)
				refused(t, c+k, 0)
			}
		}
		for i := 1; i < len(k); i++ {
			one(t, k[:i], Name)
			one(t, k[i:], Name)
			refused(t, k[:i]+strings.ToUpper(k[i:]), 0)
		}
		one(t, strings.ToUpper(k), Var)
		one(t, strings.ToUpper(k[:1])+k[1:], Var)
		for _, l := range allKeys {
			one(t, k+l, Name)
			one(t, k+"_"+l, Name)
		}
	}
	for _, s := range strings.Fields("and or if avg mod div true false null var float string symbol number text fact rule pos neg cmp name sums mins maxs int2 sym_ key sign else then in from group") {
		one(t, s, Name)
	}
}

// TestShortWords holds that no other word of one to three letters is a key.
func TestShortWords(t *testing.T) {
	texts := []string{""}
	for from, n := 0, 0; n < 3; n++ {
		to := len(texts)
		for _, s := range texts[from:to] {
			for c := range 26 {
				texts = append(texts, s+wordBytes[c:c+1])
			}
		}
		from = to
	}
	for _, s := range texts[1:] {
		if slices.Contains(allKeys, s) {
			one(t, s, Key)
		} else {
			one(t, s, Name)
		}
	}
}

func TestSigns(t *testing.T) {
	for _, a := range allSigns {
		one(t, a, Sign)
		for _, b := range allSigns {
			// With a blank between they are two; without one, too, unless a sign of two bytes begins there.
			for _, s := range []string{a + " " + b, a + "\n" + b, a + "%\n" + b} {
				if list, _, err := List(s); err != nil || !slices.Equal(list, []Token{{Sign, a, 0}, {Sign, b, len(s) - len(b)}}) {
					t.Errorf("List(%q) = %v, %v", s, list, err)
				}
			}
			list, _, err := List(a + b)
			want := []Token{{Sign, a, 0}, {Sign, b, len(a)}}
			if a+b == "<=" || a+b == ">=" {
				want = []Token{{Sign, a + b, 0}}
			}
			if err != nil || !slices.Equal(list, want) {
				t.Errorf("List(%q) = %v, %v", a+b, list, err)
			}
			holds(t, a+b)
		}
	}
	for s, want := range map[string]string{
		"<==": "<= =", ">==": ">= =", "<<=": "< <=", "=<": "= <", "=>": "= >", "<>": "< >", ":--": ":- -", "!==": "!= =", "==": "= =", "-:-": "- :-", "...": ". . .", "<=>=": "<= >=",
	} {
		if list, _, err := List(s); err != nil || Join(list...) != want {
			t.Errorf("List(%q) = %v, %v", s, list, err)
		}
		holds(t, s)
	}
	for s, at := range map[string]int{
		":": 0, "!": 0, ": -": 0, "! =": 0, "::-": 0, "!!=": 0, ":%\n-": 0, ":=": 0, "!-": 0, "a:": 1, "a!": 1, ":-:": 2, "!=!": 2, "-:": 1, "=!": 1, "<:": 1, "!>": 0, ":\n": 0,
	} {
		refused(t, s, at)
	}
}

func TestWords(t *testing.T) {
	for _, n := range []int{1, 2, 31, 32} {
		for i := range len(wordBytes) {
			c := wordBytes[i : i+1]
			capital := strings.ToLower(c) != c
			rest := strings.Repeat(c, n-1)
			one(t, "Q"+rest, Var)
			if n == 1 || !capital {
				one(t, "q"+rest, Name)
			} else {
				refused(t, "q"+rest, 0)
			}
		}
	}
	for _, n := range []int{33, 34, 64, 288, 4000} {
		for _, c := range []string{"a", "z", "A", "Z", "_", "1"} {
			refused(t, "a"+strings.Repeat(c, n-1), 0)
			refused(t, "A"+strings.Repeat(c, n-1), 0)
			refused(t, strings.Repeat(c, n), 0)
		}
	}
	for _, s := range []string{"aB", "aBc", "a_B", "a1Z", "_", "__", "_a", "_A", "_1", "relX", "nOT"} {
		refused(t, s, 0)
		refused(t, "x "+s+" y", 2)
		refused(t, "("+s+")", 1)
	}
	for _, s := range []string{"A", "Z", "AB", "Ab", "A_", "A1", "A_b1C", "Rel", "INT"} {
		one(t, s, Var)
	}
	for _, s := range []string{"a", "z", "ab", "a_", "a1", "a_1b", "re", "rels", "counter", "e1"} {
		one(t, s, Name)
	}
}

func TestNumbers(t *testing.T) {
	for _, s := range []string{"0", "1", "9", "10", "90", "100", "1000000000", "2147483639", "2147483646", "2147483647"} {
		one(t, s, Number)
	}
	for n := range 1000 {
		one(t, strconv.Itoa(n), Number)
		refused(t, "0"+strconv.Itoa(n), 0)
	}
	for _, s := range []string{
		"2147483648", "2147483650", "2147483700", "3000000000", "4294967295", "4294967296", "4294967297", "9999999999", "10000000000", "21474836470",
		"9223372036854775807", "9223372036854775808", "18446744073709551615", "18446744073709551616", "18446744073709551617", "1" + strings.Repeat("0", 64), strings.Repeat("9", 3000),
		"00", "01", "007", "02147483647", "0000000000", strings.Repeat("0", 100) + "1",
		"9x", "0x10", "0b1", "0o7", "1e3", "1_000", "1_", "0_", "1A", "0a", "2147483647a",
	} {
		refused(t, s, 0)
		refused(t, "-"+s, 1)
		refused(t, "1 "+s+".", 2)
	}
	for s, want := range map[string]string{
		"-1": "- 1", "+1": "+ 1", "--0": "- - 0", "1.5": "1 . 5", "1.": "1 .", ".5": ". 5", "1-1": "1 - 1", "-2147483647": "- 2147483647", "0 1": "0 1", "0%\n1": "0 1", "1,2": "1 , 2",
	} {
		if list, _, err := List(s); err != nil || Join(list...) != want {
			t.Errorf("List(%q) = %v, %v", s, list, err)
		}
		holds(t, s)
	}
	for i := range len(wordBytes) {
		c := wordBytes[i : i+1]
		if c < "0" || c > "9" {
			refused(t, "1"+c, 0)
			refused(t, "0"+c, 0)
			refused(t, "12"+c+"3", 0)
		}
	}
}

// TestBytes holds each byte first, in the middle and last, alone and close to tokens.
func TestBytes(t *testing.T) {
	for c := range 256 {
		b := string([]byte{byte(c)})
		for _, s := range []string{b, b + " a", "a " + b, "a " + b + " b", b + "a", "a" + b, "a" + b + "b", "A" + b, b + "A", "1" + b, b + "1", "(" + b, b + ")", b + b, "%" + b, b + "%", b + "=", b + "-", "=" + b, "-" + b} {
			holds(t, s)
		}
		if strings.Contains("\t\n\r %(),.=<>+-*"+wordBytes, b) {
			continue
		}
		if c != ':' && c != '!' {
			refused(t, b+"-", 0)
			refused(t, b+"=", 0)
		}
		refused(t, b, 0)
		refused(t, b+" p(X).", 0)
		refused(t, "p(X)"+b+".", 4)
		refused(t, "p("+b+"X).", 2)
		refused(t, "p(X). "+b, 6)
		refused(t, "p"+b, 1)
		refused(t, "1"+b, 1)
		refused(t, "P"+b, 1)
		refused(t, "a\n%\n"+b+"\n", 4)
	}
	for s, at := range map[string]int{
		"é": 0, "aé": 1, "a é": 2, "\u00a0": 0, "a\u00a0b": 1, "\u2028": 0, "٣": 0, "1٣": 1, "\ufeffp": 0, "\xc3": 0, "a\x80": 1, "Ω": 0, "X\xff": 1, "a\x00": 1, "\v": 0, "\f": 0, "a\x0bb": 1, "𝒳": 0, "≤": 0,
	} {
		refused(t, s, at)
	}
}

func TestFirstFault(t *testing.T) {
	for s, at := range map[string]int{
		"$ ?": 0, "a $ ? b": 2, "a ? $": 2, "a aB 01": 2, "01 aB": 0, "x. 2147483648 _": 3, "a %$\n $ ?": 6, "( _ )(": 2, "a : ! b": 2, "\xff\xff": 0, "%\xff\n\xff\xff": 3, "a.b$c$": 3,
		strings.Repeat("a", 33) + " $": 0, "$ " + strings.Repeat("a", 33): 0, strings.Repeat("$", 4000): 0, strings.Repeat(" ", 3999) + "$": 3999,
	} {
		refused(t, s, at)
	}
}

// TestFaultIsLast holds that a loop ends behind the fault, even if it would go on.
func TestFaultIsLast(t *testing.T) {
	var got []string
	All("a $ b $")(func(x Token, err error) bool {
		got = append(got, fmt.Sprint(x, err))
		return true
	})
	if want := []string{fmt.Sprint(Token{Name, "a", 0}, nil), fmt.Sprint(Token{At: 2}, api.ErrForm)}; !slices.Equal(got, want) {
		t.Error(got)
	}
}

func TestLong(t *testing.T) {
	for _, n := range []int{3998, 3999, 4000, 4001, 4002, 8000, 100000} {
		for _, s := range []string{
			strings.Repeat(" ", n), strings.Repeat("\n", n), strings.Repeat("%", n), strings.Repeat("(", n), strings.Repeat("a ", n/2) + strings.Repeat("b", n%2),
			strings.Repeat(" ", n-1) + "a", "a" + strings.Repeat(" ", n-1), strings.Repeat(" ", n-1) + "%", "a%" + strings.Repeat("b", n-2),
			"$" + strings.Repeat(" ", n-1), strings.Repeat(" ", n-1) + "$", strings.Repeat("$", n), "a" + strings.Repeat("$", n-1), strings.Repeat(".", n-1) + "$",
			strings.Repeat("a", n), strings.Repeat("9", n), strings.Repeat("\xff", n), strings.Repeat("é", n/2) + strings.Repeat(" ", n%2),
		} {
			list, at, err := List(s)
			if (err == api.ErrLarge) != (n > 4000) || n > 4000 && (at != 4000 || list != nil) {
				t.Errorf("%d bytes of %q..: %d tokens, %d, %v", n, s[:2], len(list), at, err)
			}
			holds(t, s)
		}
	}
	// All has no such limit: it tells the tokens, and a fault, behind the 4000 bytes too.
	list := slices.Collect(func(yield func(Token) bool) {
		for x := range All(strings.Repeat(" ", 4000) + "ab $") {
			if !yield(x) {
				return
			}
		}
	})
	if !slices.Equal(list, []Token{{Name, "ab", 4000}, {At: 4003}}) {
		t.Error(list)
	}
}

func TestLoopsAreLeft(t *testing.T) {
	for _, s := range []string{"a b c", "a ( ?", "a b c $ d", "", "$", "%"} {
		tokens, at, fault := wanted(s)
		if fault {
			tokens = append(tokens, Token{At: at})
		}
		seq := All(s)
		for most := 1; most <= len(tokens)+1; most++ {
			var got []Token
			for x := range seq {
				got = append(got, x)
				if len(got) == most {
					break
				}
			}
			if !slices.Equal(got, tokens[:min(most, len(tokens))]) {
				t.Errorf("All(%q), left after %d: %v", s, most, got)
			}
			calls := 0
			seq(func(Token, error) bool {
				calls++
				return calls < most
			})
			if calls != min(most, len(tokens)) {
				t.Errorf("All(%q), left after %d: %d calls", s, most, calls)
			}
		}
		// A loop that was left goes through all of them when it begins again, also within another one.
		outer := 0
		for x := range seq {
			var got []Token
			for y := range seq {
				got = append(got, y)
			}
			if x != tokens[outer] || !slices.Equal(got, tokens) {
				t.Errorf("All(%q) within itself: %v, %v", s, x, got)
			}
			outer++
		}
		if outer != len(tokens) {
			t.Errorf("All(%q): %d tokens", s, outer)
		}
	}
}

// TestShortTexts holds every text of a few pieces that touch one another.
func TestShortTexts(t *testing.T) {
	pieces := []string{"a", "B", "0", "7", "_", "rel", " ", "\n", "%", ":", "!", "-", "=", "<", ">", "(", ".", "$", "\xff"}
	texts := []string{""}
	for from, n := 0, 0; n < 4; n++ {
		to := len(texts)
		for _, s := range texts[from:to] {
			for _, p := range pieces {
				texts = append(texts, s+p)
			}
		}
		from = to
	}
	for _, s := range texts {
		holds(t, s)
	}
}

func TestDrawnBytes(t *testing.T) {
	const usual = "abzAZ019_ \t\r\n%:-!=<>(),.+*"
	from := rand.New(rand.NewSource(4))
	for range 20000 {
		b := make([]byte, from.Intn(30))
		for i := range b {
			if from.Intn(20) == 0 {
				b[i] = byte(from.Intn(256))
			} else {
				b[i] = usual[from.Intn(len(usual))]
			}
		}
		holds(t, string(b))
	}
}

func drawnToken(from *rand.Rand) Token {
	letters := func(n int, of string) string {
		b := make([]byte, n)
		for i := range b {
			b[i] = of[from.Intn(len(of))]
		}
		return string(b)
	}
	length := from.Intn(6)
	if from.Intn(10) == 0 {
		length = 31
	}
	switch from.Intn(5) {
	case 0:
		return Token{Kind: Key, Text: allKeys[from.Intn(len(allKeys))]}
	case 1:
		s := letters(1, wordBytes[:26]) + letters(length, strings.ToLower(wordBytes))
		return Token{Kind: formed(s), Text: s}
	case 2:
		return Token{Kind: Var, Text: letters(1, wordBytes[26:52]) + letters(length, wordBytes)}
	case 3:
		n := from.Intn(2147483648) >> from.Intn(32)
		return Token{Kind: Number, Text: strconv.Itoa(n)}
	}
	return Token{Kind: Sign, Text: allSigns[from.Intn(len(allSigns))]}
}

// drawnGap is blanks and comments, at least one of them if the tokens around it must not touch.
func drawnGap(from *rand.Rand, apart bool) string {
	var b strings.Builder
	for apart || from.Intn(3) == 0 {
		apart = false
		if from.Intn(3) > 0 {
			b.WriteByte("\t\n\r "[from.Intn(4)])
			continue
		}
		b.WriteByte('%')
		for range from.Intn(8) {
			if c := byte(from.Intn(256)); c != '\n' {
				b.WriteByte(c)
			}
		}
		b.WriteByte('\n')
	}
	return b.String()
}

// touch tells whether two tokens would be read as others without a gap between them.
func touch(a, b Token) bool {
	if a.Kind == Sign || b.Kind == Sign {
		return b.Text == "=" && (a.Text == "<" || a.Text == ">")
	}
	return a.Kind != 0
}

// withoutPlaces is tokens with their kinds and texts alone.
func withoutPlaces(list []Token) []Token {
	list = slices.Clone(list)
	for i := range list {
		list[i].At = 0
	}
	return list
}

func TestDrawnTokens(t *testing.T) {
	for seed := range 3000 {
		from := rand.New(rand.NewSource(int64(seed)))
		var want []Token
		var text strings.Builder
		last := Token{}
		for range from.Intn(100) {
			x := drawnToken(from)
			text.WriteString(drawnGap(from, touch(last, x)))
			x.At = text.Len()
			text.WriteString(x.Text)
			want, last = append(want, x), x
		}
		text.WriteString(drawnGap(from, false))
		if from.Intn(2) == 0 {
			text.WriteString("% the end")
		}
		holds(t, text.String())
		var got []Token
		for x, err := range All(text.String()) {
			if err != nil {
				t.Fatal(text.String(), x, err)
			}
			got = append(got, x)
		}
		if !slices.Equal(got, want) {
			t.Fatal(text.String(), got, want)
		}
		joinedHold(t, got)
	}
}

// joinedHold tells where joined tokens aren't read as the same ones, at offsets that single blanks between them give.
func joinedHold(t *testing.T, list []Token) {
	t.Helper()
	joined := Join(list...)
	var again []Token
	at := 0
	for x, err := range All(joined) {
		if err != nil || x.At != at || !strings.HasPrefix(joined[at:], x.Text) {
			t.Fatal(joined, x, err, at)
		}
		again = append(again, x)
		at += len(x.Text) + 1
	}
	if !slices.Equal(withoutPlaces(again), withoutPlaces(list)) || Join(again...) != joined {
		t.Fatal(joined, again, list)
	}
	if len(list) > 0 && at != len(joined)+1 {
		t.Fatal(joined, at)
	}
}

// TestPlaces holds that each token's text is where the text has it, and nothing but blanks and comments lies between.
func TestPlaces(t *testing.T) {
	s := "rel e(int). % edges\np(X, Y1) :- e(X), not q(2),\r\n\tX <= Y1+-3, Z != ab.%"
	end := 0
	list, _, err := List(s)
	if err != nil || len(list) != 35 {
		t.Fatal(list, err)
	}
	for _, x := range list {
		if x.At < end || s[x.At:x.At+len(x.Text)] != x.Text || skipForm.FindString(s[end:x.At]) != s[end:x.At] {
			t.Error(x)
		}
		end = x.At + len(x.Text)
	}
	joinedHold(t, list)
}

func TestJoinedKeepKinds(t *testing.T) {
	// Signs that would be one if they touched stay two.
	for _, s := range []string{"< =", "> =", "- 1", ": -", "! =", "a b", "a 1", "1 2", "rel e", ":- -", "not not"} {
		if list, _, err := List(s); err == nil {
			if Join(list...) != s {
				t.Errorf("Join of %q's tokens = %q", s, Join(list...))
			}
			joinedHold(t, list)
		} else if s != ": -" && s != "! =" {
			t.Error(s, err)
		}
	}
	// The joined text may be longer than the limit of List, which All doesn't have.
	list, _, err := List(strings.Repeat("(", 4000))
	if err != nil || len(list) != 4000 || len(Join(list...)) != 7999 {
		t.Error(len(list), err)
	}
	joinedHold(t, list)
}

func TestJoin(t *testing.T) {
	for _, c := range []struct {
		list []Token
		want string
	}{
		{nil, ""}, {[]Token{}, ""}, {[]Token{{Name, "a", 0}}, "a"}, {[]Token{{Sign, ":-", 7}}, ":-"},
		{[]Token{{Name, "p", 9}, {Sign, "(", 1}, {Var, "X", 4}, {Sign, ")", 4}}, "p ( X )"},
		// Whatever is handed in, it is the texts and blanks alone that count.
		{[]Token{{}}, ""}, {[]Token{{}, {}}, " "}, {[]Token{{}, {}, {}}, "  "}, {[]Token{{Kind: 77, Text: "a b\n", At: -1}, {Kind: -3, Text: "\xff%", At: 1 << 40}}, "a b\n \xff%"},
		{[]Token{{Text: "a"}, {Kind: Sign}, {Text: " "}}, "a   "},
	} {
		if got := Join(c.list...); got != c.want {
			t.Errorf("Join(%v) = %q", c.list, got)
		}
	}
	if Join() != "" {
		t.Errorf("Join() = %q", Join())
	}
}

func TestNothingIsShared(t *testing.T) {
	whole := []Token{{Name, "a", 0}, {Name, "b", 2}, {Name, "c", 4}, {Name, "d", 6}}
	before := slices.Clone(whole)
	if Join(whole[:2]...) != "a b" || !slices.Equal(whole, before) {
		t.Error(whole)
	}
	first, _, err := List("a b c d")
	second, _, err1 := List("a b c d")
	if err != nil || err1 != nil || !slices.Equal(first, before) {
		t.Fatal(first, err, err1)
	}
	first = first[:cap(first)]
	for i := range first {
		first[i] = Token{Sign, "*", 99}
	}
	third, _, err := List("a b c d")
	if err != nil || !slices.Equal(second, before) || !slices.Equal(third, before) {
		t.Error(second, third, err)
	}
}

// TestKeysAreNames holds that layer 1 calls the keys names, and that all its other names are read as such.
func TestKeysAreNames(t *testing.T) {
	from := rand.New(rand.NewSource(9))
	for range 3000 {
		x := drawnToken(from)
		if value.Name(x.Text) != (x.Kind == Key || x.Kind == Name) {
			t.Error(x)
		}
		one(t, x.Text, x.Kind)
	}
}

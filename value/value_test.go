package value

import (
	"bytes"
	"hash/fnv"
	"math"
	"math/big"
	"regexp"
	"slices"
	"strconv"
	"strings"
	"testing"

	"corollary/api"
)

// The chapter's definitions in other words than the package's own, to hold it against.
var (
	nameForm   = regexp.MustCompile(`\A[a-z][a-z0-9_]{0,31}\z`)
	numberForm = regexp.MustCompile(`\A(0|-?[1-9][0-9]*)\z`)
)

const (
	greatest = 2147483647
	least    = -2147483647
)

func num(n int) api.Value { return api.Value{Kind: api.Int, N: n} }

func sym(s string) api.Value { return api.Value{Kind: api.Sym, S: s} }

func formedName(s string) bool { return nameForm.MatchString(s) }

func formedNumber(s string) (int, bool) {
	if !numberForm.MatchString(s) {
		return 0, false
	}
	n, ok := new(big.Int).SetString(s, 10)
	if !ok || n.CmpAbs(big.NewInt(greatest)) > 0 {
		return 0, false
	}
	return int(n.Int64()), true
}

// words is all texts of at most so many of the alphabet's bytes.
func words(alphabet string, most int) []string {
	list := []string{""}
	for from := 0; most > 0; most-- {
		to := len(list)
		for _, s := range list[from:to] {
			for i := range len(alphabet) {
				list = append(list, s+alphabet[i:i+1])
			}
		}
		from = to
	}
	return list
}

// texts is ordinary ones, the edges of names and numbers, and wrong ones.
func texts() []string {
	list := words("-+019azAZ_ .", 4)
	for c := range 256 {
		one := string([]byte{byte(c)})
		list = append(list, one, "a"+one, one+"a", "1"+one, one+"1", "-1"+one, strings.Repeat("a", 31)+one)
	}
	for _, n := range []int{31, 32, 33, 64, 5000} {
		list = append(list, strings.Repeat("z", n), strings.Repeat("9", n), "-"+strings.Repeat("9", n), strings.Repeat("0", n), strings.Repeat("\xff", n))
	}
	return append(list,
		"2147483646", "2147483647", "2147483648", "-2147483646", "-2147483647", "-2147483648", "4294967296", "4294967297",
		"9223372036854775807", "9223372036854775808", "-9223372036854775808", "-9223372036854775809", "18446744073709551617",
		"1_000", "0x10", "1e3", "1.0", "--1", "-+1", "+0", "-00", "1\x00", "é", "aé", "٣", "a\n", "\xc3")
}

func numbers() []int {
	list := []int{least - 1, least, least + 1, greatest - 1, greatest, greatest + 1, math.MinInt, math.MinInt + 1, math.MaxInt, math.MaxInt - 1, 1 << 32, 1<<32 + 1, -1 << 32}
	for n := -1100; n <= 1100; n++ {
		list = append(list, n)
	}
	for n := least; n <= greatest; n += 104729 * 17 {
		list = append(list, n)
	}
	return list
}

func names() []string {
	list := []string{strings.Repeat("a", 31), strings.Repeat("z", 32), "a" + strings.Repeat("_", 31), "a" + strings.Repeat("9", 31)}
	for _, s := range words("abz059_", 3) {
		list = append(list, "a"+s, "z"+s)
	}
	return list
}

// valid is many valid values; arbitrary is every mixture of fields, few of them valid.
func valid() []api.Value {
	var list []api.Value
	for _, n := range numbers() {
		if least <= n && n <= greatest {
			list = append(list, num(n))
		}
	}
	for _, s := range names() {
		list = append(list, sym(s))
	}
	return list
}

func arbitrary() []api.Value {
	var list []api.Value
	for _, k := range []api.Kind{math.MinInt, -1, 0, api.Int, api.Sym, 3, math.MaxInt} {
		for _, n := range []int{math.MinInt, least - 1, least, -1, 0, 1, greatest, greatest + 1, math.MaxInt} {
			for _, s := range []string{"", "A", "a", "aa", "b", "1", "\xff", strings.Repeat("a", 32), strings.Repeat("a", 33)} {
				list = append(list, api.Value{Kind: k, N: n, S: s})
			}
		}
	}
	return list
}

func TestName(t *testing.T) {
	for s, want := range map[string]bool{
		"": false, "a": true, "z": true, "a0_": true, "z9": true, "_": false, "_a": false, "0": false, "0a": false,
		"A": false, "aA": false, "a-b": false, "a b": false, " a": false, "a\n": false, "é": false, "aé": false,
		strings.Repeat("a", 32): true, strings.Repeat("a", 33): false,
	} {
		if Name(s) != want {
			t.Errorf("Name(%q) = %v", s, !want)
		}
	}
	for _, s := range texts() {
		if Name(s) != formedName(s) {
			t.Errorf("Name(%q) = %v", s, Name(s))
		}
	}
}

func TestRight(t *testing.T) {
	for _, v := range []api.Value{num(0), num(-1), num(least), num(greatest), sym("a"), sym("rel"), sym(strings.Repeat("a", 32))} {
		if !Right(v) {
			t.Errorf("Right(%v) = false", v)
		}
	}
	for _, v := range []api.Value{
		{}, num(least - 1), num(greatest + 1), num(math.MinInt), num(math.MaxInt), sym(""), sym("X"), sym("1"), sym(strings.Repeat("a", 33)),
		{Kind: api.Int, N: 1, S: "a"}, {Kind: api.Int, S: "1"}, {Kind: api.Sym, N: 1, S: "a"}, {Kind: api.Sym, N: -1, S: "a"},
		{N: 1}, {S: "a"}, {Kind: -1, N: 1}, {Kind: 3, N: 1}, {Kind: 3, S: "a"},
	} {
		if Right(v) {
			t.Errorf("Right(%v) = true", v)
		}
	}
	for _, v := range arbitrary() {
		number := v.Kind == api.Int && v.S == "" && least <= v.N && v.N <= greatest
		symbol := v.Kind == api.Sym && v.N == 0 && formedName(v.S)
		if Right(v) != (number || symbol) {
			t.Errorf("Right(%v) = %v", v, Right(v))
		}
	}
}

func TestOf(t *testing.T) {
	for _, n := range numbers() {
		v, err := Of(n)
		if least <= n && n <= greatest {
			if err != nil || v != num(n) {
				t.Errorf("Of(%d) = %v, %v", n, v, err)
			}
		} else if err != api.ErrOver || v != (api.Value{}) {
			t.Errorf("Of(%d) = %v, %v", n, v, err)
		}
	}
}

func TestSymbol(t *testing.T) {
	for _, s := range append(texts(), names()...) {
		v, err := Symbol(s)
		if formedName(s) {
			if err != nil || v != sym(s) {
				t.Errorf("Symbol(%q) = %v, %v", s, v, err)
			}
		} else if err != api.ErrName || v != (api.Value{}) {
			t.Errorf("Symbol(%q) = %v, %v", s, v, err)
		}
	}
}

func TestCompareSorts(t *testing.T) {
	list := []api.Value{
		num(least), num(-10), num(-5), num(-1), num(0), num(3), num(9), num(10), num(greatest),
		sym("a"), sym("a0"), sym("a9"), sym("a_"), sym("aa"), sym("ab"), sym("b"), sym("b0"), sym(strings.Repeat("z", 31)), sym(strings.Repeat("z", 32)),
	}
	for i, a := range list {
		for k, b := range list {
			want := 0
			if i < k {
				want = -1
			} else if i > k {
				want = 1
			}
			if got := Compare(a, b); got != want {
				t.Errorf("Compare(%v, %v) = %d", a, b, got)
			}
		}
	}
}

func TestCompareArbitrary(t *testing.T) {
	for _, p := range [][2]api.Value{
		{{Kind: -1, N: 9, S: "b"}, {Kind: 0, N: 1, S: "a"}},
		{{Kind: api.Int, N: 9, S: "b"}, {Kind: api.Sym, N: 1, S: "a"}},
		{{Kind: api.Sym, N: 9, S: "b"}, {Kind: 3, N: 1, S: "a"}},
		{{Kind: api.Sym, N: 1, S: "b"}, {Kind: api.Sym, N: 2, S: "a"}},
		{{Kind: api.Int, N: 1, S: "a"}, {Kind: api.Int, N: 1, S: "b"}},
		{{Kind: math.MinInt}, {Kind: math.MaxInt}},
		{{N: math.MinInt}, {N: math.MaxInt}},
		{{S: "A"}, {S: "a"}},
		{{S: "z"}, {S: "\xff"}},
		{{S: "a"}, {S: "a\x00"}},
	} {
		if Compare(p[0], p[1]) != -1 || Compare(p[1], p[0]) != 1 || Compare(p[0], p[0]) != 0 || Compare(p[1], p[1]) != 0 {
			t.Errorf("Compare(%v, %v) = %d", p[0], p[1], Compare(p[0], p[1]))
		}
	}
}

// TestOrder holds P1.2: one of three answers, 0 for equal ones alone, turned round by turning, and transitive.
func TestOrder(t *testing.T) {
	list := arbitrary()
	slices.SortFunc(list, Compare)
	for i, a := range list {
		for k, b := range list {
			c := Compare(a, b)
			if c < -1 || c > 1 || c != -Compare(b, a) || (c == 0) != (a == b) {
				t.Fatalf("Compare(%v, %v) = %d", a, b, c)
			}
			// All that stands ahead in a sorted list of unlike values comes before: this is transitivity.
			if (c < 0) != (i < k) {
				t.Fatalf("%v, %v: not transitive", a, b)
			}
		}
	}
}

func TestText(t *testing.T) {
	for s, v := range map[string]api.Value{
		"0": num(0), "7": num(7), "-7": num(-7), "10": num(10), "2147483647": num(greatest), "-2147483647": num(least),
		"a": sym("a"), "z_9": sym("z_9"), "count": sym("count"), strings.Repeat("a", 32): sym(strings.Repeat("a", 32)),
	} {
		if Text(v) != s {
			t.Errorf("Text(%v) = %q", v, Text(v))
		}
	}
	for _, v := range arbitrary() {
		want := ""
		if Right(v) && v.Kind == api.Int {
			want = strconv.Itoa(v.N)
		} else if Right(v) {
			want = v.S
		}
		if Text(v) != want {
			t.Errorf("Text(%v) = %q", v, Text(v))
		}
	}
}

func TestParse(t *testing.T) {
	for s, want := range map[string]api.Value{
		"0": num(0), "-1": num(-1), "2147483647": num(greatest), "-2147483647": num(least),
		"a": sym("a"), "x_1": sym("x_1"), "min": sym("min"), strings.Repeat("a", 32): sym(strings.Repeat("a", 32)),
	} {
		if v, err := Parse(s); err != nil || v != want {
			t.Errorf("Parse(%q) = %v, %v", s, v, err)
		}
	}
	for _, s := range []string{
		"", "-", "+", "-0", "+0", "00", "01", "-01", "+1", "--1", "1 ", " 1", "1a", "1_0", "0x1", "1.0", "1e1",
		"2147483648", "-2147483648", "99999999999999999999", "_", "_a", "A", "aB", "a-b", "a ", " a", "é", strings.Repeat("a", 33),
	} {
		if v, err := Parse(s); err != api.ErrForm || v != (api.Value{}) {
			t.Errorf("Parse(%q) = %v, %v", s, v, err)
		}
	}
	for _, s := range texts() {
		want, wantErr := api.Value{}, error(api.ErrForm)
		if n, ok := formedNumber(s); ok {
			want, wantErr = num(n), nil
		} else if formedName(s) {
			want, wantErr = sym(s), nil
		}
		if v, err := Parse(s); err != wantErr || v != want {
			t.Errorf("Parse(%q) = %v, %v", s, v, err)
		}
	}
}

// TestParseText holds P1.2: the text of a valid value is read as that value, and any text that is read is its value's.
func TestParseText(t *testing.T) {
	for _, v := range valid() {
		if !Right(v) || Text(v) == "" {
			t.Fatalf("%v isn't valid", v)
		}
		if got, err := Parse(Text(v)); err != nil || got != v {
			t.Errorf("Parse(%q) = %v, %v", Text(v), got, err)
		}
	}
	for _, s := range texts() {
		if v, err := Parse(s); err == nil && (!Right(v) || Text(v) != s) {
			t.Errorf("Parse(%q) = %v, whose text is %q", s, v, Text(v))
		}
	}
}

func TestHash(t *testing.T) {
	for _, c := range []struct {
		v    api.Value
		want uint32
	}{
		{api.Value{}, 0x811c9dc5}, {num(greatest + 1), 0x811c9dc5}, {sym("X"), 0x811c9dc5},
		{sym("a"), 0xe40c292c}, {sym("b"), 0xe70c2de5}, {sym("foobar"), 0xbf9cf968},
	} {
		if Hash(c.v) != c.want {
			t.Errorf("Hash(%v) = %#x", c.v, Hash(c.v))
		}
	}
	for _, v := range append(valid(), arbitrary()...) {
		f := fnv.New32a()
		f.Write([]byte(Text(v)))
		if Hash(v) != f.Sum32() {
			t.Errorf("Hash(%v) = %#x", v, Hash(v))
		}
	}
}

func TestMix(t *testing.T) {
	for _, h := range []uint32{0, 1, 5, 2166136261, math.MaxUint32} {
		if Mix(h, nil) != h || Mix(h, []byte{}) != h {
			t.Errorf("Mix(%d, nil) = %d", h, Mix(h, nil))
		}
		for c := range 256 {
			want := uint32((uint64(h) ^ uint64(c)) * 16777619 % (1 << 32))
			if got := Mix(h, []byte{byte(c)}); got != want {
				t.Errorf("Mix(%d, %d) = %d", h, c, got)
			}
		}
		for _, s := range []string{"ab", "\x00\x00", "\xff\x80a", strings.Repeat("xyz", 500)} {
			for i := range s {
				if Mix(Mix(h, []byte(s[:i])), []byte(s[i:])) != Mix(h, []byte(s)) {
					t.Fatalf("Mix(%d, %q) isn't what its parts make", h, s)
				}
			}
		}
	}
}

func TestMixLeavesItsArgument(t *testing.T) {
	whole := []byte("abcdef")
	Mix(7, whole[1:3])
	if !bytes.Equal(whole, []byte("abcdef")) {
		t.Errorf("%q", whole)
	}
}

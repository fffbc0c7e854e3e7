package tuple

import (
	"bytes"
	"hash/fnv"
	"math"
	"reflect"
	"slices"
	"strings"
	"testing"

	"corollary/api"
	"corollary/value"
)

func num(n int) api.Value { return api.Value{Kind: api.Int, N: n} }

func sym(s string) api.Value { return api.Value{Kind: api.Sym, S: s} }

// wrongValues is values that layer 1 calls invalid.
func wrongValues() []api.Value {
	return []api.Value{
		{}, {Kind: 3}, {Kind: -1, N: 5, S: "a"}, num(2147483648), num(-2147483648), num(math.MinInt), num(math.MaxInt),
		{Kind: api.Int, N: 1, S: "a"}, {Kind: api.Int, S: "1"}, {Kind: api.Sym, N: 1, S: "a"},
		sym(""), sym("A"), sym("1a"), sym("a b"), sym("é"), sym(strings.Repeat("a", 33)), sym("a\x00"),
	}
}

func rightValues() []api.Value {
	return []api.Value{
		num(0), num(1), num(-1), num(9), num(10), num(2147483647), num(-2147483647),
		sym("a"), sym("ab"), sym("b"), sym("a_1"), sym("z"), sym(strings.Repeat("z", 32)),
	}
}

func someValues() []api.Value { return append(rightValues(), wrongValues()...) }

func repeated(v api.Value, n int) api.Tuple { return slices.Repeat(api.Tuple{v}, n) }

// allOf is all tuples of at most so many of the values.
func allOf(values []api.Value, most int) []api.Tuple {
	list := []api.Tuple{nil}
	for from := 0; most > 0; most-- {
		to := len(list)
		for _, t := range list[from:to] {
			for _, v := range values {
				list = append(list, slices.Concat(t, api.Tuple{v}))
			}
		}
		from = to
	}
	return list
}

// tuples is ordinary ones, the edges in length, and such as hold wrong values in each place.
func tuples() []api.Tuple {
	list := allOf(someValues(), 2)
	list = append(list, allOf([]api.Value{num(-1), num(2), sym("a"), sym("b")}, 4)...)
	for n := range 10 {
		list = append(list, repeated(num(-7), n), repeated(sym("b"), n), repeated(api.Value{}, n))
		for at := range n {
			for _, v := range wrongValues() {
				t := repeated(sym("x"), n)
				t[at] = v
				list = append(list, t)
			}
		}
	}
	return append(list, api.Tuple{}, repeated(num(3), 1000), repeated(sym("A"), 1000), api.Tuple{num(1), sym("a"), num(-2)})
}

// columnLists is no columns, some, 6 and 7 and many, in order and out of it, the last and one beyond, and negative ones.
func columnLists(n int) [][]int {
	list := [][]int{nil, {}, {math.MinInt}, {math.MaxInt}, {-1}, {0, -1}, {n - 1}, {n}, {n + 1}, {0, n - 1}, {n - 1, 0}, {0, n}, {n, 0}, {n - 1, n - 1, 0}, {1 << 32}}
	for _, k := range []int{2, 5, 6, 7, 8, 100} {
		list = append(list, make([]int, k), append(make([]int, k-1), n-1), append(make([]int, k-1), n), append(make([]int, k-1), -1), append([]int{-1}, make([]int, k-1)...))
		up := make([]int, k)
		for i := range up {
			up[i] = i
		}
		down := slices.Clone(up)
		slices.Reverse(down)
		list = append(list, up, down)
	}
	return list
}

// The chapter's definitions in other words than the package's own, to hold it against.

func oracleRight(t api.Tuple) bool {
	good := 0
	for _, v := range t {
		if value.Right(v) {
			good++
		}
	}
	return good == len(t) && good <= 6
}

// oracleCompare goes by the first place in which the tuples differ.
func oracleCompare(a, b api.Tuple) int {
	at := 0
	for at < len(a) && at < len(b) && a[at] == b[at] {
		at++
	}
	switch {
	case at == len(a) && at == len(b):
		return 0
	case at == len(a):
		return -1
	case at == len(b):
		return 1
	}
	return value.Compare(a[at], b[at])
}

func oracleText(t api.Tuple) string {
	if !oracleRight(t) {
		return ""
	}
	text := "("
	for i, v := range t {
		if i > 0 {
			text += ", "
		}
		text += value.Text(v)
	}
	return text + ")"
}

func oraclePick(t api.Tuple, columns []int) (api.Tuple, error) {
	var picked api.Tuple
	for _, c := range columns {
		if c < 0 || c > len(t)-1 {
			return nil, api.ErrRange
		}
		picked = append(picked, t[c])
	}
	if len(columns) >= 7 {
		return nil, api.ErrArity
	}
	return picked, nil
}

// oracleHash is FNV-1a of the texts, each ended by a byte 0.
func oracleHash(t api.Tuple) uint32 {
	var all bytes.Buffer
	for _, v := range t {
		all.WriteString(value.Text(v))
		all.WriteByte(0)
	}
	h := fnv.New32a()
	h.Write(all.Bytes())
	return h.Sum32()
}

func oracleShard(t api.Tuple, workers int, columns []int) (int, error) {
	if !slices.Contains([]int{1, 2, 3, 4, 5, 6, 7, 8, 9, 10, 11, 12, 13, 14, 15, 16}, workers) {
		return 0, api.ErrRange
	}
	picked, err := oraclePick(t, columns)
	if err != nil {
		return 0, err
	}
	return int(uint64(oracleHash(picked)) % uint64(workers)), nil
}

func same(a, b api.Tuple) bool { return slices.Equal(a, b) }

// P2.1

func TestRight(t *testing.T) {
	for _, x := range tuples() {
		if got := Right(x); got != oracleRight(x) {
			t.Errorf("Right(%v) = %v", x, got)
		}
	}
	if !Right(nil) || !Right(repeated(num(0), 6)) || Right(repeated(num(0), 7)) {
		t.Error("no values and 6 are right, 7 are not")
	}
}

func TestCompare(t *testing.T) {
	list := tuples()
	for i := 0; i < len(list); i += 3 {
		for k := 0; k < len(list); k += 7 {
			if got, want := Compare(list[i], list[k]), oracleCompare(list[i], list[k]); got != want {
				t.Fatalf("Compare(%v, %v) = %d, not %d", list[i], list[k], got, want)
			}
		}
	}
}

func TestCompareRows(t *testing.T) {
	up := []api.Tuple{
		{}, {{Kind: -1}}, {{}}, {num(-2147483648)}, {num(-2)}, {num(-1), sym("z")}, {num(1)}, {num(1), num(5)}, {num(1), sym("a")}, {num(1), sym("a"), num(2)},
		{num(1), sym("ab")}, {num(1), sym("b")}, {num(2)}, {num(10)}, {sym("a")}, {sym("a"), num(0)}, {sym("a_1")}, {sym("aa")}, {sym("b")}, {{Kind: api.Sym, N: 1, S: "a"}}, {{Kind: 3}},
		repeated(api.Value{Kind: 4}, 6), repeated(api.Value{Kind: 4}, 7), repeated(api.Value{Kind: 4}, 1000),
	}
	for i, a := range up {
		for k, b := range up {
			want := 0
			if i < k {
				want = -1
			} else if i > k {
				want = 1
			}
			if got := Compare(a, b); got != want {
				t.Errorf("Compare(%v, %v) = %d, not %d", a, b, got, want)
			}
		}
	}
}

func TestText(t *testing.T) {
	for _, x := range tuples() {
		if got := Text(x); got != oracleText(x) {
			t.Errorf("Text(%v) = %q, not %q", x, got, oracleText(x))
		}
	}
	rows := []struct {
		of   api.Tuple
		text string
	}{
		{nil, "()"}, {api.Tuple{}, "()"}, {api.Tuple{num(-5)}, "(-5)"}, {api.Tuple{num(1), sym("a"), num(-2)}, "(1, a, -2)"},
		{repeated(sym("x"), 6), "(x, x, x, x, x, x)"}, {repeated(sym("x"), 7), ""}, {api.Tuple{{}}, ""}, {api.Tuple{num(1), sym("A")}, ""}, {api.Tuple{num(2147483648), num(1)}, ""},
	}
	for _, r := range rows {
		if got := Text(r.of); got != r.text {
			t.Errorf("Text(%v) = %q, not %q", r.of, got, r.text)
		}
	}
}

func TestPick(t *testing.T) {
	for _, x := range tuples() {
		for _, columns := range columnLists(len(x)) {
			got, err := Pick(x, columns...)
			want, fault := oraclePick(x, columns)
			if err != fault || !same(got, want) || err != nil && got != nil {
				t.Fatalf("Pick(%v, %v) = %v, %v, not %v, %v", x, columns, got, err, want, fault)
			}
		}
	}
}

func TestPickRows(t *testing.T) {
	x := api.Tuple{num(1), sym("a"), num(-2)}
	rows := []struct {
		columns []int
		want    api.Tuple
		err     error
	}{
		{nil, nil, nil}, {[]int{2}, api.Tuple{num(-2)}, nil}, {[]int{2, 0, 0}, api.Tuple{num(-2), num(1), num(1)}, nil}, {[]int{1, 1, 1, 1, 1, 1}, repeated(sym("a"), 6), nil},
		{[]int{3}, nil, api.ErrRange}, {[]int{-1}, nil, api.ErrRange}, {[]int{0, 1, 3}, nil, api.ErrRange},
		{[]int{1, 1, 1, 1, 1, 1, 1}, nil, api.ErrArity}, {[]int{1, 1, 1, 1, 1, 1, 3}, nil, api.ErrRange}, {[]int{1, 1, 1, 1, 1, 1, 1, -1}, nil, api.ErrRange},
	}
	for _, r := range rows {
		if got, err := Pick(x, r.columns...); err != r.err || !same(got, r.want) {
			t.Errorf("Pick(x, %v) = %v, %v, not %v, %v", r.columns, got, err, r.want, r.err)
		}
	}
	if _, err := Pick(nil, 0); err != api.ErrRange {
		t.Error("no values, no columns:", err)
	}
	if got, err := Pick(repeated(api.Value{Kind: 9}, 8), 7); err != nil || !same(got, api.Tuple{{Kind: 9}}) {
		t.Error("an invalid tuple has its columns too:", got, err)
	}
}

func TestHash(t *testing.T) {
	for _, x := range tuples() {
		if got := Hash(x); got != oracleHash(x) {
			t.Errorf("Hash(%v) = %d, not %d", x, got, oracleHash(x))
		}
	}
	if Hash(nil) != 2166136261 {
		t.Error("the hash of no values is the start")
	}
	if one := value.Mix(2166136261, []byte("-5\x00a\x00")); Hash(api.Tuple{num(-5), sym("a")}) != one {
		t.Error("a byte 0 follows each text")
	}
	if Hash(api.Tuple{{Kind: 7, N: 5, S: "a"}}) != value.Mix(2166136261, []byte{0}) {
		t.Error("an invalid value counts with an empty text")
	}
	if Hash(api.Tuple{sym("ab"), sym("c")}) == Hash(api.Tuple{sym("a"), sym("bc")}) {
		t.Error("the texts are held apart")
	}
}

func TestShard(t *testing.T) {
	list := tuples()
	for i := 0; i < len(list); i += 5 {
		for _, columns := range columnLists(len(list[i])) {
			for _, workers := range []int{math.MinInt, -1, 0, 1, 2, 3, 7, 15, 16, 17, 32, math.MaxInt, 1 << 32, 1<<32 + 1} {
				got, err := Shard(list[i], workers, columns...)
				want, fault := oracleShard(list[i], workers, columns)
				if got != want || err != fault {
					t.Fatalf("Shard(%v, %d, %v) = %d, %v, not %d, %v", list[i], workers, columns, got, err, want, fault)
				}
			}
		}
	}
}

func TestShardRows(t *testing.T) {
	x := api.Tuple{num(1), sym("a")}
	rows := []struct {
		workers int
		columns []int
		err     error
	}{
		{0, nil, api.ErrRange}, {17, nil, api.ErrRange}, {-1, nil, api.ErrRange}, {0, make([]int, 7), api.ErrRange}, {17, make([]int, 7), api.ErrRange}, {17, []int{9}, api.ErrRange},
		{1, []int{2}, api.ErrRange}, {16, []int{-1}, api.ErrRange}, {16, make([]int, 7), api.ErrArity}, {1, make([]int, 7), api.ErrArity}, {1, []int{0, 0, 0, 0, 0, 0, 2}, api.ErrRange},
		{1, nil, nil}, {16, []int{1}, nil}, {16, make([]int, 6), nil},
	}
	for _, r := range rows {
		if got, err := Shard(x, r.workers, r.columns...); err != r.err || err != nil && got != 0 {
			t.Errorf("Shard(x, %d, %v) = %d, %v, not %v", r.workers, r.columns, got, err, r.err)
		}
	}
	if got, err := Shard(x, 16); err != nil || got != 2166136261%16 {
		t.Error("no columns, the hash of no values:", got, err)
	}
}

func TestJoin(t *testing.T) {
	list := tuples()
	for i := 0; i < len(list); i += 11 {
		for k := 0; k < len(list); k += 13 {
			a, b := list[i], list[k]
			want, fault := append(append(api.Tuple{}, a...), b...), error(nil)
			if len(want) > 6 {
				want, fault = nil, api.ErrArity
			}
			got, err := Join(a, b)
			if err != fault || !same(got, want) || err != nil && got != nil {
				t.Fatalf("Join(%v, %v) = %v, %v, not %v, %v", a, b, got, err, want, fault)
			}
		}
	}
	for n := range 9 {
		for m := range 9 {
			got, err := Join(repeated(num(1), n), repeated(sym("a"), m))
			if n+m > 6 && (err != api.ErrArity || got != nil) {
				t.Error(n, m, got, err)
			}
			if n+m <= 6 && (err != nil || !same(got, slices.Concat(repeated(num(1), n), repeated(sym("a"), m)))) {
				t.Error(n, m, got, err)
			}
		}
	}
}

func TestCopy(t *testing.T) {
	for _, x := range tuples() {
		if got := Copy(x); !same(got, x) {
			t.Errorf("Copy(%v) = %v", x, got)
		}
	}
}

func TestKinds(t *testing.T) {
	for _, x := range tuples() {
		var want []api.Kind
		for _, v := range x {
			want = append(want, v.Kind)
		}
		if got := Kinds(x); !slices.Equal(got, want) {
			t.Errorf("Kinds(%v) = %v", x, got)
		}
	}
	if got := Kinds(api.Tuple{num(1), sym("a"), {Kind: 9}, {}}); !slices.Equal(got, []api.Kind{api.Int, api.Sym, 9, 0}) {
		t.Error(got)
	}
}

// P2.2

func TestCompareIsAnOrder(t *testing.T) {
	list := append(allOf([]api.Value{num(-1), num(1), sym("a"), {}, {Kind: api.Int, S: "a"}}, 2), repeated(num(1), 6), repeated(num(1), 7), repeated(sym("a"), 7))
	for _, a := range list {
		for _, b := range list {
			ab := Compare(a, b)
			if ab != -Compare(b, a) || (ab == 0) != same(a, b) || ab < -1 || ab > 1 {
				t.Fatalf("Compare(%v, %v) = %d, other way round %d", a, b, ab, Compare(b, a))
			}
			for _, c := range list {
				if ab < 0 && Compare(b, c) < 0 && Compare(a, c) != -1 {
					t.Fatalf("%v, %v, %v aren't in one order", a, b, c)
				}
			}
		}
	}
}

func TestExamples(t *testing.T) {
	a, b, c := api.Tuple{num(1), sym("a")}, api.Tuple{num(1), sym("a"), num(2)}, api.Tuple{num(2)}
	if Compare(a, b) != -1 || Compare(b, c) != -1 || Compare(a, c) != -1 {
		t.Error("(1, a) comes before (1, a, 2), which comes before (2)")
	}
}

func TestSameColumnsSameShard(t *testing.T) {
	all := allOf([]api.Value{num(0), num(-3), sym("a"), {Kind: 5}}, 3)
	for workers := 1; workers <= 16; workers++ {
		used := make(map[int]int)
		for _, x := range all {
			if len(x) != 3 {
				continue
			}
			for _, last := range someValues() {
				y := api.Tuple{x[2], last, x[0], sym("q")}
				here, err := Shard(x, workers, 0, 2)
				there, fault := Shard(y, workers, 2, 0)
				if err != nil || fault != nil || here != there || here < 0 || here >= workers {
					t.Fatal(x, y, workers, here, there, err, fault)
				}
			}
			one, _ := Shard(x, workers, 0, 1, 2)
			used[one]++
		}
		if workers > 1 && len(used) < 2 {
			t.Error("all tuples are one worker's, of", workers)
		}
	}
}

// P2.3

// spare is a tuple with room behind it that holds marks.
func spare(t api.Tuple) (api.Tuple, func() bool) {
	whole := append(slices.Clone(t), repeated(sym("spare"), 8)...)
	before := slices.Clone(whole)
	return whole[:len(t)], func() bool { return slices.Equal(whole, before) }
}

func spareColumns(columns []int) ([]int, func() bool) {
	whole := append(slices.Clone(columns), 77, 78, 79)
	before := slices.Clone(whole)
	return whole[:len(columns)], func() bool { return slices.Equal(whole, before) }
}

// spoil overwrites a tuple, with what room lies behind it.
func spoil(t api.Tuple) {
	t = t[:cap(t)]
	for i := range t {
		t[i] = sym("spoilt")
	}
}

func TestArgumentsStay(t *testing.T) {
	list := tuples()
	for i := 0; i < len(list); i += 9 {
		a, aStays := spare(list[i])
		b, bStays := spare(list[(i*7+3)%len(list)])
		Right(a)
		Compare(a, b)
		Text(a)
		Hash(a)
		for _, columns := range columnLists(len(a)) {
			c, cStays := spareColumns(columns)
			picked, _ := Pick(a, c...)
			spoil(picked)
			Shard(a, 16, c...)
			if !aStays() || !cStays() {
				t.Fatal("Pick or Shard changed its arguments", list[i], columns)
			}
		}
		joined, _ := Join(a, b)
		spoil(joined)
		spoil(Copy(a))
		kinds := Kinds(a)
		for i := range kinds {
			kinds[i] = 99
		}
		if !aStays() || !bStays() {
			t.Fatal("arguments changed", list[i])
		}
	}
}

func TestArgumentsAreNotKept(t *testing.T) {
	for n := range 7 {
		a, b := repeated(num(1), n), repeated(sym("a"), 6-n)
		columns := make([]int, n)
		copied, kinds := Copy(a), Kinds(a)
		joined, _ := Join(a, b)
		picked, _ := Pick(a, columns...)
		spoil(a)
		spoil(b)
		for i := range columns {
			columns[i] = 5
		}
		if !same(copied, repeated(num(1), n)) || !same(picked, copied) || !same(joined, slices.Concat(copied, repeated(sym("a"), 6-n))) || slices.Contains(kinds, api.Sym) {
			t.Error(n, copied, picked, joined, kinds)
		}
	}
}

// TestAnswersAreNew asks the same twice: what the first answer is overwritten with doesn't show in the second.
func TestAnswersAreNew(t *testing.T) {
	x, y := api.Tuple{num(1), sym("a")}, api.Tuple{num(2)}
	asks := []func() any{
		func() any { p, _ := Pick(x, 1, 0); return p },
		func() any { j, _ := Join(x, y); return j },
		func() any { j, _ := Join(x, nil); return j },
		func() any { j, _ := Join(nil, x); return j },
		func() any { return Copy(x) },
		func() any { return Kinds(x) },
	}
	for i, ask := range asks {
		first, second := ask(), ask()
		want := ask()
		v := reflect.ValueOf(first)
		for k := range v.Len() {
			v.Index(k).SetZero()
		}
		if !reflect.DeepEqual(second, want) || !same(x, api.Tuple{num(1), sym("a")}) || !same(y, api.Tuple{num(2)}) {
			t.Error(i, first, second, x, y)
		}
	}
}

package rel

import (
	"fmt"
	"math"
	"math/rand"
	"reflect"
	"slices"
	"strings"
	"testing"

	"corollary/api"
	"corollary/tuple"
)

func num(n int) api.Value { return api.Value{Kind: api.Int, N: n} }

func sym(s string) api.Value { return api.Value{Kind: api.Sym, S: s} }

func ints(list ...int) api.Tuple {
	t := api.Tuple{}
	for _, n := range list {
		t = append(t, num(n))
	}
	return t
}

// wrongValues is values that layer 1 calls invalid.
func wrongValues() []api.Value {
	return []api.Value{
		{}, {Kind: 3}, {Kind: -1, N: 5, S: "a"}, num(2147483648), num(-2147483648), num(math.MinInt), num(math.MaxInt),
		{Kind: api.Int, N: 1, S: "a"}, {Kind: api.Int, S: "1"}, {Kind: api.Sym, N: 1, S: "a"},
		sym(""), sym("A"), sym("1a"), sym("a b"), sym("é"), sym(strings.Repeat("a", 33)), sym("a\x00"),
	}
}

// wrongTuples is tuples of so many columns with a wrong value in each place.
func wrongTuples(arity int) []api.Tuple {
	var list []api.Tuple
	for at := range arity {
		for _, v := range wrongValues() {
			t := slices.Repeat(api.Tuple{num(1)}, arity)
			t[at] = v
			list = append(list, t)
		}
	}
	return list
}

// all is what a relation lists.
func all(r *Rel) []api.Tuple { return slices.Collect(r.All()) }

func text(r *Rel) string { return texts(all(r)) }

func texts(list []api.Tuple) string {
	var b strings.Builder
	for _, t := range list {
		b.WriteString(key(t) + ";")
	}
	return b.String()
}

func of(t *testing.T, arity int, list ...api.Tuple) *Rel {
	t.Helper()
	r, err := Of(arity, list...)
	if err != nil || r == nil {
		t.Fatal(arity, list, err)
	}
	return r
}

// numbers is a relation of one column with the numbers from one to below another.
func numbers(t *testing.T, from, to int) *Rel {
	t.Helper()
	r := of(t, 1)
	for n := from; n < to; n++ {
		if ok, err := r.Add(ints(n)); !ok || err != nil {
			t.Fatal(n, ok, err)
		}
	}
	return r
}

// bag is a relation in other words than the package's own: tuples in no order, in a map by what they look like.
type bag map[string]api.Tuple

// key is the same for a nil tuple and an empty one.
func key(t api.Tuple) string { return fmt.Sprintf("%#v", []api.Value(append(api.Tuple{}, t...))) }

func (b bag) list() []api.Tuple {
	var list []api.Tuple
	for _, t := range b {
		list = append(list, t)
	}
	slices.SortFunc(list, tuple.Compare)
	return list
}

func bagOf(list []api.Tuple) bag {
	b := bag{}
	for _, t := range list {
		b[key(t)] = t
	}
	return b
}

// holds tells where a relation isn't what the chapter says of these tuples.
func (b bag) holds(t *testing.T, r *Rel, arity int) {
	t.Helper()
	if r == nil {
		t.Fatal("no relation")
	}
	if r.Arity() != arity || r.Len() != len(b) || text(r) != texts(b.list()) {
		t.Fatal("arity", r.Arity(), "not", arity, "; tuples", text(r), "not", texts(b.list()))
	}
	for _, x := range b {
		if !r.Has(x) {
			t.Fatal(x, "is not there")
		}
	}
}

func TestNew(t *testing.T) {
	for arity := range 7 {
		r, err := New(arity)
		if err != nil || r == nil || r.Arity() != arity || r.Len() != 0 || text(r) != "" {
			t.Error(arity, r, err)
		}
		s, err := Of(arity)
		if err != nil || !Same(r, s) {
			t.Error(arity, s, err)
		}
	}
	for _, arity := range []int{-1, 7, 8, -6, 1 << 32, math.MinInt, math.MaxInt} {
		if r, err := New(arity); r != nil || err != api.ErrArity {
			t.Error(arity, r, err)
		}
		if r, err := Of(arity); r != nil || err != api.ErrArity {
			t.Error(arity, r, err)
		}
		if r, err := Of(arity, api.Tuple{{}}); r != nil || err != api.ErrArity {
			t.Error(arity, r, err)
		}
	}
}

func TestOf(t *testing.T) {
	if r := of(t, 1, ints(2), ints(1), ints(2)); text(r) != texts([]api.Tuple{ints(1), ints(2)}) {
		t.Error(text(r))
	}
	in := []api.Tuple{{sym("a")}, ints(10), ints(9), ints(-1), {sym("ab")}, {sym("a_")}, ints(2147483647), ints(-2147483647)}
	bagOf(in).holds(t, of(t, 1, in...), 1)
	if got := all(of(t, 1, in...)); !reflect.DeepEqual(got, []api.Tuple{ints(-2147483647), ints(-1), ints(9), ints(10), ints(2147483647), {sym("a")}, {sym("a_")}, {sym("ab")}}) {
		t.Error(got)
	}
	if r := of(t, 0, nil, api.Tuple{}); r.Len() != 1 || !r.Has(nil) || !r.Has(api.Tuple{}) {
		t.Error(text(r))
	}
	wrong := api.Tuple{num(1), {}}
	for _, c := range []struct {
		list []api.Tuple
		err  error
	}{
		{[]api.Tuple{ints(1, 2), ints(1)}, api.ErrArity},
		{[]api.Tuple{ints(1, 2), wrong}, api.ErrForm},
		{[]api.Tuple{ints(1), wrong}, api.ErrArity},
		{[]api.Tuple{wrong, ints(1)}, api.ErrForm},
		{[]api.Tuple{nil}, api.ErrArity},
		{[]api.Tuple{{{}}}, api.ErrArity},
	} {
		if r, err := Of(2, c.list...); r != nil || err != c.err {
			t.Error(c.list, r, err)
		}
	}
}

func TestOfFull(t *testing.T) {
	var list []api.Tuple
	for n := range 2001 {
		list = append(list, ints((n*7)%2001))
	}
	for _, n := range []int{1999, 2000} {
		bagOf(list[:n]).holds(t, of(t, 1, list[:n]...), 1)
		bagOf(list[:n]).holds(t, of(t, 1, append(slices.Clone(list[:n]), list[:n]...)...), 1)
	}
	if r, err := Of(1, list...); r != nil || err != api.ErrFull {
		t.Error(r, err)
	}
	if r, err := Of(1, append(slices.Clone(list), nil)...); r != nil || err != api.ErrFull {
		t.Error(r, err)
	}
	if r, err := Of(1, append(slices.Clone(list[:2000]), nil)...); r != nil || err != api.ErrArity {
		t.Error(r, err)
	}
}

func TestAddRefused(t *testing.T) {
	for arity := range 7 {
		full := api.Tuple(slices.Repeat(ints(1), arity))
		r := of(t, arity, full)
		before := text(r)
		for n := range 9 {
			if n == arity {
				continue
			}
			// Another arity is told ahead of a value that isn't valid.
			for _, v := range []api.Value{num(1), sym("a"), {}} {
				x := api.Tuple(slices.Repeat(api.Tuple{v}, n))
				if ok, err := r.Add(x); ok || err != api.ErrArity || r.Has(x) || r.Drop(x) {
					t.Error(arity, x, ok, err)
				}
			}
		}
		for _, x := range wrongTuples(arity) {
			if ok, err := r.Add(x); ok || err != api.ErrForm || r.Has(x) || r.Drop(x) {
				t.Error(arity, x, ok, err)
			}
		}
		if text(r) != before {
			t.Error(arity, text(r))
		}
	}
}

func TestAddFull(t *testing.T) {
	for _, n := range []int{1999, 2000} {
		r := numbers(t, 0, n)
		if ok, err := r.Add(ints(n / 2)); ok || err != nil || r.Len() != n {
			t.Error(n, ok, err)
		}
		if ok, err := r.Add(ints(-1)); ok != (n < 2000) || (err == nil) != (n < 2000) || r.Has(ints(-1)) != (n < 2000) {
			t.Error(n, ok, err)
		}
	}
	r := numbers(t, 0, 2000)
	before := text(r)
	for _, c := range []struct {
		x   api.Tuple
		err error
	}{
		{ints(2000), api.ErrFull}, {api.Tuple{sym("a")}, api.ErrFull}, {ints(-1), api.ErrFull},
		{ints(1, 1), api.ErrArity}, {nil, api.ErrArity}, {api.Tuple{{}}, api.ErrForm}, {api.Tuple{{}, {}}, api.ErrArity},
		{ints(0), nil}, {ints(1999), nil}, {ints(1000), nil},
	} {
		if ok, err := r.Add(c.x); ok || err != c.err || text(r) != before {
			t.Error(c.x, ok, err)
		}
	}
	if !r.Drop(ints(1000)) || r.Drop(ints(1000)) || r.Len() != 1999 {
		t.Error(r.Len())
	}
	if ok, err := r.Add(ints(5000)); !ok || err != nil || r.Len() != 2000 {
		t.Error(ok, err)
	}
	if ok, err := r.Add(ints(1000)); ok || err != api.ErrFull {
		t.Error(ok, err)
	}
}

// drawn is a tuple of few values, so that two often are the same.
func drawn(from *rand.Rand, arity int) api.Tuple {
	values := []api.Value{num(0), num(1), num(-1), sym("a"), sym("b")}
	t := api.Tuple{}
	for range arity {
		t = append(t, values[from.Intn(len(values))])
	}
	return t
}

// TestOrder makes calls in any order and holds them against a bag.
func TestOrder(t *testing.T) {
	for seed := range 70 {
		from := rand.New(rand.NewSource(int64(seed)))
		arity := seed % 7
		r, b := of(t, arity), bag{}
		for range 120 {
			x := drawn(from, arity)
			_, there := b[key(x)]
			if r.Has(x) != there {
				t.Fatal(x, there)
			}
			switch from.Intn(5) {
			case 0, 1, 2:
				if ok, err := r.Add(x); ok == there || err != nil {
					t.Fatal(x, ok, err)
				}
				b[key(x)] = x
			case 3:
				if ok := r.Drop(x); ok != there {
					t.Fatal(x, ok)
				}
				delete(b, key(x))
			case 4:
				if ok, err := r.Add(append(x, api.Value{})); ok || err != api.ErrArity || r.Drop(append(x, num(1))) {
					t.Fatal(x, ok, err)
				}
			}
			b.holds(t, r, arity)
		}
		whereHolds(t, r, b)
		b.holds(t, r.Copy(), arity)
	}
}

func whereHolds(t *testing.T, r *Rel, b bag) {
	t.Helper()
	for column := -2; column < 9; column++ {
		for _, v := range append(wrongValues(), num(0), num(1), num(-1), num(2), sym("a"), sym("b"), sym("c")) {
			var want []api.Tuple
			for _, x := range b.list() {
				if column >= 0 && column < len(x) && reflect.DeepEqual(x[column], v) {
					want = append(want, x)
				}
			}
			if got := slices.Collect(r.Where(column, v)); texts(got) != texts(want) {
				t.Fatal(column, v, got, want)
			}
		}
	}
}

func TestWhere(t *testing.T) {
	r := of(t, 2, ints(2, 1), ints(1, 9), ints(1, 2), ints(2, 9), api.Tuple{num(1), sym("a")})
	for _, c := range []struct {
		column int
		v      api.Value
		want   []api.Tuple
	}{
		{0, num(1), []api.Tuple{ints(1, 2), ints(1, 9), {num(1), sym("a")}}},
		{1, num(9), []api.Tuple{ints(1, 9), ints(2, 9)}},
		{1, sym("a"), []api.Tuple{{num(1), sym("a")}}},
		{0, num(9), nil}, {2, num(1), nil}, {-1, num(1), nil}, {math.MinInt, num(1), nil}, {math.MaxInt, num(1), nil}, {1 << 32, num(1), nil},
		{0, api.Value{Kind: api.Int, N: 1, S: "a"}, nil}, {1, api.Value{Kind: api.Sym, N: 1, S: "a"}, nil}, {0, api.Value{}, nil},
	} {
		if got := slices.Collect(r.Where(c.column, c.v)); texts(got) != texts(c.want) {
			t.Error(c.column, c.v, got)
		}
	}
	for range of(t, 0, nil).Where(0, api.Value{}) {
		t.Error("a column of none")
	}
}

// loops is each way through a relation in which all its tuples come.
func loops(r *Rel) []func(yield func(api.Tuple) bool) {
	return []func(yield func(api.Tuple) bool){r.All(), r.Where(0, num(1))}
}

func TestLoopsAreLeft(t *testing.T) {
	r := of(t, 2, ints(1, 1), ints(1, 2), ints(1, 3))
	for i, loop := range loops(r) {
		for most := 1; most <= 4; most++ {
			n := 0
			for range loop {
				n++
				if n == most {
					break
				}
			}
			if n != min(most, 3) {
				t.Error(i, most, n)
			}
		}
		// A loop that was left goes through all of them when it begins again.
		if got := slices.Collect(loop); texts(got) != text(r) {
			t.Error(i, got)
		}
	}
}

func TestLoopsGoOn(t *testing.T) {
	for i := range 2 {
		r := of(t, 2, ints(1, 2), ints(1, 4), ints(1, 6))
		before := text(r)
		loop := loops(r)[i]
		var got []api.Tuple
		for x := range loop {
			got = append(got, x)
			for _, n := range []int{0, 1, 3, 5, 7, 9} {
				if _, err := r.Add(ints(1, n)); err != nil {
					t.Error(err)
				}
			}
			r.Drop(ints(1, 2))
			r.Drop(ints(1, 4))
			r.Drop(ints(1, 6))
		}
		if texts(got) != before {
			t.Error(i, got)
		}
		// What counts is when the loop begins, not when it was asked for.
		after := []api.Tuple{ints(1, 0), ints(1, 1), ints(1, 3), ints(1, 5), ints(1, 7), ints(1, 9)}
		if got := slices.Collect(loop); texts(got) != texts(after) || text(r) != texts(after) {
			t.Error(i, got)
		}
	}
}

func TestLoopsDropAndAddAgain(t *testing.T) {
	for i := range 2 {
		r := of(t, 2, ints(1, 1), ints(1, 2), ints(1, 3))
		before, n := text(r), 0
		for x := range loops(r)[i] {
			if !r.Drop(x) || r.Len() != 2 {
				t.Error(i, x)
			}
			if ok, err := r.Add(x); !ok || err != nil {
				t.Error(i, x, ok, err)
			}
			n++
		}
		if n != 3 || text(r) != before {
			t.Error(i, n, text(r))
		}
		for x := range loops(r)[i] {
			for y := range loops(r)[i] {
				r.Drop(y)
			}
			r.Drop(x)
			n++
		}
		if n != 6 || r.Len() != 0 {
			t.Error(i, n, text(r))
		}
	}
}

func TestTogether(t *testing.T) {
	for seed := range 210 {
		from := rand.New(rand.NewSource(int64(seed)))
		arity := seed % 7
		a, b := of(t, arity), of(t, arity)
		in, alone, both := bag{}, bag{}, bag{}
		for range from.Intn(30) {
			x := drawn(from, min(arity, 2))
			x = append(x, slices.Repeat(ints(7), arity-len(x))...)
			to := []*Rel{a, b}[from.Intn(2)]
			if _, err := to.Add(x); err != nil {
				t.Fatal(err)
			}
			in[key(x)] = x
		}
		for k, x := range in {
			if a.Has(x) && b.Has(x) {
				both[k] = x
			} else if a.Has(x) {
				alone[k] = x
			}
		}
		togetherHolds(t, a, b, in, alone, both)
	}
}

func togetherHolds(t *testing.T, a, b *Rel, in, alone, both bag) {
	t.Helper()
	arity, first, second := a.Arity(), text(a), text(b)
	u, err := Union(a, b)
	v, err1 := Union(b, a)
	if err != nil || err1 != nil || !Same(u, v) {
		t.Fatal(err, err1)
	}
	in.holds(t, u, arity)
	in.holds(t, v, arity)
	m, err := Minus(a, b)
	if err != nil {
		t.Fatal(err)
	}
	alone.holds(t, m, arity)
	w, err := Both(a, b)
	w1, err1 := Both(b, a)
	if err != nil || err1 != nil || !Same(w, w1) {
		t.Fatal(err, err1)
	}
	both.holds(t, w, arity)
	// P3.2: what both have and what the first has alone make up the first.
	again, err := Union(w, m)
	if err != nil || !Same(again, a) || w.Len()+m.Len() != a.Len() {
		t.Fatal(text(again), first, err)
	}
	if text(a) != first || text(b) != second {
		t.Fatal("changed")
	}
	if Same(a, b) != (first == second) || Same(b, a) != (first == second) {
		t.Fatal(first, second, Same(a, b))
	}
}

func TestTogetherWithItself(t *testing.T) {
	for arity := range 7 {
		a := of(t, arity, api.Tuple(slices.Repeat(ints(3), arity)))
		u, err := Union(a, a)
		w, err1 := Both(a, a)
		m, err2 := Minus(a, a)
		if err != nil || err1 != nil || err2 != nil || !Same(u, a) || !Same(w, a) || m.Len() != 0 || m.Arity() != arity || u == a || w == a {
			t.Error(arity, text(u), text(w), text(m))
		}
	}
}

func TestUnionFull(t *testing.T) {
	for _, c := range []struct {
		from, to int
		err      error
	}{
		{0, 2000, nil}, {0, 0, nil}, {500, 1500, nil}, {1000, 1999, nil}, {1000, 2000, nil}, {1000, 2001, api.ErrFull}, {-1, 1000, nil}, {3000, 5000, api.ErrFull}, {-1, 0, nil},
	} {
		a, b := numbers(t, 0, 1000), numbers(t, c.from, c.to)
		for _, two := range [][2]*Rel{{a, b}, {b, a}} {
			u, err := Union(two[0], two[1])
			if err != c.err || (u == nil) != (err != nil) {
				t.Error(c, err)
			} else if err == nil {
				bagOf(append(all(a), all(b)...)).holds(t, u, 1)
			}
		}
		if a.Len() != 1000 || b.Len() != c.to-c.from {
			t.Error(c, "changed")
		}
	}
	a, b := numbers(t, 0, 2000), numbers(t, 1999, 3999)
	m, err := Minus(a, b)
	w, err1 := Both(a, b)
	if err != nil || err1 != nil || m.Len() != 1999 || text(w) != texts([]api.Tuple{ints(1999)}) {
		t.Error(err, err1)
	}
	if u, err := Union(a, a); err != nil || !Same(u, a) {
		t.Error(err)
	}
	if u, err := Union(a, of(t, 1, ints(2000))); u != nil || err != api.ErrFull {
		t.Error(err)
	}
}

func TestTogetherRefused(t *testing.T) {
	type two = func(a, b *Rel) (*Rel, error)
	for i, f := range []two{Union, Minus, Both} {
		for arity := range 7 {
			a := of(t, arity)
			for _, c := range [][2]*Rel{{a, nil}, {nil, a}, {nil, nil}} {
				if r, err := f(c[0], c[1]); r != nil || err != api.ErrNone {
					t.Error(i, arity, r, err)
				}
			}
			for other := range 7 {
				if r, err := f(a, of(t, other)); (r == nil) != (arity != other) || (err == api.ErrArity) != (arity != other) {
					t.Error(i, arity, other, r, err)
				}
			}
		}
	}
	// Other arities are told ahead of too many tuples.
	a, b := numbers(t, 0, 2000), of(t, 2)
	for n := range 2000 {
		if _, err := b.Add(ints(n, n)); err != nil {
			t.Fatal(err)
		}
	}
	if r, err := Union(a, b); r != nil || err != api.ErrArity {
		t.Error(r, err)
	}
}

func TestProject(t *testing.T) {
	r := of(t, 3, ints(1, 2, 3), ints(1, 9, 3), ints(4, 2, 6), api.Tuple{num(4), num(2), sym("a")})
	for _, c := range []struct {
		columns []int
		want    []api.Tuple
	}{
		{nil, []api.Tuple{{}}},
		{[]int{}, []api.Tuple{{}}},
		{[]int{0}, []api.Tuple{ints(1), ints(4)}},
		{[]int{2}, []api.Tuple{ints(3), ints(6), {sym("a")}}},
		{[]int{1, 0}, []api.Tuple{ints(2, 1), ints(2, 4), ints(9, 1)}},
		{[]int{2, 2}, []api.Tuple{ints(3, 3), ints(6, 6), {sym("a"), sym("a")}}},
		{[]int{0, 1, 2}, all(r)},
		{[]int{1, 1, 1, 1, 1, 1}, []api.Tuple{ints(2, 2, 2, 2, 2, 2), ints(9, 9, 9, 9, 9, 9)}},
	} {
		p, err := Project(r, c.columns...)
		if err != nil {
			t.Fatal(c.columns, err)
		}
		bagOf(c.want).holds(t, p, len(c.columns))
	}
	if p, err := Project(of(t, 0, nil)); err != nil || p.Arity() != 0 || p.Len() != 1 {
		t.Error(p, err)
	}
	whole := numbers(t, 0, 2000)
	if p, err := Project(whole, 0); err != nil || !Same(p, whole) {
		t.Error(err)
	}
}

func TestProjectColumns(t *testing.T) {
	for arity := range 7 {
		for n := range 2 {
			r := of(t, arity)
			if n == 1 {
				r = of(t, arity, api.Tuple(slices.Repeat(ints(5), arity)))
			}
			for _, wrong := range []int{-1, arity, arity + 1, math.MinInt, math.MaxInt, 1 << 32} {
				for _, k := range []int{1, 2, 6, 7, 100} {
					columns := make([]int, k)
					columns[k-1] = wrong
					if p, err := Project(r, columns...); p != nil || err != api.ErrRange {
						t.Error(arity, columns, p, err)
					}
				}
			}
			if arity == 0 {
				continue
			}
			for k := range 10 {
				p, err := Project(r, slices.Repeat([]int{arity - 1}, k)...)
				if k > 6 && (p != nil || err != api.ErrArity) || k <= 6 && (err != nil || p.Arity() != k || p.Len() != n) {
					t.Error(arity, k, p, err)
				}
			}
			if text(r) != text(r.Copy()) || r.Len() != n {
				t.Error(arity, "changed")
			}
		}
	}
}

func TestSame(t *testing.T) {
	for arity := range 7 {
		for other := range 7 {
			if Same(of(t, arity), of(t, other)) != (arity == other) {
				t.Error(arity, other)
			}
		}
		r := of(t, arity, api.Tuple(slices.Repeat(ints(1), arity)))
		if !Same(r, r) || !Same(r, r.Copy()) || Same(r, of(t, arity)) || Same(of(t, arity), r) || Same(r, nil) || Same(nil, r) {
			t.Error(arity)
		}
	}
	if Same(nil, nil) {
		t.Error("two that aren't there are the same")
	}
	a, b := of(t, 2, ints(1, 2), ints(2, 1)), of(t, 2, ints(2, 1), ints(1, 2))
	if !Same(a, b) {
		t.Error("the order of adding counts")
	}
	if Same(a, of(t, 2, ints(1, 2), ints(2, 2))) || Same(of(t, 1, ints(1)), of(t, 1, ints(2))) {
		t.Error("others are the same")
	}
}

func TestNil(t *testing.T) {
	var none *Rel
	if none.Arity() != 0 || none.Len() != 0 || none.Copy() != nil {
		t.Error(none.Arity(), none.Len(), none.Copy())
	}
	for _, x := range []api.Tuple{nil, {}, ints(1), {{}}, ints(1, 2, 3, 4, 5, 6, 7)} {
		if ok, err := none.Add(x); ok || err != api.ErrNone || none.Has(x) || none.Drop(x) {
			t.Error(x, ok, err)
		}
	}
	if n := len(all(none)); n != 0 {
		t.Error(n)
	}
	for column := -1; column < 8; column++ {
		if n := len(slices.Collect(none.Where(column, num(1)))); n != 0 {
			t.Error(column, n)
		}
	}
	for _, columns := range [][]int{nil, {}, {0}, {-1}, make([]int, 7)} {
		if r, err := Project(nil, columns...); r != nil || err != api.ErrNone {
			t.Error(columns, r, err)
		}
	}
}

func TestCopyGoesOnApart(t *testing.T) {
	a := of(t, 1, ints(1), ints(3))
	b := a.Copy()
	if a == b || !Same(a, b) {
		t.Error("no copy")
	}
	a.Drop(ints(1))
	a.Add(ints(2))
	b.Add(ints(4))
	if text(a) != texts([]api.Tuple{ints(2), ints(3)}) || text(b) != texts([]api.Tuple{ints(1), ints(3), ints(4)}) {
		t.Error(text(a), text(b))
	}
}

// spoil changes a tuple and what lies in its spare room.
func spoil(x api.Tuple) {
	x = x[:cap(x)]
	for i := range x {
		x[i] = sym("spoilt")
	}
}

// roomy is the tuple with spare room behind it, in which 77 stands.
func roomy(x api.Tuple) api.Tuple {
	whole := append(slices.Clone(x), ints(77, 77, 77)...)
	return whole[:len(x)]
}

func TestTuplesStay(t *testing.T) {
	x := roomy(ints(1, 2))
	whole := slices.Clone(x[:5])
	r := of(t, 2)
	r.Add(x)
	r.Add(x)
	r.Has(x)
	r.Drop(ints(9, 9))
	list := append(make([]api.Tuple, 0, 9), roomy(ints(5, 6)), roomy(ints(3, 4)), roomy(ints(5, 6)))
	spare := list[:9]
	before := fmt.Sprint(spare, spare[0][:5])
	o := of(t, 2, list...)
	if !reflect.DeepEqual(x[:5], whole) || fmt.Sprint(spare, spare[0][:5]) != before {
		t.Error(x[:5], spare)
	}
	spoil(x)
	for _, y := range list {
		spoil(y)
	}
	clear(list)
	if text(r) != texts([]api.Tuple{ints(1, 2)}) || text(o) != texts([]api.Tuple{ints(3, 4), ints(5, 6)}) {
		t.Error(text(r), text(o))
	}
	y := roomy(ints(1, 2))
	if !r.Drop(y) || !reflect.DeepEqual(y[:5], whole) {
		t.Error(y[:5])
	}
}

func TestColumnsStay(t *testing.T) {
	columns := append(make([]int, 0, 5), 1, 0, 1)
	before := slices.Clone(columns[:5])
	p, err := Project(of(t, 2, ints(1, 2)), columns...)
	if err != nil || !slices.Equal(columns[:5], before) {
		t.Error(columns[:5], err)
	}
	clear(columns)
	if text(p) != texts([]api.Tuple{ints(2, 1, 2)}) {
		t.Error(text(p))
	}
}

func TestYieldedTuplesAreNew(t *testing.T) {
	r := of(t, 2, ints(1, 1), ints(1, 2), ints(1, 3))
	before := text(r)
	for _, loop := range loops(r) {
		var got []api.Tuple
		for x := range loop {
			got = append(got, x)
			spoil(x)
		}
		if text(r) != before || len(got) != 3 {
			t.Error(text(r))
		}
		for _, x := range slices.Collect(loop) {
			spoil(x)
			spoil(append(x, num(1)))
		}
		if text(r) != before {
			t.Error(text(r))
		}
	}
	got := all(r)
	spoil(got[0])
	if texts(got[1:]) != texts([]api.Tuple{ints(1, 2), ints(1, 3)}) {
		t.Error("two tuples share memory", got)
	}
}

// TestResultsAreNew changes what is handed in after the call, and then what is answered.
func TestResultsAreNew(t *testing.T) {
	small := func() *Rel { return of(t, 2, ints(1, 1), ints(1, 2), ints(2, 2)) }
	for i, f := range []func(a, b *Rel) (*Rel, error){
		Union, Both,
		func(a, b *Rel) (*Rel, error) { return Minus(a, of(t, 2)) },
		func(a, b *Rel) (*Rel, error) { return Project(a, 0, 1) },
		func(a, b *Rel) (*Rel, error) { return a.Copy(), nil },
		func(a, b *Rel) (*Rel, error) { return Union(a, of(t, 2)) },
		func(a, b *Rel) (*Rel, error) { return Union(of(t, 2), b) },
	} {
		a, b := small(), small()
		r, err := f(a, b)
		if err != nil || r == a || r == b || !Same(r, small()) || !Same(a, small()) || !Same(b, small()) {
			t.Fatal(i, err)
		}
		for _, x := range []*Rel{a, b} {
			x.Drop(ints(1, 1))
			x.Add(ints(0, 0))
			x.Add(ints(9, 9))
		}
		after := text(a)
		if !Same(r, small()) {
			t.Error(i, text(r))
		}
		r.Drop(ints(2, 2))
		r.Add(ints(1, 0))
		if text(a) != after || text(b) != after {
			t.Error(i, text(a), text(b))
		}
	}
}

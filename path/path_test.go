package path

import (
	"fmt"
	"math"
	"math/rand"
	"slices"
	"strings"
	"testing"

	"pointsman/api"
)

func must(t *testing.T, what string, got, want any) {
	t.Helper()
	if g, w := fmt.Sprint(got), fmt.Sprint(want); g != w {
		t.Errorf("%s: %s, want %s", what, g, w)
	}
}

func order(as ...uint32) api.Segment { return api.Segment{AS: as} }
func set(as ...uint32) api.Segment   { return api.Segment{Set: true, AS: as} }

func p(l ...api.Segment) []api.Segment { return l }

func many(n int) []uint32 { return slices.Repeat([]uint32{7}, n) }

func some(r *rand.Rand) []api.Segment {
	var l []api.Segment
	for range r.Intn(5) {
		s := api.Segment{Set: r.Intn(3) == 0}
		for range 1 + r.Intn(5) {
			s.AS = append(s.AS, 1+r.Uint32()>>(1+r.Intn(31)))
		}
		l = append(l, s)
	}
	return l
}

func bad() [][]api.Segment {
	return [][]api.Segment{p(order()), p(set()), p(order(0)), p(order(1), set(2, 0)), p(order(many(65)...)), p(order(many(64)...), set(1)), p(order(many(300)...))}
}

func TestExample(t *testing.T) {
	x := p(order(65001, 65002), set(1, 2))
	y, e := Prepend(x, 7, 2)
	s, _ := Text(y)
	must(t, "the example", []any{Len(x), e, s}, []any{3, api.OK, "7 7 65001 65002 {1 2}"})
}

// Promise 19.1.
func TestBytes(t *testing.T) {
	for _, x := range bad() {
		b, e := Put(x, true)
		s, e2 := Text(x)
		q, e3 := Prepend(x, 1, 0)
		must(t, fmt.Sprint(x), []any{Check(x), len(b), e, s, e2, q, e3}, []any{api.ErrArg, 0, api.ErrArg, "", api.ErrArg, p(), api.ErrArg})
	}
	must(t, "Check", []any{Check(nil), Check(p(order(many(64)...)))}, []any{api.OK, api.OK})
	x := p(order(258, 70000), set(3))
	b, e := Put(x, false)
	must(t, "in two", []any{b, e}, []any{[]byte{2, 2, 1, 2, 0x5b, 0xa0, 1, 1, 0, 3}, api.OK})
	b, e = Put(x, true)
	must(t, "in four", []any{b, e}, []any{[]byte{2, 2, 0, 0, 1, 2, 0, 1, 0x11, 0x70, 1, 1, 0, 0, 0, 3}, api.OK})
	long := append([]byte{2, 65}, make([]byte, 130)...)
	for i := range long[2:] {
		long[2+i] = 1
	}
	for _, b := range [][]byte{{2}, {2, 0}, {1, 0}, {0, 1, 0, 1}, {3, 1, 0, 1}, {2, 1, 0}, {2, 1, 0, 1, 2}, {2, 1, 0, 0}, {2, 2, 0, 1}, {2, 1, 0, 1, 9}, long} {
		x, e := Read(b, false)
		must(t, fmt.Sprint("Read ", b), []any{x, e}, []any{p(), api.ErrShort})
	}
	_, e = Read([]byte{2, 1, 0, 1}, true)
	must(t, "Read in four", e, api.ErrShort)
}

// Promise 19.2.
func TestLook(t *testing.T) {
	x := p(order(1, 2), set(3, 4), order(5))
	must(t, "Len", []int{Len(nil), Len(x), Len(p(set(), order(), order(0)))}, []int{0, 4, 2})
	must(t, "Has", []bool{Has(x, 4), Has(x, 5), Has(x, 6), Has(nil, 0), Has(p(order(0)), 0)}, []bool{true, true, false, false, true})
	for _, c := range []struct {
		x           []api.Segment
		first, last string
	}{
		{nil, "0 false", "0 false"}, {x, "1 true", "5 true"}, {p(set(1), order(2)), "0 false", "2 true"}, {p(order(2), set(1)), "2 true", "0 false"}, {p(order(), order()), "0 false", "0 false"},
	} {
		a, ok := First(c.x)
		b, ok2 := Origin(c.x)
		must(t, fmt.Sprint(c.x), []string{fmt.Sprint(a, ok), fmt.Sprint(b, ok2)}, []string{c.first, c.last})
	}
	must(t, "Same", []bool{Same(nil, p()), Same(x, p(order(1, 2), set(3, 4), order(5))), Same(x, x[:2]), Same(p(set(1, 2)), p(set(2, 1))), Same(p(set(1)), p(order(1))), Same(p(order(1), order(2)), p(order(1, 2)))}, []bool{true, true, false, false, false, false})
}

// Promise 19.3.
func TestPrepend(t *testing.T) {
	for _, c := range []struct {
		x    []api.Segment
		as   uint32
		n    int
		want string
		e    api.Errno
	}{
		{nil, 5, 2, "[{false [5 5]}]", api.OK}, {nil, 5, 0, "[]", api.OK}, {p(set(1)), 5, 1, "[{false [5]} {true [1]}]", api.OK}, {p(set(1)), 5, 0, "[{true [1]}]", api.OK},
		{p(order(1)), 5, 1, "[{false [5 1]}]", api.OK}, {nil, 0, 1, "[]", api.ErrArg}, {nil, 1, -1, "[]", api.ErrArg}, {nil, 1, 65, "[]", api.ErrLong}, {p(set(many(60)...)), 1, 5, "[]", api.ErrLong},
		{p(order(1)), 1, math.MaxInt, "[]", api.ErrLong}, {p(order(1)), 0, math.MaxInt, "[]", api.ErrArg},
	} {
		q, e := Prepend(c.x, c.as, c.n)
		must(t, fmt.Sprint("Prepend ", c), []any{q, e}, []any{c.want, c.e})
	}
	q, e := Prepend(p(set(many(60)...)), 1, 4)
	must(t, "up to MaxPath", []any{len(q), Len(q), e}, []any{2, 5, api.OK})
	x := p(order(1, 2))
	q, _ = Prepend(x, 9, 0)
	q[0].AS[0] = 77
	must(t, "of its own", x[0].AS[0], 1)
}

// Promise 19.4.
func TestMerge(t *testing.T) {
	for _, c := range []struct{ two, four, want string }{
		{"1 2", "3 4 5", "1 2"}, {"1 2 3", "8 9", "1 8 9"}, {"1 2", "8 9", "8 9"}, {"1 2 3", "", "1 2 3"}, {"", "", ""}, {"{1 2} 3 4", "9", "{1 2} 3 9"},
		{"{1 2} 3 4", "8 9", "{1 2} 8 9"}, {"1 {2 3} 4", "{9}", "1 {2 3} {9}"}, {"1 2 3", "{8 9}", "1 2 {8 9}"}, {"1 {2 3} 4", "7", "1 {2 3} 7"}, {"{1 2}", "{7 8 9}", "{7 8 9}"},
	} {
		two, _ := Parse(c.two)
		four, _ := Parse(c.four)
		got, e := Text(Merge(two, four))
		must(t, c.two+" and "+c.four, []any{got, e}, []any{c.want, api.OK})
	}
	must(t, "segments of any kind", Merge(p(order(), order(1, 2), set()), p(order(9))), p(order(), order(1, 2, 9)))
	two, four := p(order(1, 2)), p(order(3))
	m := Merge(two, four)
	m[0].AS[0] = 9
	must(t, "of its own", []any{two, four}, []any{p(order(1, 2)), p(order(3))})
}

// Promise 19.5.
func TestTexts(t *testing.T) {
	for _, s := range []string{" ", "1 ", " 1", "1  2", "01", "0", "4294967296", "99999999999999999999", "a", "1,2", "{}", "{", "}", "{1", "1}", "{1 {2}}", "{1}}", "{{1}}", "{1}2", "1{2}", "{ 1}", "{1 }", "{1} {", "-1", "+1", strings.Repeat("1 ", 64) + "1"} {
		x, e := Parse(s)
		must(t, "Parse "+s, []any{x, e}, []any{p(), api.ErrNone})
	}
	for _, c := range []struct {
		s string
		x []api.Segment
	}{{"", nil}, {"4294967295", p(order(math.MaxUint32))}, {"1 2 {3} {4 5} 6", p(order(1, 2), set(3), set(4, 5), order(6))}} {
		x, e := Parse(c.s)
		s, _ := Text(c.x)
		must(t, "Parse "+c.s, []any{x, e, s}, []any{c.x, api.OK, c.s})
	}
	s, _ := Text(p(order(1), order(2)))
	must(t, "Text", s, "1 2")
}

// Promises 19.6 to 19.8.
func TestFollows(t *testing.T) {
	r := rand.New(rand.NewSource(1))
	for range 1000 {
		x, y := some(r), some(r)
		b, _ := Put(x, true)
		got, e := Read(b, true)
		must(t, "in four", []any{got, e}, []any{x, api.OK})
		b, _ = Put(x, false)
		got, _ = Read(b, false)
		c, _ := Put(got, false)
		must(t, "in two", c, b)
		s, _ := Text(x)
		got, e = Parse(s)
		again, _ := Text(got)
		must(t, "a text", []any{again, e}, []any{s, api.OK})
		n := 1 + r.Intn(5)
		q, _ := Prepend(x, 9, n)
		first, ok := First(q)
		a, ok2 := Origin(x)
		z, ok3 := Origin(q)
		must(t, "longer", []any{Len(q), first, ok}, []any{Len(x) + n, 9, true})
		if len(x) > 0 {
			must(t, "it ends as it did", []any{z, ok3}, []any{a, ok2})
		}
		if m := Merge(x, y); Len(x) >= Len(y) && Len(m) != Len(x) || Len(x) < Len(y) && !Same(m, x) {
			t.Fatalf("%v and %v merged: %v", x, y, m)
		}
	}
}

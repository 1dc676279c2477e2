package run

import (
	"fmt"
	"math/rand"
	"slices"
	"testing"

	"pointsman/api"
	"pointsman/code"
	"pointsman/path"
	"pointsman/upd"
)

func must(t *testing.T, what string, got, want any) {
	t.Helper()
	if g, w := fmt.Sprintf("%+v", got), fmt.Sprintf("%+v", want); g != w {
		t.Errorf("%s: %s, want %s", what, g, w)
	}
}

func told(a api.Attrs, ok bool, e api.Errno) string { return fmt.Sprintf("%+v %v %d", a, ok, int(e)) }

func way(as ...uint32) []api.Segment { return []api.Segment{{AS: as}} }

func make1(l ...api.Stmt) []api.Step {
	x, e := code.Make(api.Policy{L: l})
	if e != api.OK {
		panic(e)
	}
	return x
}

var p8 = api.Prefix{Addr: 0x0a000000, Len: 8}

func TestExample(t *testing.T) {
	l := make1(api.Stmt{Op: 1, If: api.Cond{Op: 6, N: 1}, Then: []api.Stmt{{Op: 2}}})
	a := api.Attrs{Path: way(2, 1)}
	must(t, "of a path 2 1", told(Play(l, p8, a)), told(a, true, api.OK))
	must(t, "of 2", told(Play(l, p8, api.Attrs{Path: way(2)})), told(api.Attrs{}, false, api.OK))
}

// Promise 27.1: tests.
func TestTests(t *testing.T) {
	set := []api.Segment{{Set: true, AS: []uint32{1, 2}}, {AS: []uint32{3}}}
	for i, c := range []struct {
		c    api.Cond
		p    api.Prefix
		a    api.Attrs
		want bool
	}{
		{api.Cond{Op: 4, Prefix: p8, N: 16}, p8, api.Attrs{}, true}, {api.Cond{Op: 4, Prefix: p8, N: 16}, api.Prefix{Addr: 0x0a010000, Len: 16}, api.Attrs{}, true}, {api.Cond{Op: 4, Prefix: p8, N: 16}, api.Prefix{Addr: 0x0a010000, Len: 17}, api.Attrs{}, false},
		{api.Cond{Op: 4, Prefix: p8, N: 16}, api.Prefix{Addr: 0x0b000000, Len: 8}, api.Attrs{}, false}, {api.Cond{Op: 4, Prefix: p8, N: 32}, api.Prefix{}, api.Attrs{}, false}, {api.Cond{Op: 4, Prefix: p8, N: 32}, api.Prefix{Addr: 0x0a000001, Len: 8}, api.Attrs{}, false},
		{api.Cond{Op: 5, Prefix: p8}, p8, api.Attrs{}, true}, {api.Cond{Op: 5, Prefix: p8}, api.Prefix{Addr: 0x0a000000, Len: 9}, api.Attrs{}, false},
		{api.Cond{Op: 6, N: 2}, p8, api.Attrs{Path: set}, true}, {api.Cond{Op: 6, N: 9}, p8, api.Attrs{Path: set}, false}, {api.Cond{Op: 7, N: 1}, p8, api.Attrs{Path: set}, false}, {api.Cond{Op: 7, N: 1}, p8, api.Attrs{Path: way(1, 2)}, true}, {api.Cond{Op: 7, N: 0}, p8, api.Attrs{}, false},
		{api.Cond{Op: 8, N: 3}, p8, api.Attrs{Path: set}, true}, {api.Cond{Op: 8, N: 2}, p8, api.Attrs{Path: set}, false}, {api.Cond{Op: 8, N: 0}, p8, api.Attrs{}, false}, {api.Cond{Op: 9, N: 1}, p8, api.Attrs{Path: set}, true}, {api.Cond{Op: 9, N: 2}, p8, api.Attrs{Path: set}, false},
		{api.Cond{Op: 10, N: 7}, p8, api.Attrs{Comms: []uint32{6, 7}}, true}, {api.Cond{Op: 10, N: 8}, p8, api.Attrs{Comms: []uint32{6, 7}}, false}, {api.Cond{Op: 11, N: 2}, p8, api.Attrs{Origin: 2}, true}, {api.Cond{Op: 11, N: 1}, p8, api.Attrs{}, false},
		{api.Cond{Op: 12, N: 5}, p8, api.Attrs{HasMed: true, Med: 6}, true}, {api.Cond{Op: 12, N: 5}, p8, api.Attrs{HasMed: true, Med: 5}, false}, {api.Cond{Op: 12}, p8, api.Attrs{Med: 6}, false}, {api.Cond{Op: 12, N: 4294967295}, p8, api.Attrs{HasMed: true, Med: 4294967295}, false},
	} {
		l := make1(api.Stmt{Op: 1, If: c.c, Then: []api.Stmt{{Op: 2}}})
		_, ok, e := Play(l, c.p, c.a)
		must(t, fmt.Sprint("test ", i), []any{ok, e}, []any{c.want, api.OK})
	}
}

// Promise 27.1: what is done.
func TestDone(t *testing.T) {
	full := make([]uint32, api.MaxComms)
	do := func(a api.Attrs, l ...api.Stmt) string {
		return told(Play(make1(append(l, api.Stmt{Op: 2})...), p8, a))
	}
	fine := func(a api.Attrs) string { return told(a, true, api.OK) }
	no := told(api.Attrs{}, false, api.OK)
	must(t, "prepend", do(api.Attrs{Path: way(1)}, api.Stmt{Op: 4, N: 9, M: 2}), fine(api.Attrs{Path: way(9, 9, 1)}))
	must(t, "prepend without room", do(api.Attrs{Path: way(slices.Repeat([]uint32{1}, 63)...)}, api.Stmt{Op: 4, N: 9, M: 2}), no)
	must(t, "prepend to a path that may not be", do(api.Attrs{Path: way()}, api.Stmt{Op: 4, N: 9, M: 2}), no)
	must(t, "local, med", do(api.Attrs{}, api.Stmt{Op: 5, N: 3}, api.Stmt{Op: 6, N: 4294967295}), fine(api.Attrs{HasLocal: true, Local: 3, HasMed: true, Med: 4294967295}))
	must(t, "add, drop", do(api.Attrs{Comms: []uint32{1, 2, 1}}, api.Stmt{Op: 7, N: 5}, api.Stmt{Op: 7, N: 2}, api.Stmt{Op: 8, N: 1}), fine(api.Attrs{Comms: []uint32{2, 5}}))
	must(t, "add without room", do(api.Attrs{Comms: full}, api.Stmt{Op: 7, N: 5}), no)
	must(t, "add what is there", do(api.Attrs{Comms: full}, api.Stmt{Op: 7}), fine(api.Attrs{Comms: full}))
	must(t, "clear", do(api.Attrs{Comms: full}, api.Stmt{Op: 9}, api.Stmt{Op: 7, N: 1}), fine(api.Attrs{Comms: []uint32{1}}))
	must(t, "reject", do(api.Attrs{}, api.Stmt{Op: 3}), no)
	must(t, "behind all of them", told(Play(make1(), p8, api.Attrs{})), no)
	for _, l := range [][]api.Step{nil, {{Op: 6}}, make([]api.Step, 5000)} {
		must(t, "a table that is not right", []any{told(Play(l, p8, api.Attrs{})), Steps(l, p8, api.Attrs{})}, []any{told(api.Attrs{}, false, api.ErrCode), 0})
	}
	a := api.Attrs{Path: way(1), Comms: []uint32{1, 2}, Others: []api.Raw{{Kind: 9, Data: []byte{1}}}}
	b, _, _ := Play(make1(api.Stmt{Op: 8, N: 1}, api.Stmt{Op: 2}), p8, a)
	b.Path[0].AS[0], b.Comms[0], b.Others[0].Data[0] = 7, 7, 7
	must(t, "not changed", a, api.Attrs{Path: way(1), Comms: []uint32{1, 2}, Others: []api.Raw{{Kind: 9, Data: []byte{1}}}})
	l := make1(api.Stmt{Op: 1, If: api.Cond{Op: 6, N: 1}, Then: []api.Stmt{{Op: 9}}, Else: []api.Stmt{{Op: 3}}}, api.Stmt{Op: 2})
	must(t, "Steps", []int{Steps(l, p8, a), Steps(l, p8, api.Attrs{}), Steps(make1(api.Stmt{Op: 7, N: 5}), p8, api.Attrs{Comms: full})}, []int{4, 2, 1})
}

// means plays a policy as it means: 0 it goes on, 1 it accepts, 2 it rejects.
func means(l []api.Stmt, p api.Prefix, a *api.Attrs) int {
	for _, s := range l {
		what := 0
		switch s.Op {
		case 1:
			if true1(s.If, p, *a) {
				what = means(s.Then, p, a)
			} else {
				what = means(s.Else, p, a)
			}
		case 2, 3:
			what = s.Op - 1
		case 4:
			q, e := path.Prepend(a.Path, uint32(s.N), s.M)
			if a.Path = q; e != api.OK {
				what = 2
			}
		case 6:
			a.HasMed, a.Med = true, uint32(s.N)
		case 7:
			if !slices.Contains(a.Comms, uint32(s.N)) {
				if a.Comms = append(a.Comms, uint32(s.N)); len(a.Comms) > 32 {
					what = 2
				}
			}
		case 9:
			a.Comms = nil
		}
		if what != 0 {
			return what
		}
	}
	return 0
}

func true1(c api.Cond, p api.Prefix, a api.Attrs) bool {
	switch c.Op {
	case 1:
		return !slices.ContainsFunc(c.L, func(m api.Cond) bool { return !true1(m, p, a) })
	case 2:
		return slices.ContainsFunc(c.L, func(m api.Cond) bool { return true1(m, p, a) })
	case 3:
		return !true1(c.L[0], p, a)
	case 4:
		return upd.Within(c.Prefix, p) && p.Len <= c.N
	case 6:
		return path.Has(a.Path, uint32(c.N))
	}
	return a.HasMed && int(a.Med) > c.N
}

func someCond(r *rand.Rand, deep int) api.Cond {
	op := 1 + r.Intn(3)
	if deep == 0 || r.Intn(3) == 0 {
		op = []int{4, 6, 12}[r.Intn(3)]
	}
	c := api.Cond{Op: op}
	switch op {
	case 1, 2:
		c.L = []api.Cond{someCond(r, deep-1), someCond(r, deep-1), someCond(r, deep-1)}
	case 3:
		c.L = []api.Cond{someCond(r, deep-1)}
	case 4:
		c.Prefix, c.N = p8, 8+r.Intn(10)
	default:
		c.N = r.Intn(4)
	}
	return c
}

func some(r *rand.Rand, deep int) []api.Stmt {
	var l []api.Stmt
	for range r.Intn(4) {
		s := api.Stmt{Op: []int{1, 1, 1, 2, 3, 4, 6, 7, 9}[r.Intn(9)]}
		switch {
		case s.Op == 1 && deep > 0:
			s.If, s.Then, s.Else = someCond(r, 3), some(r, deep-1), some(r, deep-1)
		case s.Op == 1:
			s.Op = 9
		case s.Op == 4:
			s.N, s.M = 1+r.Intn(3), 1+r.Intn(10)
		case s.Op == 6 || s.Op == 7:
			s.N = r.Intn(4)
		}
		l = append(l, s)
	}
	return l
}

// Promises 27.2 and 27.3.
func TestMeaning(t *testing.T) {
	r := rand.New(rand.NewSource(1))
	for range 3000 {
		body := some(r, 3)
		l := make1(body...)
		p := api.Prefix{Addr: 0x0a000000 + api.Addr(r.Intn(2))<<24, Len: 8 + r.Intn(10)}
		a := api.Attrs{Path: way(slices.Repeat([]uint32{1 + r.Uint32()%3}, 1+r.Intn(63))...), HasMed: r.Intn(2) == 0, Med: r.Uint32() % 5, Comms: make([]uint32, r.Intn(33))}
		got, ok, e := Play(l, p, a)
		if n := Steps(l, p, a); n < 1 || n > len(l) {
			t.Fatalf("%d steps of %d", n, len(l))
		}
		b := a
		b.Comms = slices.Clone(a.Comms)
		what := means(body, p, &b)
		if what != 1 {
			b = api.Attrs{}
		}
		must(t, fmt.Sprintf("%+v", body), told(got, ok, e), told(b, what == 1, api.OK))
	}
}

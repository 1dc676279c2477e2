package code

import (
	"fmt"
	"math/rand"
	"testing"

	"pointsman/api"
)

func must(t *testing.T, what string, got, want any) {
	t.Helper()
	if g, w := fmt.Sprintf("%+v", got), fmt.Sprintf("%+v", want); g != w {
		t.Errorf("%s: %s, want %s", what, g, w)
	}
}

// text tells a table shortly.
func text(l []api.Step, e api.Errno) string {
	s := ""
	for _, x := range l {
		s += fmt.Sprint(x.Op)
		if x.N != 0 || x.M != 0 {
			s += fmt.Sprintf("(%d,%d)", x.N, x.M)
		}
		s += fmt.Sprintf(">%d,%d ", x.X, x.Y)
	}
	return s + fmt.Sprint(int(e))
}

func has(n int) api.Cond { return api.Cond{Op: 6, N: n} }

func of(op int, l ...api.Cond) api.Cond { return api.Cond{Op: op, L: l} }

func when(c api.Cond, then ...api.Stmt) api.Stmt { return api.Stmt{Op: 1, If: c, Then: then} }

func table(l ...api.Stmt) string { return text(Make(api.Policy{L: l})) }

var accept, reject = api.Stmt{Op: 2}, api.Stmt{Op: 3}

func TestExample(t *testing.T) {
	must(t, "the example", table(when(has(1), accept)), "6(1,0)>1,2 22>0,0 23>0,0 0")
}

// Promise 26.1: tables.
func TestMake(t *testing.T) {
	both := when(has(1), accept)
	both.Else = []api.Stmt{reject, accept}
	for i, c := range []struct{ got, want string }{
		{table(), "23>0,0 0"}, {table(accept, reject), "22>0,0 23>0,0 23>0,0 0"},
		{table(api.Stmt{Op: 4, N: 7, M: 2}, api.Stmt{Op: 5, N: 1}, api.Stmt{Op: 6, N: 2}, api.Stmt{Op: 7, N: 3}, api.Stmt{Op: 8, N: 4}, api.Stmt{Op: 9}), "24(7,2)>1,0 25(1,0)>2,0 26(2,0)>3,0 27(3,0)>4,0 28(4,0)>5,0 29>6,0 23>0,0 0"},
		{table(both), "6(1,0)>1,3 22>0,0 21>5,0 23>0,0 22>0,0 23>0,0 0"},
		{table(when(has(1))), "6(1,0)>1,1 23>0,0 0"},
		{table(when(of(3, has(1)), accept)), "6(1,0)>2,1 22>0,0 23>0,0 0"},
		{table(when(of(1, has(1), has(2), has(3)), accept)), "6(1,0)>1,4 6(2,0)>2,4 6(3,0)>3,4 22>0,0 23>0,0 0"},
		{table(when(of(2, has(1), has(2), has(3)), accept)), "6(1,0)>3,1 6(2,0)>3,2 6(3,0)>3,4 22>0,0 23>0,0 0"},
		{table(when(of(3, of(1, has(1), of(2, has(2), has(3)))), accept)), "6(1,0)>1,3 6(2,0)>4,2 6(3,0)>4,3 22>0,0 23>0,0 0"},
		{table(when(of(2, of(1, has(1), has(2)), has(3)), accept)), "6(1,0)>1,2 6(2,0)>3,2 6(3,0)>3,4 22>0,0 23>0,0 0"},
		{table(when(has(1), when(has(2), accept)), reject), "6(1,0)>1,3 6(2,0)>2,3 22>0,0 23>0,0 23>0,0 0"},
	} {
		must(t, fmt.Sprint("Make ", i), c.got, c.want)
	}
	l, _ := Make(api.Policy{L: []api.Stmt{when(api.Cond{Op: 4, N: 9, Prefix: api.Prefix{Addr: 0x0a000000, Len: 8}})}})
	must(t, "a prefix", l[0], api.Step{Op: 4, N: 9, Prefix: api.Prefix{Addr: 0x0a000000, Len: 8}, X: 1, Y: 1})
}

// Promise 26.1: policies that are not right, or too long.
func TestWrong(t *testing.T) {
	p8, bad := api.Prefix{Addr: 0x0a000000, Len: 8}, api.Prefix{Addr: 1, Len: 8}
	for i, c := range []api.Cond{
		{}, {Op: -1}, {Op: 13}, of(1), of(1, has(1)), of(2, has(1)), of(3), of(3, has(1), has(2)), {Op: 1, N: 1, L: []api.Cond{has(1), has(2)}}, {Op: 2, Prefix: p8, L: []api.Cond{has(1), has(2)}}, {Op: 3, N: 1, L: []api.Cond{has(1)}}, of(1, has(1), has(-1)),
		{Op: 4, Prefix: bad, N: 9}, {Op: 4, Prefix: p8, N: 7}, {Op: 4, Prefix: p8, N: 33}, {Op: 4, Prefix: p8, N: 8, L: []api.Cond{has(1)}}, {Op: 5, Prefix: bad}, {Op: 5, Prefix: p8, N: 8}, {Op: 6, N: -1}, {Op: 7, N: 1 << 32}, {Op: 8, N: 1, Prefix: p8}, {Op: 9, L: []api.Cond{has(1)}}, {Op: 10, N: -1}, {Op: 11, N: 3}, {Op: 11, N: -1}, {Op: 12, N: 1 << 32},
	} {
		must(t, fmt.Sprint("condition ", i), table(when(c, accept)), "260")
	}
	for i, s := range []api.Stmt{
		{}, {Op: 10}, {Op: -1}, {Op: 2, N: 1}, {Op: 3, M: 1}, {Op: 9, N: 1}, {Op: 2, If: has(1)}, {Op: 2, Then: []api.Stmt{accept}}, {Op: 2, Else: []api.Stmt{accept}}, {Op: 4, M: 1}, {Op: 4, N: 1}, {Op: 4, N: 1, M: 11}, {Op: 4, N: 1 << 32, M: 1},
		{Op: 5, N: -1}, {Op: 5, M: 1}, {Op: 6, N: 1 << 32}, {Op: 7, N: -1}, {Op: 8, M: 1}, {Op: 1, If: has(1), N: 1}, {Op: 1, If: has(1), M: 1}, {Op: 1}, when(has(1), api.Stmt{}), {Op: 1, If: has(1), Else: []api.Stmt{{Op: 99}}}, {Op: 5, If: api.Cond{N: 1}}, {Op: 5, If: api.Cond{Prefix: p8}},
	} {
		must(t, fmt.Sprint("statement ", i), table(accept, s), "260")
	}
	nest := func(stmts, conds int) string {
		c := has(1)
		for range conds {
			c = of(3, c)
		}
		s := when(c)
		for range stmts {
			s = when(has(1), s)
		}
		l, e := Make(api.Policy{L: []api.Stmt{s}})
		return fmt.Sprint(len(l), " ", int(e))
	}
	must(t, "deep", []string{nest(0, 62), nest(0, 63), nest(62, 0), nest(63, 0), nest(30, 32), nest(30, 33)}, []string{"2 0", "0 260", "64 0", "0 260", "32 0", "0 260"})
	inner := accept
	for range 63 {
		inner = when(has(1), inner)
	}
	must(t, "a statement in 63 others", table(inner)[:4], "6(1,")
	must(t, "a statement in 64 others", table(when(has(1), inner)), "260")
	many := make([]api.Stmt, api.MaxItems)
	for i := range many {
		many[i] = accept
	}
	must(t, "too long", table(many...), "3")
	l, e := Make(api.Policy{L: many[1:]})
	must(t, "as long as may be", []any{len(l), e}, []any{api.MaxItems, api.OK})
	must(t, "ErrCode ahead of ErrLong", table(append(many, api.Stmt{})...), "260")
}

// Promise 26.2.
func TestCheck(t *testing.T) {
	p8 := api.Prefix{Addr: 0x0a000000, Len: 8}
	end := api.Step{Op: 23}
	for i, c := range []struct {
		l  []api.Step
		ok bool
	}{
		{nil, false}, {[]api.Step{end}, true}, {[]api.Step{{Op: 22}}, true}, {[]api.Step{{Op: 6, X: 1, Y: 1}, end}, true}, {[]api.Step{{Op: 6, X: 1, Y: 2}, end}, false}, {[]api.Step{{Op: 6, X: 0, Y: 1}, end}, false}, {[]api.Step{{Op: 6, X: 1}, end}, false}, {[]api.Step{{Op: 6, X: -1, Y: 1}, end}, false},
		{[]api.Step{end, {Op: 21, X: 2}, end}, true}, {[]api.Step{{Op: 21, X: 1, Y: 1}, end}, false}, {[]api.Step{{Op: 21, N: 1, X: 1}, end}, false}, {[]api.Step{{Op: 21, X: 5}, end}, false}, {[]api.Step{{Op: 21}}, false},
		{[]api.Step{{Op: 22, X: 1}, end}, false}, {[]api.Step{{Op: 22, N: 1}, end}, false}, {[]api.Step{{Op: 22, Prefix: p8}, end}, false}, {[]api.Step{{Op: 24, N: 1, M: 1, X: 1}, end}, true}, {[]api.Step{{Op: 24, N: 1, M: 1, X: 1, Y: 1}, end}, false}, {[]api.Step{{Op: 24, N: 0, M: 1, X: 1}, end}, false}, {[]api.Step{{Op: 24, N: 1, M: 1}, end}, false},
		{[]api.Step{{Op: 25, N: 1, X: 1}, end}, true}, {[]api.Step{{Op: 28, N: 1, M: 1, X: 1}, end}, false}, {[]api.Step{{Op: 29, X: 1}, end}, true}, {[]api.Step{{Op: 29, N: 1, X: 1}, end}, false}, {[]api.Step{{Op: 30, X: 1}, end}, false}, {[]api.Step{{Op: 20, X: 1}, end}, false}, {[]api.Step{{Op: 13, X: 1, Y: 1}, end}, false}, {[]api.Step{{Op: 3, X: 1, Y: 1}, end}, false}, {[]api.Step{{X: 1, Y: 1}, end}, false}, {[]api.Step{{Op: -1 << 63, X: 1}, end}, false},
		{[]api.Step{{Op: 4, Prefix: p8, N: 8, X: 1, Y: 1}, end}, true}, {[]api.Step{{Op: 4, Prefix: p8, N: 7, X: 1, Y: 1}, end}, false}, {[]api.Step{{Op: 5, Prefix: p8, M: 1, X: 1, Y: 1}, end}, false}, {[]api.Step{{Op: 12, Prefix: p8, X: 1, Y: 1}, end}, false}, {[]api.Step{{Op: 11, N: 3, X: 1, Y: 1}, end}, false},
		{[]api.Step{end, {Op: 29, X: 2}}, false}, {[]api.Step{end, {Op: 25}}, false},
	} {
		want := api.ErrCode
		if c.ok {
			want = api.OK
		}
		must(t, fmt.Sprint("Check ", i), Check(c.l), want)
	}
	many := make([]api.Step, api.MaxItems+1)
	must(t, "too long", Check(many), api.ErrLong)
	for i := range many {
		many[i] = end
	}
	must(t, "as long as may be", Check(many[1:]), api.OK)
	must(t, "Tests", []int{Tests(nil), Tests(many), Tests([]api.Step{{Op: 6, X: 1, Y: 2}, {Op: 12, X: 2, Y: 2}, end}), Tests([]api.Step{{Op: 6, X: 1, Y: 9}, end})}, []int{0, 0, 2, 0})
}

// leaves is how many conditions without members there are.
func leaves(l []api.Stmt) int {
	n := 0
	var of func(c api.Cond) int
	of = func(c api.Cond) int {
		if len(c.L) == 0 {
			return 1
		}
		n := 0
		for _, m := range c.L {
			n += of(m)
		}
		return n
	}
	for _, s := range l {
		if s.Op == 1 {
			n += of(s.If) + leaves(s.Then) + leaves(s.Else)
		}
	}
	return n
}

func someCond(r *rand.Rand, deep int) api.Cond {
	op := 1 + r.Intn(6)
	if deep == 0 {
		op = 6
	}
	switch op {
	case 1, 2:
		return of(op, someCond(r, deep-1), someCond(r, deep-1))
	case 3:
		return of(op, someCond(r, deep-1))
	}
	return has(r.Intn(9))
}

func some(r *rand.Rand, deep int) []api.Stmt {
	var l []api.Stmt
	for range r.Intn(4) {
		s := api.Stmt{Op: 1 + r.Intn(9)}
		switch {
		case s.Op == 1 && deep > 0:
			s.If, s.Then, s.Else = someCond(r, 3), some(r, deep-1), some(r, deep-1)
		case s.Op == 1:
			s.Op = 2
		case s.Op == 4:
			s.N, s.M = 1, 1
		}
		l = append(l, s)
	}
	return l
}

// Promises 26.3 and 26.4.
func TestFollows(t *testing.T) {
	r := rand.New(rand.NewSource(1))
	for range 500 {
		p := api.Policy{L: some(r, 3)}
		l, e := Make(p)
		must(t, "Make", []any{e, Check(l), Tests(l)}, []any{api.OK, api.OK, leaves(p.L)})
	}
}

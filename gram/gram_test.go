package gram

import (
	"fmt"
	"math/rand"
	"strings"
	"testing"

	"pointsman/api"
)

func must(t *testing.T, what string, got, want any) {
	t.Helper()
	if g, w := fmt.Sprintf("%+v", got), fmt.Sprintf("%+v", want); g != w {
		t.Errorf("%s: %s, want %s", what, g, w)
	}
}

func told(s api.Setup, line int, e api.Errno) string {
	return fmt.Sprintf("%+v %d %d", s, line, int(e))
}

var plain = api.Setup{Hold: 90, Retry: 30}

const head = "system 65000; router 10.0.0.1; "

// full is a configuration that has all that there is.
const full = `system 65000; router 10.0.0.1; hold 0; retry 5; graceful 120;
policy p {
	if prefix in 10.0.0.0/8 le 24 and not (path has 1 or path from 2) or prefix is 11.0.0.0/8 { accept; } else { reject; }
	prepend 65000 3; local 200; med 5; add 1:2; drop 3:4; clear;
	if path origin 3 or path longer 4 { if community 5:6 {} }
	if origin inner and origin outer and origin unknown or med above 7 and prefix in 0.0.0.0/0 { }
}
policy q {}
peer a 10.0.0.2 as 65001 waits max 10 in p out q; peer b 10.0.0.3 as 4294967295 out p;`

const printed = "system 65000 ; router 10.0.0.1 ; hold 0 ; retry 5 ; graceful 120 ; policy p { if prefix in 10.0.0.0/8 le 24 and not ( path has 1 or path from 2 ) or prefix is 11.0.0.0/8 { accept ; } else { reject ; } prepend 65000 3 ; local 200 ; med 5 ; add 1:2 ; drop 3:4 ; clear ; if path origin 3 or path longer 4 { if community 5:6 { } } if origin inner and origin outer and origin unknown or med above 7 and prefix in 0.0.0.0/0 le 32 { } } policy q { } peer a 10.0.0.2 as 65001 waits max 10 in p out q ; peer b 10.0.0.3 as 4294967295 out p ;"

func TestExample(t *testing.T) {
	s, line, e := Parse("system 65000; router 10.0.0.1; peer a 10.0.0.2 as 65001 waits;")
	want := plain
	want.AS, want.Router, want.Peers = 65000, 0x0a000001, []api.Peer{{Name: "a", Addr: 0x0a000002, AS: 65001, Waits: true}}
	must(t, "the example", told(s, line, e), told(want, 0, api.OK))
}

// Promise 25.1: what is read.
func TestParse(t *testing.T) {
	must(t, "no words", told(Parse(" # x")), told(plain, 0, api.OK))
	s, _, e := Parse(full)
	test := func(op, n int) api.Cond { return api.Cond{Op: op, N: n} }
	eight := api.Prefix{Addr: 0x0a000000, Len: 8}
	want := api.Setup{AS: 65000, Router: 0x0a000001, Hold: 0, Retry: 5, Graceful: 120, Policies: []api.Policy{{Name: "p", L: []api.Stmt{
		{Op: 1, If: api.Cond{Op: 2, L: []api.Cond{{Op: 1, L: []api.Cond{{Op: 4, Prefix: eight, N: 24}, {Op: 3, L: []api.Cond{{Op: 2, L: []api.Cond{test(6, 1), test(7, 2)}}}}}}, {Op: 5, Prefix: api.Prefix{Addr: 0x0b000000, Len: 8}}}}, Then: []api.Stmt{{Op: 2}}, Else: []api.Stmt{{Op: 3}}},
		{Op: 4, N: 65000, M: 3}, {Op: 5, N: 200}, {Op: 6, N: 5}, {Op: 7, N: 65538}, {Op: 8, N: 3<<16 + 4}, {Op: 9},
		{Op: 1, If: api.Cond{Op: 2, L: []api.Cond{test(8, 3), test(9, 4)}}, Then: []api.Stmt{{Op: 1, If: test(10, 5<<16+6)}}},
		{Op: 1, If: api.Cond{Op: 2, L: []api.Cond{{Op: 1, L: []api.Cond{test(11, 0), test(11, 1), test(11, 2)}}, {Op: 1, L: []api.Cond{test(12, 7), {Op: 4, N: 32}}}}}},
	}}, {Name: "q"}}, Peers: []api.Peer{{Name: "a", Addr: 0x0a000002, AS: 65001, Waits: true, Max: 10, In: "p", Out: "q"}, {Name: "b", Addr: 0x0a000003, AS: 4294967295, Out: "p"}}}
	must(t, "full", told(s, 0, e), told(want, 0, api.OK))
	s, _, e = Parse("hold 5; hold 7; system 0; policy policy {} policy policy {} peer in 0.0.0.0 as 0 in in out out;")
	must(t, "the last one counts, and nothing need be right", []any{s.Hold, len(s.Policies), s.Peers, e}, []any{7, 2, []api.Peer{{Name: "in", In: "in", Out: "out"}}, api.OK})
	s, _, _ = Parse("policy p { if (((path has 1))) {} if not not path has 1 and (path has 2 and path has 3) {} }")
	must(t, "parentheses", []any{s.Policies[0].L[0].If, s.Policies[0].L[1].If}, []any{test(6, 1), api.Cond{Op: 1, L: []api.Cond{{Op: 3, L: []api.Cond{{Op: 3, L: []api.Cond{test(6, 1)}}}}, {Op: 1, L: []api.Cond{test(6, 2), test(6, 3)}}}}})
}

// Promise 25.1: errors, and their lines.
func TestErrors(t *testing.T) {
	for _, c := range []struct {
		text string
		line int
		e    api.Errno
	}{
		{strings.Repeat(" ", api.MaxText+1), 0, api.ErrLong}, {strings.Repeat(";", api.MaxItems) + "\n;", 2, api.ErrLong}, {"x\n!", 2, api.ErrText}, {"\nx", 2, api.ErrGram}, {";", 1, api.ErrGram},
		{"system\n\n", 1, api.ErrGram}, {"system 1\n", 1, api.ErrGram}, {"system 1\n2", 2, api.ErrGram}, {"system\nx;", 2, api.ErrGram}, {"system 1.1.1.1;", 1, api.ErrGram}, {"router 1;", 1, api.ErrGram}, {"router\n;", 2, api.ErrGram},
		{"hold x;", 1, api.ErrGram}, {"retry 1:1;", 1, api.ErrGram}, {"graceful 1.2.3.4;", 1, api.ErrGram},
		{"policy p\n;", 2, api.ErrGram}, {"policy 1 {}", 1, api.ErrGram}, {"policy p {\naccept }", 2, api.ErrGram}, {"policy p {\n", 1, api.ErrGram}, {"policy p { }\n}", 2, api.ErrGram}, {"policy p { else {} }", 1, api.ErrGram},
		{"policy p { if { } }", 1, api.ErrGram}, {"policy p { if path has 1 accept; }", 1, api.ErrGram}, {"policy p { if path\n1 {} }", 2, api.ErrGram}, {"policy p { if path has 1 or {} }", 1, api.ErrGram}, {"policy p { if (path has 1 {} }", 1, api.ErrGram}, {"policy p { if prefix in 1 {} }", 1, api.ErrGram},
		{"policy p { if prefix 1.0.0.0/8 {} }", 1, api.ErrGram}, {"policy p { if prefix is 1.0.0.0/8 le 9 {} }", 1, api.ErrGram}, {"policy p { if prefix in 1.0.0.0/8 le x {} }", 1, api.ErrGram}, {"policy p { if origin x {} }", 1, api.ErrGram}, {"policy p { if med 1 {} }", 1, api.ErrGram}, {"policy p { if med above x {} }", 1, api.ErrGram}, {"policy p { if community 1 {} }", 1, api.ErrGram},
		{"policy p { if not {} }", 1, api.ErrGram}, {"policy p { if path has 1 {} else accept; }", 1, api.ErrGram}, {"policy p { prepend 1; }", 1, api.ErrGram}, {"policy p { add 1; }", 1, api.ErrGram}, {"policy p { drop; }", 1, api.ErrGram}, {"policy p { clear 1; }", 1, api.ErrGram}, {"policy p { local 1:1; }", 1, api.ErrGram},
		{"peer a as 1;", 1, api.ErrGram}, {"peer a 1.1.1.1 1;", 1, api.ErrGram}, {"peer a 1.1.1.1 as;", 1, api.ErrGram}, {"peer a 1.1.1.1 as 1 max;", 1, api.ErrGram}, {"peer a 1.1.1.1 as 1 max 1 waits;", 1, api.ErrGram}, {"peer a 1.1.1.1 as 1 out p in q;", 1, api.ErrGram}, {"peer a 1.1.1.1 as 1 in;", 1, api.ErrGram}, {"peer a 1.1.1.1 as 1 out\n1;", 2, api.ErrGram}, {"peer a 1.1.1.1 as 1\n", 1, api.ErrGram},
	} {
		s, line, e := Parse(c.text)
		must(t, fmt.Sprintf("Parse(%.60q)", c.text), told(s, line, e), told(api.Setup{}, c.line, c.e))
	}
}

// Promise 25.1: how deep it may be.
func TestFuel(t *testing.T) {
	nots := func(n int, then string) string { return "policy p { if " + strings.Repeat("not ", n) + then }
	ifs := func(n int, then string) string {
		return "policy p {" + strings.Repeat(" if path has 1 {", n) + then + strings.Repeat("}", n) + "}"
	}
	for _, c := range []struct {
		text string
		ok   bool
		line int
	}{
		{nots(24, "path has 1 {} }"), true, 0}, {nots(25, "path has 1 {} }"), false, 1}, {nots(24, "\n(path has 1) {} }"), false, 2}, {nots(23, "(path has 1) {} }"), true, 0},
		{ifs(24, ""), true, 0}, {ifs(25, ""), false, 1}, {ifs(24, "\nif path has 1 \n{} "), false, 3}, {ifs(24, "if\nnot path has 1 {} "), false, 2}, {ifs(23, "if not path has 1 and not path has 2 {} else {}"), true, 0},
		{ifs(23, "if path has 1 {} else { if path has 1\n{} }"), false, 2},
	} {
		_, line, e := Parse(c.text)
		want := api.ErrGram
		if c.ok {
			want = api.OK
		}
		must(t, c.text, []any{line, e}, []any{c.line, want})
	}
}

// right is a configuration that is right, changed.
func right(f func(s *api.Setup)) api.Setup {
	s, _, _ := Parse(head + "policy p { prepend 1 1; if prefix in 10.0.0.0/8 {} } peer a 10.0.0.2 as 1 in p out p; peer b 10.0.0.3 as 2;")
	f(&s)
	return s
}

// Promise 25.1: Check.
func TestCheck(t *testing.T) {
	stmt := func(x api.Stmt) func(s *api.Setup) {
		return func(s *api.Setup) { s.Policies[0].L = []api.Stmt{x} }
	}
	long := api.Cond{Op: 4, N: 33}
	for i, c := range []struct {
		f  func(s *api.Setup)
		ok bool
	}{
		{func(s *api.Setup) {}, true}, {func(s *api.Setup) { s.AS = 0 }, false}, {func(s *api.Setup) { s.Router = 0 }, false}, {func(s *api.Setup) { s.Hold = 0 }, true}, {func(s *api.Setup) { s.Hold = 2 }, false}, {func(s *api.Setup) { s.Hold = 65536 }, false}, {func(s *api.Setup) { s.Hold = -1 }, false},
		{func(s *api.Setup) { s.Retry = 0 }, false}, {func(s *api.Setup) { s.Retry = 100001 }, false}, {func(s *api.Setup) { s.Graceful = 4096 }, false}, {func(s *api.Setup) { s.Graceful = -1 }, false},
		{func(s *api.Setup) { s.Policies = append(s.Policies, api.Policy{Name: "p"}) }, false}, {func(s *api.Setup) { s.Policies = append(s.Policies, api.Policy{Name: "q"}) }, true},
		{func(s *api.Setup) { s.Peers[1].Name = "a" }, false}, {func(s *api.Setup) { s.Peers[1].Addr = s.Peers[0].Addr }, false}, {func(s *api.Setup) { s.Peers[1].Addr = 0 }, false}, {func(s *api.Setup) { s.Peers[1].Addr = s.Router }, false}, {func(s *api.Setup) { s.Peers[1].AS = 0 }, false},
		{func(s *api.Setup) { s.Peers[1].Max = -1 }, false}, {func(s *api.Setup) { s.Peers[1].Max = 4096 }, true}, {func(s *api.Setup) { s.Peers[1].Max = 4097 }, false}, {func(s *api.Setup) { s.Peers[1].In = "x" }, false}, {func(s *api.Setup) { s.Peers[1].Out = "x" }, false},
		{stmt(api.Stmt{Op: 4, M: 1}), false}, {stmt(api.Stmt{Op: 4, N: 1}), false}, {stmt(api.Stmt{Op: 4, N: 1, M: 11}), false}, {stmt(api.Stmt{Op: 4, N: 1, M: 10}), true}, {stmt(api.Stmt{Op: 5, M: 99}), true},
		{stmt(api.Stmt{If: long}), false}, {stmt(api.Stmt{If: api.Cond{Op: 77, L: []api.Cond{long}}}), false}, {stmt(api.Stmt{Op: 9, Then: []api.Stmt{{Op: 4}}}), false}, {stmt(api.Stmt{Op: 9, Else: []api.Stmt{{If: long}}}), false}, {stmt(api.Stmt{If: api.Cond{Op: 4, N: 7, Prefix: api.Prefix{Len: 8}}}), false}, {stmt(api.Stmt{If: api.Cond{Op: 4, N: 8, Prefix: api.Prefix{Len: 8}}}), true},
	} {
		e := Check(right(c.f))
		must(t, fmt.Sprint("Check ", i), e == api.OK, c.ok)
	}
	must(t, "33 policies", Check(right(func(s *api.Setup) {
		for i := range 32 {
			s.Policies = append(s.Policies, api.Policy{Name: fmt.Sprint("x", i)})
		}
	})), api.ErrArg)
	must(t, "17 peers", Check(right(func(s *api.Setup) {
		for i := range 15 {
			s.Peers = append(s.Peers, api.Peer{Name: fmt.Sprint("x", i), Addr: api.Addr(i + 1), AS: 1})
		}
	})), api.ErrArg)
}

// Promise 25.2.
func TestPrint(t *testing.T) {
	s, _, _ := Parse(full)
	text, e := Print(s)
	must(t, "Print", []any{text, e}, []any{printed, api.OK})
	s, _, _ = Parse(head)
	text, e = Print(s)
	must(t, "Print of little", []any{text, e}, []any{"system 65000 ; router 10.0.0.1 ; hold 90 ; retry 30 ;", api.OK})
	test := api.Cond{Op: 6, N: 1}
	cond := func(c api.Cond) func(s *api.Setup) {
		return func(s *api.Setup) { s.Policies[0].L = []api.Stmt{{Op: 1, If: c}} }
	}
	deep := test
	for range 25 {
		deep = api.Cond{Op: 3, L: []api.Cond{deep}}
	}
	many := make([]api.Stmt, 4096)
	for i := range many {
		many[i].Op = 2
	}
	for i, f := range []func(s *api.Setup){
		func(s *api.Setup) { s.AS = 0 }, func(s *api.Setup) { s.Peers[0].Name = "a b" }, func(s *api.Setup) { s.Peers[0].Name = "" }, func(s *api.Setup) { s.Peers[0].Name = "9" }, func(s *api.Setup) { s.Policies[0].Name = "p { } policy q" },
		func(s *api.Setup) { s.Policies[0].L = []api.Stmt{{Op: 2, N: 1}} }, func(s *api.Setup) { s.Policies[0].L = []api.Stmt{{Op: 10}} }, func(s *api.Setup) { s.Policies[0].L = []api.Stmt{{}} }, func(s *api.Setup) { s.Policies[0].L = []api.Stmt{{Op: 5, N: -1}} }, func(s *api.Setup) { s.Policies[0].L = []api.Stmt{{Op: 7, N: 1 << 32}} },
		cond(api.Cond{}), cond(api.Cond{Op: 13}), cond(api.Cond{Op: 1}), cond(api.Cond{Op: 2, L: []api.Cond{test}}), cond(api.Cond{Op: 3}), cond(api.Cond{Op: 3, L: []api.Cond{test, test}}), cond(api.Cond{Op: 6, N: 1, L: []api.Cond{test}}), cond(api.Cond{Op: 11, N: 3}),
		cond(api.Cond{Op: 5, Prefix: api.Prefix{Addr: 1}}), cond(api.Cond{Op: 1, N: 1, L: []api.Cond{test, test}}), cond(deep), func(s *api.Setup) { s.Policies[0].L = many },
	} {
		text, e := Print(right(f))
		must(t, fmt.Sprint("Print ", i), []any{text, e}, []any{"", api.ErrArg})
	}
}

func someCond(r *rand.Rand, deep int) api.Cond {
	op := 1 + r.Intn(12)
	if deep == 0 && op < 4 {
		op += 5
	}
	c := api.Cond{Op: op}
	switch op {
	case 1, 2:
		for range 2 + r.Intn(2) {
			c.L = append(c.L, someCond(r, deep-1))
		}
	case 3:
		c.L = []api.Cond{someCond(r, deep-1)}
	case 4, 5:
		c.Prefix.Len = r.Intn(33)
		c.Prefix.Addr = api.Addr(r.Uint32()) & (^api.Addr(0) << (32 - c.Prefix.Len))
		if op == 4 {
			c.N = c.Prefix.Len + r.Intn(33-c.Prefix.Len)
		}
	case 11:
		c.N = r.Intn(3)
	default:
		c.N = int(r.Uint32())
	}
	return c
}

func someStmts(r *rand.Rand, deep int) []api.Stmt {
	var l []api.Stmt
	for range r.Intn(4) {
		s := api.Stmt{Op: 1 + r.Intn(9)}
		switch s.Op {
		case 1:
			if deep == 0 {
				s.Op = 2
				break
			}
			s.If, s.Then, s.Else = someCond(r, 3), someStmts(r, deep-1), someStmts(r, deep-1)
		case 4:
			s.N, s.M = 1+int(r.Uint32()/2), 1+r.Intn(10)
		case 5, 6, 7, 8:
			s.N = int(r.Uint32())
		}
		l = append(l, s)
	}
	return l
}

// Promises 25.3 and 25.4.
func TestBack(t *testing.T) {
	r := rand.New(rand.NewSource(1))
	for range 500 {
		s := right(func(s *api.Setup) { s.Policies[0].L = someStmts(r, 3) })
		text, e := Print(s)
		must(t, "Print", []any{e, strings.Contains(text, "\n")}, []any{api.OK, false})
		back, _, e := Parse(text)
		must(t, "it is read as it was", []any{sameSetup(back, s), e}, []any{true, api.OK})
		again, _ := Print(back)
		must(t, "printed again", again, text)
	}
}

package serve

import (
	"fmt"
	"math"
	"math/rand"
	"slices"
	"strings"
	"testing"

	"pointsman/api"
	"pointsman/attr"
	"pointsman/best"
	"pointsman/code"
	"pointsman/gram"
	"pointsman/mark"
	"pointsman/note"
	"pointsman/open"
	"pointsman/path"
	"pointsman/run"
	"pointsman/upd"
	"pointsman/view"
)

func must(t *testing.T, what string, got, want any) {
	t.Helper()
	if g, w := fmt.Sprintf("%+v", got), fmt.Sprintf("%+v", want); g != w {
		t.Errorf("%s: %s, want %s", what, g, w)
	}
}

const head = "system 65000; router 10.0.0.1; retry 5; graceful 60; "

const three = head + "peer a 10.0.0.2 as 65001 waits; peer b 10.0.0.3 as 65002 waits; peer c 10.0.0.4 as 65003 waits;"

func setup(t *testing.T, text string) api.Setup {
	t.Helper()
	s, line, e := gram.Parse(text)
	must(t, "Parse", []any{line, e}, []any{0, api.OK})
	return s
}

func server(t *testing.T, text string) *Server {
	t.Helper()
	s, e := New(setup(t, text))
	must(t, "New", e, api.OK)
	return s
}

func pfx(s string) api.Prefix {
	p, e := upd.Parse(s)
	if e != api.OK {
		panic(s)
	}
	return p
}

func msg(kind int, body []byte) []byte {
	b, e := mark.Build(kind, body)
	if e != api.OK {
		panic(e)
	}
	return b
}

// hello is the OPEN of a peer, by its place.
func hello(peer int, f func(o *api.Open)) []byte {
	o := api.Open{AS: uint32(65001 + peer), Hold: 90, ID: api.Addr(100 + peer), Multi: true, Four: true, Refresh: true, Graceful: true, Time: 10, Keeps: true}
	f(&o)
	b, e := open.Build(o)
	if e != api.OK {
		panic(e)
	}
	return msg(1, b)
}

func same(*api.Open) {}

func keep() []byte { return msg(4, nil) }

// bears is what a route of a peer bears, with a path.
func bears(next api.Addr, as ...uint32) api.Attrs {
	return api.Attrs{Path: []api.Segment{{AS: as}}, Next: next}
}

func tell(a api.Attrs, l ...string) []byte {
	u := api.Update{Attrs: a}
	for _, s := range l {
		u.Told = append(u.Told, pfx(s))
	}
	b, e := upd.Build(u, true)
	if e != api.OK {
		panic(e)
	}
	return msg(2, b)
}

func withdraw(l ...string) []byte {
	u := api.Update{}
	for _, s := range l {
		u.Withdrawn = append(u.Withdrawn, pfx(s))
	}
	b, _ := upd.Build(u, true)
	return msg(2, b)
}

// text tells shortly what goes out.
func text(l []Out) string {
	var words []string
	for _, o := range l {
		w := fmt.Sprint(o.Peer, ".", o.Track, []string{"", "dial", "drop", ""}[o.Kind])
		if o.Kind == 3 {
			m, _, ok := mark.New().Feed(o.B)
			if !ok || len(m) != 1 {
				return "what can't be read"
			}
			w += []string{"", "OPEN", "", "NOTE", "KEEP", "REFRESH"}[m[0].Kind]
			if m[0].Kind == 2 {
				w += body(m[0].Body)
			}
			if f, _ := note.Read(m[0].Body); m[0].Kind == 3 {
				w += fmt.Sprintf("(%d,%d)", f.Code, f.Sub)
			}
		}
		words = append(words, w)
	}
	return strings.Join(words, " ")
}

func body(b []byte) string {
	u, _, ok := upd.Read(b, true)
	if !ok {
		return "what can't be read"
	}
	if upd.End(u) {
		return "END"
	}
	w := ""
	for _, p := range u.Withdrawn {
		w += "-" + upd.Text(p)
	}
	for _, p := range u.Told {
		w += "+" + upd.Text(p)
	}
	if len(u.Told) > 0 {
		s, _ := path.Text(u.Attrs.Path)
		w += fmt.Sprintf("[%s|%d]", s, u.Attrs.Next)
	}
	return w
}

// up establishes a peer on track 1.
func up(t *testing.T, s *Server, now, peer int, f func(o *api.Open)) string {
	t.Helper()
	_, e := s.Up(now, peer, 1)
	must(t, "Up", e, api.OK)
	l, e := s.Bytes(now, peer, 1, append(hello(peer, f), keep()...))
	must(t, "established", []any{e, s.State(peer)}, []any{api.OK, 5})
	return text(l)
}

func bytes(t *testing.T, s *Server, now, peer int, b ...[]byte) string {
	t.Helper()
	l, e := s.Bytes(now, peer, 1, slices.Concat(b...))
	must(t, "Bytes", e, api.OK)
	return text(l)
}

func TestExample(t *testing.T) {
	s := server(t, three)
	s.Start(0)
	must(t, "the first one", up(t, s, 0, 0, same), "0.1KEEP 0.1END")
	must(t, "the second one", up(t, s, 0, 1, same), "1.1KEEP 1.1END")
	must(t, "the first one tells", bytes(t, s, 60, 0, tell(bears(7, 65001), "10.0.0.0/8")), "1.1+10.0.0.0/8[65001|7]")
}

// Promise 35.1: New, and errors.
func TestNew(t *testing.T) {
	x := setup(t, head+"policy p { prepend 65000 1; } peer a 10.0.0.2 as 65001 out p;")
	_, e := New(api.Setup{})
	must(t, "a configuration that is not right", e, api.ErrArg)
	x.Policies[0].L[0].M = 77
	_, e = New(x)
	must(t, "ErrArg ahead of ErrCode", e, api.ErrArg)
	x.Policies[0].L[0] = api.Stmt{Op: 99}
	_, e = New(x)
	must(t, "a policy that is not right", e, api.ErrCode)
	x.Policies[0].L = make([]api.Stmt, 5000)
	for i := range x.Policies[0].L {
		x.Policies[0].L[i].Op = 2
	}
	_, e = New(x)
	must(t, "a table that is too long", e, api.ErrCode)
	s := server(t, three)
	for _, peer := range []int{-1, 3, math.MaxInt} {
		_, e1 := s.Stop(9, peer)
		_, e2 := s.Begin(9, peer)
		_, e3 := s.Up(9, peer, 0)
		_, e4 := s.Gone(9, peer, 0)
		_, e5 := s.Bytes(9, peer, 0, nil)
		_, e6 := s.Refresh(9, peer)
		must(t, "a peer that there is not", []any{e1, e2, e3, e4, e5, e6}, []any{api.ErrNone, api.ErrNone, api.ErrNone, api.ErrNone, api.ErrNone, api.ErrNone})
		_, _, in := s.In(peer, pfx("1.0.0.0/8"))
		_, wanted := s.Wanted(peer, pfx("1.0.0.0/8"))
		_, said := s.Said(peer, pfx("1.0.0.0/8"))
		a, b := s.Counts(peer, 1)
		must(t, "nothing", []any{s.State(peer), in, wanted, said, len(s.Table(peer)), len(s.View(peer)), a, b, s.Dump(peer)}, []any{0, false, false, false, 0, 0, 0, 0, ""})
	}
	must(t, "its time does not count", text(s.Start(3))+due(s), "53 true")
	for _, s := range []*Server{nil, {}} {
		_, e1 := s.Stop(9, 7)
		_, e2 := s.Begin(9, 7)
		_, e3 := s.Up(9, 7, 0)
		_, e4 := s.Gone(9, 7, 0)
		_, e5 := s.Bytes(9, 7, 0, nil)
		_, e6 := s.Refresh(9, 7)
		_, e7 := s.Reload(9, api.Setup{})
		must(t, "of no server", []any{e1, e2, e3, e4, e5, e6, e7, len(s.Start(0)), len(s.Tick(0)), s.State(0), s.Drained(), due(s), s.Dump(0), s.Find(1)}, []any{api.ErrNil, api.ErrNil, api.ErrNil, api.ErrNil, api.ErrNil, api.ErrNil, api.ErrNil, 0, 0, 0, true, "0 false", "", -1})
	}
	s = server(t, head)
	must(t, "without peers", []any{len(s.Start(0)), len(s.Tick(0)), s.Drained(), due(s)}, []any{0, 0, true, "0 false"})
}

func due(s *Server) string {
	at, ok := s.Due()
	return fmt.Sprint(at, ok)
}

// Promise 35.1: sessions.
func TestSessions(t *testing.T) {
	s := server(t, head+"peer a 10.0.0.2 as 65001; peer b 10.0.0.3 as 65002 waits;")
	must(t, "Start", []any{text(s.Start(7)), s.State(0), s.State(1), due(s)}, []any{"0.0dial", 1, 2, "57 true"})
	must(t, "Tick", []any{text(s.Tick(57)), due(s)}, []any{"0.0drop 0.0dial", "107 true"})
	l, e := s.Up(60, 0, 0)
	must(t, "Up", []any{text(l), e}, []any{"0.0OPEN", api.OK})
	l, e = s.Up(60, 0, 9)
	must(t, "a track that there is not", []any{text(l), e}, []any{"", api.OK})
	l, _ = s.Bytes(60, 0, 1, hello(0, same))
	must(t, "bytes of a track that is none", text(l), "")
	b := hello(0, same)
	l, _ = s.Bytes(60, 0, 0, b[:20])
	must(t, "a piece", text(l), "")
	l, _ = s.Bytes(60, 0, 0, append(b[20:], msg(3, []byte{6, 2})...))
	must(t, "messages, as long as there is a track", []any{text(l), s.State(0)}, []any{"0.0KEEP 0.0drop", 2})
	in, out := s.Counts(0, 1)
	in3, _ := s.Counts(0, 3)
	_, out4 := s.Counts(0, 4)
	must(t, "Counts", []int{in, out, in3, out4}, []int{1, 1, 1, 1})
	l, _ = s.Stop(61, 0)
	must(t, "Stop", []any{text(l), s.State(0)}, []any{"", 0})
	l, _ = s.Begin(62, 0)
	must(t, "Begin", []any{text(l), s.State(0)}, []any{"0.0dial", 1})
	s.Up(62, 0, 0)
	l, _ = s.Bytes(62, 0, 0, append(append(hello(0, same), keep()...), make([]byte, 19)...))
	must(t, "a fault", []any{text(l), s.State(0)}, []any{"0.0KEEP 0.0NOTE(1,1) 0.0drop", 2})
	s.Tick(112)
	s.Up(112, 0, 0)
	l, _ = s.Bytes(112, 0, 0, append(hello(0, same), keep()...))
	must(t, "its splitter began anew", []any{text(l), s.State(0)}, []any{"0.0KEEP 0.0END", 5})
	l, _ = s.Stop(113, 0)
	must(t, "Stop", text(l), "0.0NOTE(6,2) 0.0drop")
	must(t, "an earlier time", text(s.Tick(3)), "")
	must(t, "Find", []int{s.Find(0x0a000002), s.Find(0x0a000003), s.Find(0x0a000004)}, []int{0, 1, -1})
}

// Promise 35.1: routes, the pacer, and what is due.
func TestRoutes(t *testing.T) {
	s := server(t, three)
	s.Start(0)
	for i := range 3 {
		up(t, s, 0, i, same)
	}
	must(t, "too early", []any{bytes(t, s, 10, 0, tell(bears(7, 65001), "11.0.0.0/8", "12.0.0.0/8")), s.Drained(), due(s)}, []any{"", false, "50 true"})
	w, ok := s.Wanted(1, pfx("11.0.0.0/8"))
	_, own := s.Wanted(0, pfx("11.0.0.0/8"))
	_, said := s.Said(1, pfx("11.0.0.0/8"))
	must(t, "wanted", []any{attr.Same(w, bears(7, 65001)), ok, own, said}, []any{true, true, false, false})
	must(t, "the gap is over", []any{text(s.Tick(50)), s.Drained()}, []any{"1.1+11.0.0.0/8+12.0.0.0/8[65001|7] 2.1+11.0.0.0/8+12.0.0.0/8[65001|7]", true})
	must(t, "a better one", []any{bytes(t, s, 100, 1, tell(bears(8, 65002), "11.0.0.0/8")), bytes(t, s, 150, 1, tell(bears(8, 65002, 5), "11.0.0.0/8"))}, []any{"0.1+11.0.0.0/8[65002|8]", "0.1+11.0.0.0/8[65002 5|8]"})
	must(t, "who is the least", bytes(t, s, 200, 0, withdraw("12.0.0.0/8", "11.0.0.0/8")), "1.1-11.0.0.0/8-12.0.0.0/8 2.1-12.0.0.0/8 2.1+11.0.0.0/8[65002 5|8]")
	must(t, "the server's system", bytes(t, s, 250, 1, tell(bears(8, 65002, 65000), "11.0.0.0/8")), "0.1-11.0.0.0/8 2.1-11.0.0.0/8")
	must(t, "a client's system", bytes(t, s, 300, 1, tell(bears(8, 65002, 65003), "11.0.0.0/8")), "0.1+11.0.0.0/8[65002 65003|8]")
	must(t, "Table and View", []any{s.Table(1), s.View(0), len(s.View(1)), s.View(2)}, []any{[]api.Prefix{pfx("11.0.0.0/8")}, []api.Prefix{pfx("11.0.0.0/8")}, 0, []api.Prefix{}})
	must(t, "Dump", []string{s.Dump(1), s.Dump(0)}, []string{"in 11.0.0.0/8 via 0.0.0.8 path 65002 65003\n", "out 11.0.0.0/8 via 0.0.0.8 path 65002 65003\n"})
	l, e := s.Refresh(350, 0)
	must(t, "Refresh", []any{text(l), e}, []any{"0.1+11.0.0.0/8[65002 65003|8]", api.OK})
	must(t, "a refresh", bytes(t, s, 400, 0, msg(5, note.Refresh())), "0.1+11.0.0.0/8[65002 65003|8]")
	l, _ = s.Stop(450, 1)
	must(t, "Stop", []any{text(l), s.Table(1)}, []any{"1.1NOTE(6,2) 1.1drop 0.1-11.0.0.0/8", []api.Prefix{}})
	must(t, "a bad update", []any{bytes(t, s, 460, 2, msg(2, []byte{0, 9, 0, 0})), s.State(2)}, []any{"2.1NOTE(3,1) 2.1drop", 2})
}

// Promises 35.1 and 35.9: limits.
func TestLimits(t *testing.T) {
	s := server(t, head+"peer a 10.0.0.2 as 65001 waits max 2; peer b 10.0.0.3 as 65002 waits max 4000; peer c 10.0.0.4 as 65003 waits;")
	s.Start(0)
	for i := range 3 {
		up(t, s, 0, i, same)
	}
	must(t, "no room", []any{bytes(t, s, 0, 0, tell(bears(7, 65001), "1.0.0.0/8", "2.0.0.0/8"), tell(bears(7, 65001), "3.0.0.0/8")), s.Table(0)}, []any{"0.1NOTE(6,1) 0.1drop", []api.Prefix{}})
	for peer := 1; peer < 3; peer++ {
		var l []string
		for i := range 121 {
			l = append(l, fmt.Sprintf("20.%d.0.0/16", i))
		}
		bytes(t, s, 0, peer, tell(bears(7, uint32(65001+peer)), l[:120]...))
		must(t, "as many as may be", []any{len(s.Table(peer)), s.State(peer)}, []any{120, 5})
		bytes(t, s, 0, peer, tell(bears(7, uint32(65001+peer)), l[120]))
		must(t, "one more", []any{len(s.Table(peer)), s.State(peer)}, []any{0, 2})
	}
}

// Promises 35.1 and 35.8: restarts.
func TestRestarts(t *testing.T) {
	begin := func(f func(o *api.Open)) *Server {
		s := server(t, three)
		s.Start(0)
		up(t, s, 0, 0, f)
		up(t, s, 0, 1, same)
		bytes(t, s, 50, 0, tell(bears(7, 65001), "11.0.0.0/8", "12.0.0.0/8"))
		return s
	}
	s := begin(same)
	l, _ := s.Gone(60, 0, 1)
	_, stale, ok := s.In(0, pfx("11.0.0.0/8"))
	must(t, "gracefully", []any{text(l), stale, ok, due(s), s.Dump(0)}, []any{"", true, true, "50 true", "in 11.0.0.0/8 via 0.0.0.7 path 65001 stale\nin 12.0.0.0/8 via 0.0.0.7 path 65001 stale\n"})
	must(t, "the window is over", []any{text(s.Tick(159)), text(s.Tick(160)), len(s.Table(0))}, []any{"", "1.1-11.0.0.0/8-12.0.0.0/8", 0})
	s = begin(same)
	s.Gone(60, 0, 1)
	must(t, "back", up(t, s, 70, 0, same), "0.1KEEP 0.1END")
	bytes(t, s, 120, 0, tell(bears(7, 65001), "12.0.0.0/8"))
	must(t, "the end", []any{bytes(t, s, 120, 0, withdraw()), s.Table(0)}, []any{"1.1-11.0.0.0/8", []api.Prefix{pfx("12.0.0.0/8")}})
	must(t, "there is no window", text(s.Tick(200)), "")
	s = begin(same)
	s.Gone(60, 0, 1)
	up(t, s, 110, 0, func(o *api.Open) { o.Keeps = false })
	must(t, "it did not keep", []any{len(s.Table(0)), s.Drained()}, []any{0, true})
	s = begin(same)
	s.Gone(60, 0, 1)
	up(t, s, 110, 0, func(o *api.Open) { o.Graceful, o.Time, o.Keeps = false, 0, false })
	must(t, "it is not graceful", len(s.Table(0)), 0)
	for i, f := range []func(o *api.Open){func(o *api.Open) { o.Time = 0 }, func(o *api.Open) { o.Graceful, o.Time, o.Keeps = false, 0, false }} {
		s = begin(f)
		s.Gone(60, 0, 1)
		must(t, fmt.Sprint("no window ", i), len(s.Table(0)), 0)
	}
	s = begin(same)
	bytes(t, s, 60, 0, msg(3, []byte{6, 2}))
	must(t, "not gracefully", len(s.Table(0)), 0)
	s = begin(same)
	up(t, s, 50, 2, same)
	bytes(t, s, 100, 2, tell(bears(9, 65003), "11.0.0.0/8"))
	s.Gone(100, 0, 1)
	up(t, s, 110, 0, func(o *api.Open) { o.ID = 5000 })
	w, _ := s.Wanted(1, pfx("11.0.0.0/8"))
	must(t, "who it says it is now", w.Next, 9)
}

// Promise 35.2.
func TestReload(t *testing.T) {
	const peers = "peer a 10.0.0.2 as 65001 waits; peer b 10.0.0.3 as 65002 waits"
	s := server(t, head+peers+";")
	s.Start(0)
	up(t, s, 0, 0, same)
	up(t, s, 0, 1, same)
	bytes(t, s, 50, 0, tell(bears(7, 65001), "11.0.0.0/8"))
	_, e := s.Reload(90, api.Setup{})
	must(t, "one that is not right", e, api.ErrArg)
	bad := setup(t, head+"system 7; policy p {}"+peers+";")
	bad.Policies[0].L = []api.Stmt{{Op: 77}}
	_, e = s.Reload(90, bad)
	must(t, "ErrCode ahead of what is otherwise", e, api.ErrCode)
	for _, x := range []string{"system 7;", "router 9.9.9.9;", "hold 7;", "retry 7;", "graceful 7;", "peer z 10.0.0.9 as 1;"} {
		_, e := s.Reload(90, setup(t, head+peers+";"+x))
		must(t, x, e, api.ErrArg)
	}
	for _, x := range []string{"peer b 10.0.0.3 as 65002 waits; peer a 10.0.0.2 as 65001 waits;", "peer a 10.0.0.2 as 65001; peer b 10.0.0.3 as 65002 waits;", "peer a 10.0.0.2 as 65001 waits max 5; peer b 10.0.0.3 as 65002 waits;", "peer a 10.0.0.2 as 65001 waits;"} {
		_, e := s.Reload(90, setup(t, head+x))
		must(t, x, e, api.ErrArg)
	}
	l, e := s.Reload(100, setup(t, head+"policy p { prepend 9 2; accept; }"+peers+" out p;"))
	must(t, "what goes out", []any{text(l), e}, []any{"1.1+11.0.0.0/8[9 9 65001|7]", api.OK})
	l, e = s.Reload(150, setup(t, head+"policy p { reject; } peer a 10.0.0.2 as 65001 waits in p; peer b 10.0.0.3 as 65002 waits;"))
	must(t, "what comes in", []any{text(l), e, s.Table(0)}, []any{"1.1-11.0.0.0/8", api.OK, []api.Prefix{pfx("11.0.0.0/8")}})
	l, _ = s.Reload(200, setup(t, head+peers+";"))
	must(t, "none", text(l), "1.1+11.0.0.0/8[65001|7]")
}

// scratch is what a peer wants of a prefix, computed from nothing but tables, configuration and OPENs.
func scratch(s *Server, x api.Setup, ids []api.Addr, peer int, p api.Prefix) (api.Attrs, bool) {
	table := func(name string) []api.Step {
		for _, q := range x.Policies {
			if q.Name == name {
				l, _ := code.Make(q)
				return l
			}
		}
		return nil
	}
	var l []best.Cand
	for i, q := range x.Peers {
		a, _, ok := s.In(i, p)
		if !ok || path.Has(a.Path, x.AS) {
			continue
		}
		if q.In != "" {
			if a, ok, _ = run.Play(table(q.In), p, a); !ok {
				continue
			}
		}
		l = append(l, best.Cand{Peer: i + 1, AS: q.AS, ID: ids[i], Addr: q.Addr, Attrs: a})
	}
	a, from := view.Choose(view.Client{Peer: peer + 1, AS: x.Peers[peer].AS, Out: table(x.Peers[peer].Out)}, p, l)
	return a, from >= 0
}

// Promises 35.5 to 35.7 and 35.9: whatever comes.
func TestWhatever(t *testing.T) {
	const policies = "policy p { if community 0:1 { reject; } local 50; med 7; accept; } policy q { if path has 9 { prepend 8 1; } if med above 3 { clear; } accept; }"
	texts := []string{
		three,
		head + policies + "peer a 10.0.0.2 as 65001 waits out p; peer b 10.0.0.3 as 65002 waits in q; peer c 10.0.0.4 as 65003 waits in p out q;",
	}
	for seed := range int64(40) {
		r := rand.New(rand.NewSource(seed))
		x := setup(t, texts[0])
		s, _ := New(x)
		heard := make([]map[api.Prefix]api.Attrs, 3)
		ids := make([]api.Addr, 3)
		now := 0
		hear := func(l []Out) {
			for _, o := range l {
				if o.Kind != 3 || o.B[18] != 2 {
					continue
				}
				u, _, _ := upd.Read(o.B[19:], true)
				for _, p := range u.Withdrawn {
					delete(heard[o.Peer], p)
				}
				for _, p := range u.Told {
					heard[o.Peer][p] = u.Attrs
				}
			}
		}
		hear(s.Start(0))
		for range 400 {
			now += r.Intn(20)
			peer := r.Intn(3)
			var l []Out
			switch k := r.Intn(20); {
			case s.State(peer) != 5:
				l, _ = s.Begin(now, peer)
				hear(l)
				l, _ = s.Up(now, peer, 1)
				hear(l)
				id := api.Addr(1 + r.Intn(50))
				heard[peer] = map[api.Prefix]api.Attrs{}
				l, _ = s.Bytes(now, peer, 1, append(hello(peer, func(o *api.Open) { o.ID, o.Keeps = id, r.Intn(2) == 0 }), keep()...))
				if s.State(peer) == 5 {
					ids[peer] = id
				}
			case k == 0:
				l, _ = s.Gone(now, peer, 1)
			case k == 1:
				l, _ = s.Stop(now, peer)
			case k == 2:
				l, _ = s.Refresh(now, peer)
			case k == 3:
				y := setup(t, texts[r.Intn(2)])
				l, _ = s.Reload(now, y)
				x = y
			case k == 4:
				l, _ = s.Bytes(now, peer, 1, withdraw())
			case k < 8:
				l, _ = s.Bytes(now, peer, 1, withdraw(fmt.Sprintf("%d.0.0.0/8", r.Intn(6))))
			case k < 16:
				a := bears(api.Addr(2+peer), uint32(65001+peer))
				for range r.Intn(3) {
					a.Path[0].AS = append(a.Path[0].AS, []uint32{9, 65000, 65001, 65002, 77}[r.Intn(5)])
				}
				a.Comms = make([]uint32, 0)
				if r.Intn(3) == 0 {
					a.Comms = append(a.Comms, uint32(r.Intn(3)))
				}
				a.HasMed, a.Med = r.Intn(2) == 0, uint32(r.Intn(6))
				l, _ = s.Bytes(now, peer, 1, append(tell(a, fmt.Sprintf("%d.0.0.0/8", r.Intn(6))), keep()...))
			default:
				l = s.Tick(now)
			}
			hear(l)
			for i := range 3 {
				for n := range 6 {
					p := pfx(fmt.Sprintf("%d.0.0.0/8", n))
					w, ok := s.Wanted(i, p)
					said, is := s.Said(i, p)
					if s.State(i) != 5 {
						must(t, "one that is down", []bool{ok, is}, []bool{false, false})
						continue
					}
					want, wants := scratch(s, x, ids, i, p)
					must(t, fmt.Sprint("seed ", seed, ": what a peer wants"), []any{w, ok}, []any{want, wants})
					h, has := heard[i][p]
					if is != has || !attr.Same(said, h) {
						t.Fatalf("seed %d: said %v, heard %v", seed, said, h)
					}
					if s.Drained() && (is != ok || !attr.Same(said, w)) {
						t.Fatalf("seed %d: drained, but not said", seed)
					}
					if has && (h.Next == api.Addr(2+i) || path.Has(h.Path, 65000)) {
						t.Fatalf("seed %d: its own, or with the server's system: %v", seed, h)
					}
				}
			}
			if t.Failed() {
				return
			}
		}
	}
}

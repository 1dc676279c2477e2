package tcp

import (
	"bytes"
	"fmt"
	"math"
	"math/rand"
	"testing"

	"pointsman/api"
	"pointsman/seg"
)

const here, there = api.Addr(0x0a000001), api.Addr(0x0a000002)

func must(t *testing.T, what string, got, want any) {
	t.Helper()
	if g, w := fmt.Sprint(got), fmt.Sprint(want); g != w {
		t.Errorf("%s: %s, want %s", what, g, w)
	}
}

// raw builds a segment from there to here.
func raw(s seg.Segment) []byte {
	b, _ := seg.Build(there, here, s)
	return b
}

// texts reads what goes out of here.
func texts(t *testing.T, l []Out) string {
	t.Helper()
	s := ""
	for _, o := range l {
		x, e := seg.Read(here, o.To, o.B)
		must(t, "the sum", e, api.OK)
		s += fmt.Sprintf("%d:%d %s %d %d %q;", x.From, x.To, seg.Flags(x), x.Seq, x.Ack, x.Data)
	}
	return s
}

// pair is two stacks of which each hears what the other one says.
func pair(t *testing.T) (*Stack, *Stack) {
	a, b := New(here, 7), New(there, 8)
	must(t, "Listen", b.Listen(179), api.OK)
	return a, b
}

// talk lets both hear each other until nobody speaks, and tells what happened to each.
func talk(t *testing.T, now int, a, b *Stack, l []Out) ([]Event, []Event) {
	t.Helper()
	var ea, eb []Event
	for len(l) > 0 {
		var back, more []Out
		for _, o := range l {
			m, e, err := b.Take(now, here, o.B)
			must(t, "Take", []any{err, o.To}, []any{api.OK, there})
			back, eb = append(back, m...), append(eb, e...)
		}
		for _, o := range back {
			m, e, err := a.Take(now, there, o.B)
			must(t, "Take", []any{err, o.To}, []any{api.OK, here})
			more, ea = append(more, m...), append(ea, e...)
		}
		l = more
	}
	return ea, eb
}

func TestExample(t *testing.T) {
	a, b := pair(t)
	id, l, e := a.Dial(0, there, 179)
	must(t, "Dial", []any{id, texts(t, l), e}, []any{1, `49153:179 S 64007 0 "";`, api.OK})
	l2, ev, _ := b.Take(0, here, l[0].B)
	must(t, "the SYN", []any{len(l2), ev}, []any{1, []Event{}})
	l3, ev, _ := a.Take(0, there, l2[0].B)
	must(t, "the SYN with ACK", []any{len(l3), ev}, []any{1, []Event{{1, 1}}})
	_, ev, _ = b.Take(0, here, l3[0].B)
	must(t, "the ACK", []any{ev, a.State(1), b.State(1)}, []any{[]Event{{1, 1}}, 3, 3})
}

// Promise 16.1: Listen and Dial.
func TestListenDial(t *testing.T) {
	s := New(here, 0)
	for _, p := range []int{-1, 0, 65536} {
		_, _, e := s.Dial(0, there, p)
		must(t, "a port", []any{s.Listen(p), e}, []any{api.ErrArg, api.ErrArg})
	}
	for p := range 8 {
		must(t, "Listen", s.Listen(p+1), api.OK)
	}
	must(t, "Listen", []any{s.Listen(8), s.Listen(9)}, []any{api.ErrSame, api.ErrFull})
	for i := range api.MaxConns {
		id, l, e := s.Dial(5, there, 1000)
		must(t, "Dial", []any{id, texts(t, l), e}, []any{i + 1, fmt.Sprintf("%d:1000 S %d 0 \"\";", 49153+i, 64000*(i+1)), api.OK})
	}
	_, _, e := s.Dial(9, there, 1000)
	must(t, "Dial of one more", e, api.ErrFull)
	_, _, e = s.Dial(4, there, 0)
	must(t, "Dial at an earlier time", e, api.ErrArg)
	l, ev, e := s.Abort(5, 3)
	must(t, "Abort", []any{len(l), ev, e, len(s.IDs())}, []any{0, []Event{{4, 3}}, api.OK, 15})
	id, _, e := s.Dial(5, there, 1000)
	must(t, "numbers rise", []any{id, e, s.State(17), s.State(3)}, []any{17, api.OK, 1, 0})
	s = New(here, math.MaxUint32)
	_, l, _ = s.Dial(0, there, 1)
	must(t, "the seed goes round", texts(t, l), `49153:1 S 63999 0 "";`)
}

// Promise 16.1: a port comes again, and a connection is known by it.
func TestSame(t *testing.T) {
	s := New(here, 0)
	s.Listen(49154)
	s.Dial(0, there, 7)
	s.Abort(0, 1)
	l, ev, e := s.Take(0, there, raw(seg.Segment{From: 7, To: 49154, Flags: 2}))
	must(t, "Take", []any{len(l), len(ev), e, s.IDs()}, []any{1, 0, api.OK, []int{2}})
	id, _, e := s.Dial(0, there, 7)
	must(t, "Dial", []any{id, e}, []any{3, api.OK})
	for s.begun < 16384+1 {
		id, _, _ := s.Dial(0, there, 9)
		s.Abort(0, id)
	}
	_, _, e = s.Dial(0, there, 7)
	must(t, "Dial of one that is known so", []any{e, s.begun}, []any{api.ErrSame, 16385})
	id, _, e = s.Dial(0, there, 8)
	must(t, "Dial", []any{id, e}, []any{16386, api.OK})
	a, p, q := s.Who(id)
	must(t, "Who", []any{a, p, q}, []any{there, 8, 49152 + 2})
}

// Promise 16.1: Take of what is of no connection.
func TestStrangers(t *testing.T) {
	s := New(here, 0)
	s.Listen(179)
	for _, c := range []struct {
		x    seg.Segment
		want string
		ids  int
	}{
		{seg.Segment{From: 5, To: 9, Seq: 3, Flags: 2}, `9:5 RA 0 4 "";`, 0},
		{seg.Segment{From: 5, To: 179, Ack: 3, Flags: 16}, `179:5 R 3 0 "";`, 0},
		{seg.Segment{From: 5, To: 179, Flags: 4}, "", 0},
		{seg.Segment{From: 5, To: 179, Flags: 6}, "", 0},
		{seg.Segment{From: 5, To: 179, Flags: 3}, `179:5 RA 0 2 "";`, 0},
		{seg.Segment{From: 5, To: 179, Flags: 2, Data: []byte{1}}, `179:5 RA 0 2 "";`, 0},
		{seg.Segment{From: 0, To: 179, Flags: 2}, `179:0 RA 0 1 "";`, 0},
		{seg.Segment{From: 5, To: 179, Seq: 9, Flags: 2}, `179:5 SA 64000 10 "";`, 1},
	} {
		l, ev, e := s.Take(0, there, raw(c.x))
		must(t, "Take", []any{texts(t, l), len(ev), e, len(s.IDs())}, []any{c.want, 0, api.OK, c.ids})
	}
	b := raw(seg.Segment{From: 5, To: 9, Flags: 2})
	b[0]++
	l, ev, e := s.Take(3, there, b)
	must(t, "no segment", []any{len(l), len(ev), e}, []any{0, 0, api.OK})
	_, _, e = s.Take(2, there, nil)
	must(t, "an earlier time", e, api.ErrArg)
	for i := range 20 {
		l, _, _ = s.Take(3, there, raw(seg.Segment{From: 100 + i, To: 179, Flags: 2}))
	}
	must(t, "more than may be", []any{len(l), len(s.IDs())}, []any{0, api.MaxConns})
}

// Promises 16.1 and 16.2: what happens, and in which order.
func TestEvents(t *testing.T) {
	a, b := pair(t)
	_, l, _ := a.Dial(0, there, 179)
	ea, eb := talk(t, 0, a, b, l)
	must(t, "open", []any{ea, eb}, []any{[]Event{{1, 1}}, []Event{{1, 1}}})
	n, l, e := a.Write(1, 1, []byte("hello"))
	must(t, "Write", []any{n, e}, []any{5, api.OK})
	ea, eb = talk(t, 1, a, b, l)
	must(t, "more to read", []any{ea, eb}, []any{[]Event{}, []Event{{2, 1}}})
	p, _, e := b.Read(1, 1, 2)
	must(t, "Read", []any{string(p), e}, []any{"he", api.OK})
	l, e = a.Shut(2, 1)
	must(t, "Shut", e, api.OK)
	ea, eb = talk(t, 2, a, b, l)
	must(t, "ended", []any{ea, eb, a.State(1), b.State(1)}, []any{[]Event{}, []Event{{3, 1}}, 5, 6})
	l, _ = b.Shut(3, 1)
	eb, ea = talk2(t, 3, b, a, l)
	must(t, "gone", []any{ea, eb, a.State(1), b.State(1)}, []any{[]Event{{3, 1}}, []Event{{4, 1}}, 9, 0})
	due, set := a.Due()
	must(t, "Due", []any{due, set}, []any{123, true})
	_, ea, e = a.Tick(123)
	_, set = a.Due()
	must(t, "Tick", []any{ea, e, len(a.IDs()), set}, []any{[]Event{{4, 1}}, api.OK, 0, false})

	a, b = pair(t)
	_, l, _ = a.Dial(0, there, 179)
	l, _, _ = b.Take(0, here, l[0].B)
	l, _, _ = a.Take(0, there, l[0].B)
	x, _ := seg.Read(here, there, l[0].B)
	x.Flags, x.Data = 17, []byte("all at once")
	all, _ := seg.Build(here, there, x)
	_, eb, _ = b.Take(0, here, all)
	must(t, "all at once", eb, []Event{{1, 1}, {2, 1}, {3, 1}})
	l, eb, e = b.Abort(0, 1)
	must(t, "Abort", []any{len(l), eb, e}, []any{1, []Event{{4, 1}}, api.OK})
	_, ea, _ = a.Take(0, there, l[0].B)
	must(t, "the other one", []any{ea, a.IDs()}, []any{[]Event{{4, 1}}, []int{}})
}

// talk2 is as talk, the other way round.
func talk2(t *testing.T, now int, b, a *Stack, l []Out) ([]Event, []Event) {
	var ea, eb []Event
	for len(l) > 0 {
		var back, more []Out
		for _, o := range l {
			m, e, _ := a.Take(now, there, o.B)
			back, ea = append(back, m...), append(ea, e...)
		}
		for _, o := range back {
			m, e, _ := b.Take(now, here, o.B)
			more, eb = append(more, m...), append(eb, e...)
		}
		l = more
	}
	return eb, ea
}

// Promise 16.2: errors; and rule 2.
func TestErrors(t *testing.T) {
	s := New(here, 0)
	id, _, _ := s.Dial(5, there, 179)
	for _, now := range []int{-1, 4, api.MaxTick + 1} {
		_, _, e1 := s.Write(now, 9, nil)
		_, _, e2 := s.Read(now, 9, -1)
		_, e3 := s.Shut(now, 9)
		_, _, e4 := s.Abort(now, 9)
		_, _, e5 := s.Tick(now)
		_, _, e6 := s.Take(now, there, nil)
		must(t, "a time", []any{e1, e2, e3, e4, e5, e6}, []any{api.ErrArg, api.ErrArg, api.ErrArg, api.ErrArg, api.ErrArg, api.ErrArg})
	}
	_, _, e1 := s.Write(9, 9, nil)
	_, _, e2 := s.Read(9, 9, -1)
	_, e3 := s.Shut(9, 9)
	_, _, e4 := s.Abort(9, 0)
	must(t, "no connection", []any{e1, e2, e3, e4}, []any{api.ErrNone, api.ErrNone, api.ErrNone, api.ErrNone})
	_, _, e1 = s.Write(5, id, nil)
	_, _, e2 = s.Read(6, id, -1)
	_, e3 = s.Shut(7, id)
	must(t, "the connection refuses", []any{e1, e2, e3}, []any{api.ErrState, api.ErrArg, api.ErrState})
	_, _, e1 = s.Tick(6)
	must(t, "that time counts", e1, api.ErrArg)
	a, p, q := s.Who(9)
	must(t, "Who of none", []any{a, p, q}, []any{0, 0, 0})
	for _, s := range []*Stack{nil, {}} {
		_, _, e1 := s.Write(-1, 9, nil)
		_, _, e2 := s.Read(-1, 9, -1)
		_, e3 := s.Shut(-1, 9)
		_, _, e4 := s.Abort(-1, 9)
		_, _, e5 := s.Tick(-1)
		_, _, e6 := s.Take(-1, there, nil)
		_, _, e7 := s.Dial(-1, there, 0)
		a, p, q := s.Who(1)
		_, set := s.Due()
		must(t, "of no stack", []any{e1, e2, e3, e4, e5, e6, e7, s.Listen(0), s.State(1), a, p, q, s.IDs(), set}, []any{api.ErrNil, api.ErrNil, api.ErrNil, api.ErrNil, api.ErrNil, api.ErrNil, api.ErrNil, api.ErrNil, 0, 0, 0, 0, []int{}, false})
	}
}

// Promises 16.3 to 16.5.
func TestApart(t *testing.T) {
	r := rand.New(rand.NewSource(1))
	a, b := pair(t)
	var ids []int
	got, sent := map[int][]byte{}, map[int][]byte{}
	for range 6 {
		id, l, _ := a.Dial(0, there, 179)
		talk(t, 0, a, b, l)
		ids = append(ids, id)
	}
	for now := range 400 {
		id := ids[r.Intn(len(ids))]
		p := make([]byte, r.Intn(900))
		r.Read(p)
		n, l, _ := a.Write(now, id, p)
		sent[id] = append(sent[id], p[:n]...)
		talk(t, now, a, b, l)
		for _, id := range b.IDs() {
			p, back, _ := b.Read(now, id, 5000)
			got[id] = append(got[id], p...)
			for _, o := range back {
				l, _, _ := a.Take(now, there, o.B)
				talk(t, now, a, b, l)
			}
		}
	}
	for _, id := range ids {
		if !bytes.HasPrefix(sent[id], got[id]) || len(got[id]) == 0 {
			t.Errorf("connection %d: %d bytes of %d", id, len(got[id]), len(sent[id]))
		}
	}
	a.Abort(400, ids[2])
	must(t, "one is gone", []any{len(a.IDs()), a.State(ids[2]), a.State(ids[3])}, []any{5, 0, 3})
}

package conn

import (
	"bytes"
	"fmt"
	"math"
	"math/rand"
	"testing"

	"pointsman/api"
	"pointsman/seg"
)

func must(t *testing.T, what string, got, want any) {
	t.Helper()
	if g, w := fmt.Sprint(got), fmt.Sprint(want); g != w {
		t.Errorf("%s: %s, want %s", what, g, w)
	}
}

// text tells segments shortly: flags, number, acknowledgement, window, data.
func text(l []seg.Segment) string {
	s := ""
	for _, x := range l {
		s += fmt.Sprintf("%s %d %d %d %q;", seg.Flags(x), x.Seq, x.Ack, x.Window, x.Data)
	}
	return s
}

func take(t *testing.T, c *Conn, now int, s seg.Segment, want string, e api.Errno) []seg.Segment {
	t.Helper()
	l, err := c.Take(now, s)
	must(t, fmt.Sprintf("Take %s %d %d", seg.Flags(s), s.Seq, s.Ack), []any{text(l), err}, []any{want, e})
	return l
}

func state(t *testing.T, c *Conn, want int) {
	t.Helper()
	must(t, "State", c.State(), want)
}

func due(c *Conn) string {
	d, ok := c.Due()
	return fmt.Sprint(d, ok)
}

// s makes a segment of the other side, whose first number is 500; the connection's is 100.
func s(flags int, at, ackn uint32, window int, data string) seg.Segment {
	return seg.Segment{From: 2, To: 1, Seq: at, Ack: ackn, Flags: flags, Window: window, Data: []byte(data)}
}

// open gives a connection that is established at 0.
func open(t *testing.T, window int) *Conn {
	t.Helper()
	c, _, _ := Dial(0, 1, 2, 100)
	take(t, c, 0, s(syn|ack, 500, 101, window, ""), `A 101 501 4096 "";`, api.OK)
	return c
}

func TestExample(t *testing.T) {
	a, l, e := Dial(0, 1, 2, 100)
	must(t, "Dial", []any{text(l), e}, []any{`S 100 0 4096 "";`, api.OK})
	b, m, e := Accept(0, l[0], 500)
	must(t, "Accept", []any{text(m), e, m[0].Greatest}, []any{`SA 500 101 4096 "";`, api.OK, 1460})
	l = take(t, a, 0, m[0], `A 101 501 4096 "";`, api.OK)
	state(t, a, 3)
	take(t, b, 0, l[0], "", api.OK)
	state(t, b, 3)
}

// Promise 15.1: Dial and Accept.
func TestBegin(t *testing.T) {
	for _, c := range [][3]int{{-1, 1, 1}, {api.MaxTick + 1, 1, 1}, {0, 0, 1}, {0, 65536, 1}, {0, 1, 0}, {0, 1, 65536}} {
		d, l, e := Dial(c[0], c[1], c[2], 0)
		must(t, "Dial", []any{d == nil, text(l), e}, []any{true, "", api.ErrArg})
	}
	c, l, e := Dial(7, 1, 2, math.MaxUint32)
	must(t, "Dial", []any{e, l[0].Greatest, l[0].From, l[0].To, due(c)}, []any{api.OK, 1460, 1, 2, "37 true"})
	p, q := c.Ports()
	must(t, "Ports", []int{p, q}, []int{1, 2})
	good := seg.Segment{From: 2, To: 1, Seq: 9, Flags: syn}
	for i, f := range []func(s *seg.Segment){
		func(s *seg.Segment) { s.From = 0 }, func(s *seg.Segment) { s.To = 0 }, func(s *seg.Segment) { s.To = 65536 },
		func(s *seg.Segment) { s.Flags = 0 }, func(s *seg.Segment) { s.Flags = syn | ack }, func(s *seg.Segment) { s.Flags = syn | rst }, func(s *seg.Segment) { s.Flags = syn | fin },
		func(s *seg.Segment) { s.Flags = 64 | syn }, func(s *seg.Segment) { s.Data = []byte{1} }, func(s *seg.Segment) { s.Window = -1 },
	} {
		bad := good
		f(&bad)
		c, l, e := Accept(0, bad, 5)
		must(t, fmt.Sprint("Accept ", i), []any{c == nil, text(l), e}, []any{true, "", api.ErrArg})
	}
	_, _, e = Accept(-1, good, 5)
	must(t, "Accept at -1", e, api.ErrArg)
	good.Flags |= psh
	c, l, e = Accept(3, good, 5)
	must(t, "Accept", []any{text(l), e, due(c), c.State()}, []any{`SA 5 10 4096 "";`, api.OK, "33 true", 2})
	p, q = c.Ports()
	must(t, "Ports", []int{p, q}, []int{1, 2})
}

// Promise 15.1: a segment in syn sent.
func TestSynSent(t *testing.T) {
	dial := func() *Conn { c, _, _ := Dial(0, 1, 2, 100); return c }
	c := dial()
	take(t, c, 0, s(ack|rst, 500, 77, 9, ""), "", api.OK)
	take(t, c, 0, s(ack|syn, 500, 77, 9, ""), `R 77 0 0 "";`, api.OK)
	take(t, c, 0, s(ack, 500, 101, 9, ""), "", api.OK)
	take(t, c, 0, s(rst, 500, 0, 9, ""), "", api.OK)
	take(t, c, 0, s(fin, 500, 0, 9, ""), "", api.OK)
	state(t, c, 1)
	take(t, c, 0, s(rst|ack, 500, 101, 9, ""), "", api.ErrReset)
	must(t, "closed", []any{c.State(), due(c)}, []any{0, "0 false"})
	take(t, c, 0, s(ack, 500, 101, 9, ""), "", api.ErrState)
	c = dial()
	take(t, c, 4, s(syn, 500, 0, 9, "x"), `SA 100 501 4096 "";`, api.OK)
	must(t, "syn received", []any{c.State(), due(c)}, []any{2, "30 true"})
	take(t, c, 5, s(ack, 501, 102, 9, ""), `R 102 0 0 "";`, api.OK)
	take(t, c, 5, s(ack, 501, 101, 9, "hi"), `A 101 503 4094 "";`, api.OK)
	must(t, "established", []any{c.State(), due(c), c.Ready()}, []any{3, "0 false", 2})
}

// Promise 15.1: a segment in the other states, step by step.
func TestHeard(t *testing.T) {
	c := open(t, 100)
	const wanted = `A 101 501 4096 "";`
	take(t, c, 0, s(ack, 500, 101, 9, "x"), wanted, api.OK)
	take(t, c, 0, s(ack, 501+4096, 101, 9, ""), wanted, api.OK)
	take(t, c, 0, s(rst, 500, 101, 9, ""), "", api.OK)
	take(t, c, 0, s(rst, 502, 101, 9, ""), wanted, api.OK)
	take(t, c, 0, s(syn|ack, 501, 101, 9, ""), wanted, api.OK)
	take(t, c, 0, s(psh, 501, 101, 9, "abc"), "", api.OK)
	take(t, c, 0, s(ack, 501, 102, 9, "abc"), wanted, api.OK)
	must(t, "not taken", c.Ready(), 0)
	take(t, c, 0, s(ack, 501, 100, 9, "ab"), `A 101 503 4094 "";`, api.OK)
	must(t, "an old acknowledgement counts for nothing", c.out.Window(), 100)
	take(t, c, 0, s(ack, 503, 101, 9, ""), "", api.OK)
	must(t, "the window is taken", c.out.Window(), 9)
	n, l, e := c.Write(0, []byte("hello"))
	must(t, "Write", []any{n, text(l), e, due(c)}, []any{5, `PA 101 503 4094 "hello";`, api.OK, "30 true"})
	take(t, c, 2, s(ack, 504, 104, 9, "d"), `A 106 503 4094 "";`, api.OK)
	must(t, "something new is acknowledged", []any{due(c), c.Queued()}, []any{"8 true", 2})
	take(t, c, 3, s(ack|fin, 503, 106, 9, "c"), `A 106 505 4092 "";`, api.OK)
	must(t, "data, of which one was held; the FIN is not next", []any{c.Ready(), due(c), c.State()}, []any{4, "0 false", 3})
	take(t, c, 3, s(ack|fin, 505, 106, 9, ""), `A 106 506 4092 "";`, api.OK)
	must(t, "its FIN", []any{c.State(), c.Ended()}, []any{6, false})
	take(t, c, 3, s(ack, 506, 106, 9, "x"), `A 106 506 4092 "";`, api.OK)
	must(t, "behind its FIN nothing counts", c.Ready(), 4)
	b, l, e := c.Read(3, 9)
	must(t, "Read", []any{string(b), text(l), e, c.Ended()}, []any{"abcd", "", api.OK, true})
	l, e = c.Shut(4)
	must(t, "Shut", []any{text(l), e, c.State(), due(c)}, []any{`FA 106 506 4096 "";`, api.OK, 8, "10 true"})
	take(t, c, 5, s(ack, 506, 107, 9, ""), "", api.OK)
	must(t, "closed", []any{c.State(), due(c)}, []any{0, "0 false"})
	c = open(t, 100)
	take(t, c, 0, s(rst, 501, 0, 0, ""), "", api.ErrReset)
	state(t, c, 0)
}

// Promise 15.1: how it ends, from this side.
func TestEnds(t *testing.T) {
	c := open(t, 100)
	l, e := c.Shut(0)
	must(t, "Shut", []any{text(l), e, c.State()}, []any{`FA 101 501 4096 "";`, api.OK, 4})
	take(t, c, 1, s(ack, 501, 102, 9, "ab"), `A 102 503 4094 "";`, api.OK)
	must(t, "fin wait 2", []any{c.State(), due(c)}, []any{5, "0 false"})
	take(t, c, 2, s(ack|fin, 503, 102, 9, "c"), `A 102 505 4093 "";`, api.OK)
	must(t, "time wait", []any{c.State(), due(c)}, []any{9, "122 true"})
	take(t, c, 3, s(ack|fin, 503, 102, 9, "c"), `A 102 505 4093 "";`, api.OK)
	must(t, "its timer stays", due(c), "122 true")
	l, e = c.Tick(121)
	must(t, "Tick at 121", []any{text(l), e, c.State()}, []any{"", api.OK, 9})
	l, e = c.Tick(122)
	must(t, "Tick at 122", []any{text(l), e, c.State()}, []any{"", api.OK, 0})
	b, _, e := c.Read(122, 9)
	must(t, "Read of one that is closed", []any{string(b), e, c.Ended()}, []any{"abc", api.OK, true})

	c = open(t, 100)
	c.Shut(0)
	take(t, c, 1, s(ack|fin, 501, 101, 9, ""), `A 102 502 4096 "";`, api.OK)
	state(t, c, 7)
	take(t, c, 1, s(ack, 502, 101, 9, ""), "", api.OK)
	state(t, c, 7)
	take(t, c, 2, s(ack, 502, 102, 9, ""), "", api.OK)
	must(t, "from closing to time wait", []any{c.State(), due(c)}, []any{9, "122 true"})

	c = open(t, 100)
	c.Shut(0)
	take(t, c, 2, s(ack|fin, 501, 102, 9, ""), `A 102 502 4096 "";`, api.OK)
	state(t, c, 9)
}

// Promise 15.1: what the timer does.
func TestTimer(t *testing.T) {
	c, _, _ := Dial(0, 1, 2, 100)
	now := 0
	for i := range 8 {
		d, _ := c.Due()
		must(t, "due", d, now+min(30<<i, 600))
		l, e := c.Tick(d - 1)
		must(t, "too early", []any{text(l), e}, []any{"", api.OK})
		l, e = c.Tick(d)
		must(t, "the SYN again", []any{text(l), e}, []any{`S 100 0 4096 "";`, api.OK})
		now = d
	}
	l, e := c.Tick(now + 600)
	must(t, "it gives up", []any{text(l), e, c.State(), due(c)}, []any{"", api.ErrReset, 0, "0 false"})
	l, e = c.Tick(now + 6000)
	must(t, "closed", []any{text(l), e}, []any{"", api.OK})

	c, _, _ = Accept(0, s(syn, 500, 0, 9, ""), 100)
	l, _ = c.Tick(40)
	must(t, "the SYN with ACK again", []any{text(l), l[0].Greatest, due(c)}, []any{`SA 100 501 4096 "";`, 1460, "100 true"})
	take(t, c, 41, s(ack, 501, 101, 9, ""), "", api.OK)
	c.Write(41, []byte("ab"))
	must(t, "not backed off any more", due(c), "71 true")
	l, _ = c.Tick(71)
	must(t, "data again", text(l), `PA 101 501 4096 "ab";`)
	c.Shut(72)
	must(t, "set already", due(c), "131 true")
	take(t, c, 80, s(ack, 501, 103, 9, ""), "", api.OK)
	must(t, "the FIN is open", due(c), "110 true")
	l, _ = c.Tick(110)
	must(t, "the FIN again", []any{text(l), due(c)}, []any{`FA 103 501 4096 "";`, "170 true"})

	c = open(t, 0)
	n, l, e := c.Write(0, []byte("ab"))
	must(t, "no window", []any{n, text(l), e, due(c)}, []any{2, "", api.OK, "30 true"})
	l, _ = c.Tick(30)
	must(t, "a probe", []any{text(l), due(c)}, []any{`PA 101 501 4096 "a";`, "60 true"})
	l, _ = c.Tick(60)
	must(t, "again", []any{text(l), due(c)}, []any{`PA 101 501 4096 "a";`, "120 true"})
	take(t, c, 61, s(ack, 501, 101, 0, ""), "", api.OK)
	l, _ = c.Tick(120)
	must(t, "with a window of 0 it is not backed off", []any{text(l), due(c)}, []any{`PA 101 501 4096 "a";`, "180 true"})
	take(t, c, 121, s(ack, 501, 102, 5, ""), `PA 102 501 4096 "b";`, api.OK)
}

// Promise 15.2, and the errors.
func TestWriteReadShutAbort(t *testing.T) {
	c, _, _ := Dial(5, 1, 2, 100)
	for _, now := range []int{4, -1, api.MaxTick + 1} {
		_, _, e1 := c.Write(now, nil)
		_, _, e2 := c.Read(now, 1)
		_, e3 := c.Shut(now)
		_, e4 := c.Abort(now)
		_, e5 := c.Tick(now)
		_, e6 := c.Take(now, s(syn, 1, 1, 1, ""))
		must(t, "a time", []any{e1, e2, e3, e4, e5, e6}, []any{api.ErrArg, api.ErrArg, api.ErrArg, api.ErrArg, api.ErrArg, api.ErrArg})
	}
	_, _, e1 := c.Write(9, nil)
	_, e2 := c.Shut(9)
	_, _, e3 := c.Read(9, -1)
	_, e4 := c.Take(9, seg.Segment{Flags: -1})
	must(t, "in syn sent", []any{e1, e2, e3, e4}, []any{api.ErrState, api.ErrState, api.ErrArg, api.ErrArg})
	b, _, e := c.Read(5, 1)
	must(t, "a refused call's time counts for nothing", []any{len(b), e}, []any{0, api.OK})
	l, e := c.Abort(5)
	must(t, "Abort in syn sent", []any{text(l), e, c.State()}, []any{"", api.OK, 0})
	l, e = c.Abort(5)
	must(t, "Abort of one that is closed", []any{text(l), e}, []any{"", api.OK})
	_, _, e1 = c.Write(5, nil)
	_, e2 = c.Shut(5)
	_, e3 = c.Take(5, seg.Segment{Flags: -1})
	must(t, "closed", []any{e1, e2, e3}, []any{api.ErrState, api.ErrState, api.ErrArg})

	c = open(t, 65535)
	n, l, e := c.Write(0, bytes.Repeat([]byte("x"), 5000))
	must(t, "Write of much", []any{n, len(l), len(l[0].Data), c.Queued(), e}, []any{4096, 8, 536, 4096, api.OK})
	l, _ = c.Abort(0)
	must(t, "Abort", text(l), `RA 4197 501 4096 "";`)
	must(t, "it has ports", fmt.Sprint(c.Ports()), "1 2")

	c = open(t, 100)
	for i := range 4 {
		c.Take(0, s(ack, 501+uint32(1024*i), 101, 9, string(bytes.Repeat([]byte("y"), 1024))))
	}
	take(t, c, 0, s(ack, 501+4096, 101, 9, "z"), `A 101 4597 0 "";`, api.OK)
	b, l, e = c.Read(0, 0)
	must(t, "Read of none", []any{len(b), text(l), e}, []any{0, "", api.OK})
	b, l, e = c.Read(0, 7)
	must(t, "Read where the window was 0", []any{len(b), text(l), e}, []any{7, `A 101 4597 7 "";`, api.OK})
	b, l, _ = c.Read(0, 7)
	must(t, "Read once more", []any{len(b), text(l)}, []any{7, ""})
	c.Shut(0)
	_, e = c.Shut(0)
	_, _, e2 = c.Write(0, nil)
	must(t, "shut", []any{e, e2}, []any{api.ErrState, api.ErrState})
}

// Promise 15.3: the greatest segment; and rule 2.
func TestGreatestAndNil(t *testing.T) {
	for _, g := range [][2]int{{0, 536}, {1, 1}, {1460, 1460}, {1461, 1460}, {65535, 1460}} {
		x := s(syn|ack, 500, 101, 65535, "")
		x.Greatest = g[0]
		c, _, _ := Dial(0, 1, 2, 100)
		c.Take(0, x)
		_, l, _ := c.Write(0, make([]byte, 2000))
		must(t, "the greatest segment", len(l[0].Data), g[1])
	}
	for _, c := range []*Conn{nil, {}} {
		_, e1 := c.Take(-1, seg.Segment{})
		_, e2 := c.Tick(-1)
		_, _, e3 := c.Write(-1, nil)
		_, _, e4 := c.Read(-1, -1)
		_, e5 := c.Shut(-1)
		_, e6 := c.Abort(-1)
		p, q := c.Ports()
		must(t, "of no connection", []any{e1, e2, e3, e4, e5, e6, c.State(), due(c), c.Ended(), c.Ready(), c.Queued(), p, q}, []any{api.ErrNil, api.ErrNil, api.ErrNil, api.ErrNil, api.ErrNil, api.ErrNil, 0, "0 false", false, 0, 0, 0, 0})
	}
}

// wire is a line that loses, doubles and turns round what goes over it.
type wire struct {
	r *rand.Rand
	l []seg.Segment
}

func (w *wire) put(l []seg.Segment, bad bool) {
	for _, x := range l {
		if bad && w.r.Intn(4) == 0 {
			continue
		}
		w.l = append(w.l, x)
		if bad && w.r.Intn(5) == 0 {
			w.l = append(w.l, x)
		}
	}
	if bad {
		w.r.Shuffle(len(w.l), func(i, j int) { w.l[i], w.l[j] = w.l[j], w.l[i] })
	}
}

// Promises 15.4 to 15.7.
func TestStream(t *testing.T) {
	for seed := range int64(60) {
		r := rand.New(rand.NewSource(seed))
		var c [2]*Conn
		var w [2]wire
		var l []seg.Segment
		w[0].r, w[1].r = r, r
		c[0], l, _ = Dial(0, 1, 2, r.Uint32())
		c[1], w[0].l, _ = Accept(0, l[0], r.Uint32())
		var wrote, read [2][]byte
		var shut [2]bool
		gaveUp := false
		for now := 0; now < 60000; now++ {
			bad := now < 3000
			for i := range 2 {
				l, e := c[i].Tick(now)
				gaveUp = gaveUp || e == api.ErrReset
				w[1-i].put(l, bad)
				if len(w[i].l) > 0 && (!bad || r.Intn(2) == 0) {
					x := w[i].l[0]
					w[i].l = w[i].l[1:]
					silent := c[i].State() == 0
					l, e := c[i].Take(now, x)
					if silent && (len(l) > 0 || e != api.ErrState) {
						t.Fatal("one that is closed speaks")
					}
					gaveUp = gaveUp || e == api.ErrReset
					w[1-i].put(l, bad)
				}
				if bad && r.Intn(20) == 0 {
					x := seg.Segment{From: 2 - i, To: 1 + i, Seq: c[i].wantedOr() + 5000 + uint32(r.Intn(1<<30)), Ack: r.Uint32(), Flags: ack | r.Intn(2)*rst, Data: []byte("made up")}
					l, _ := c[i].Take(now, x)
					w[1-i].put(l, bad)
				}
				if !shut[i] && r.Intn(10) == 0 && len(wrote[i]) < 20000 {
					b := make([]byte, r.Intn(3000))
					r.Read(b)
					n, l, _ := c[i].Write(now, b)
					wrote[i] = append(wrote[i], b[:n]...)
					w[1-i].put(l, bad)
				}
				if !bad && !shut[i] {
					l, e := c[i].Shut(now)
					shut[i] = e == api.OK
					w[1-i].put(l, bad)
				}
				if r.Intn(10) == 0 {
					b, l, _ := c[i].Read(now, r.Intn(5000))
					read[i] = append(read[i], b...)
					w[1-i].put(l, bad)
				}
				if !bytes.HasPrefix(wrote[1-i], read[i]) {
					t.Fatalf("seed %d: what is read is no beginning", seed)
				}
				if c[i].Ended() && !bytes.Equal(wrote[1-i], read[i]) {
					t.Fatalf("seed %d: it ended too early", seed)
				}
			}
			done := 0
			for i := range 2 {
				if s := c[i].State(); s == 0 || s == 9 {
					done++
				}
			}
			if done == 2 {
				break
			}
		}
		for i := range 2 {
			if s := c[i].State(); s != 0 && s != 9 {
				t.Fatalf("seed %d: in state %d in the end", seed, s)
			}
			if !gaveUp && (!c[i].finTaken || len(read[i])+c[i].Ready() != len(wrote[1-i])) {
				t.Fatalf("seed %d: not all came", seed)
			}
		}
	}
}

func (c *Conn) wantedOr() uint32 {
	if c.in == nil {
		return 0
	}
	return c.wanted()
}

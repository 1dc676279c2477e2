package host

import (
	"fmt"
	"math/rand"
	"slices"
	"strings"
	"testing"

	"pointsman/api"
	"pointsman/arp"
	"pointsman/eth"
	"pointsman/gram"
	"pointsman/icmp"
	"pointsman/ip"
	"pointsman/mark"
	"pointsman/open"
	"pointsman/path"
	"pointsman/seg"
	"pointsman/sum"
	"pointsman/tcp"
	"pointsman/upd"
)

func must(t *testing.T, what string, got, want any) {
	t.Helper()
	if g, w := fmt.Sprintf("%+v", got), fmt.Sprintf("%+v", want); g != w {
		t.Errorf("%s: %s, want %s", what, g, w)
	}
}

const (
	here = api.Addr(0x0a000001)
	head = "system 65000; router 10.0.0.1; retry 5; graceful 60; "
)

var me = api.Mac{2, 0, 0, 0, 0, 1}

func make1(t *testing.T, text string) *Host {
	t.Helper()
	s, _, e := gram.Parse(text)
	must(t, "Parse", e, api.OK)
	h, e := New(me, 7, s)
	must(t, "New", e, api.OK)
	must(t, "Start", h.Start(), api.OK)
	return h
}

// mac and addr are those of a speaker, by its place.
func mac(i int) api.Mac   { return api.Mac{2, 0, 0, 0, 1, byte(i)} }
func addr(i int) api.Addr { return here + 1 + api.Addr(i) }

func frame(from int, to api.Mac, kind uint16, data []byte) []byte {
	b, _ := eth.Build(eth.Frame{To: to, From: mac(from), Kind: kind, Data: data})
	return b
}

func ask(from int, to api.Addr) []byte {
	b, _ := arp.Build(arp.Message{Kind: 1, FromMac: mac(from), From: addr(from), To: to})
	return frame(from, eth.Everybody(), 0x0806, b)
}

func packet(from int, f func(p *ip.Packet)) []byte {
	p := ip.Packet{ID: 77, Life: 9, Kind: 17, From: addr(from), To: here, Data: []byte{1, 2, 3, 4, 5, 6, 7, 8, 9}}
	f(&p)
	b, _ := ip.Build(p)
	return frame(from, me, 0x0800, b)
}

func echo(p *ip.Packet) {
	p.Kind = 1
	p.Data, _ = icmp.Build(icmp.Message{Kind: 8, Rest: 5, Data: []byte("hello")})
}

// hear lets the appliance hear a frame.
func hear(t *testing.T, h *Host, b []byte) {
	t.Helper()
	must(t, "Frame", h.Frame(b), api.OK)
	must(t, "Poll", h.Poll(), 1)
}

// taken is the frame that goes out next.
func taken(t *testing.T, h *Host) eth.Frame {
	t.Helper()
	b, e := h.Take()
	must(t, "Take", e, api.OK)
	f, e := eth.Read(b)
	must(t, "it is a frame", []any{e, f.From}, []any{api.OK, me})
	return f
}

func none(t *testing.T, h *Host) {
	t.Helper()
	b, e := h.Take()
	must(t, "Take of none", []any{len(b), e}, []any{0, api.ErrOwner})
}

// bounded looks whether all buffers are there.
func bounded(t *testing.T, h *Host) {
	t.Helper()
	in, out := h.Slots()
	n := h.Free()
	for _, s := range append(in, out...) {
		if s != 0 {
			n++
		}
	}
	if n != 64 || slices.Contains(in, 0) {
		t.Fatalf("%d buffers: %v %v", n, in, out)
	}
}

func TestExample(t *testing.T) {
	h := make1(t, head)
	hear(t, h, ask(3, here))
	f := taken(t, h)
	m, e := arp.Read(f.Data)
	must(t, "an answer", []any{m, e, f.To, f.Kind}, []any{arp.Message{Kind: 2, FromMac: me, From: here, ToMac: mac(3), To: addr(3)}, api.OK, mac(3), 0x0806})
	none(t, h)
}

// Promise 36.1: New, and errors; rule 2.
func TestErrors(t *testing.T) {
	s, _, _ := gram.Parse(head + "policy p { accept; }")
	_, e := New(api.Mac{1}, 7, s)
	must(t, "a group's address", e, api.ErrArg)
	_, e = New(me, 7, api.Setup{})
	must(t, "a configuration that is not right", e, api.ErrArg)
	s.Policies[0].L[0].N = 7
	_, e = New(me, 7, s)
	must(t, "a policy that is not right", e, api.ErrCode)
	h := make1(t, head+"peer a 10.0.0.2 as 65001 waits;")
	in, out := h.Slots()
	must(t, "a new one", []any{h.Now(), h.Free(), in, out, h.Conns(), h.Server() != nil}, []any{0, 48, slices.Repeat([]int{1}, 16), make([]int, 32), []int{}, true})
	must(t, "Frame", h.Frame(make([]byte, 1515)), api.ErrLong)
	for range 16 {
		must(t, "Frame", h.Frame(nil), api.OK)
	}
	lost, _ := h.Lost()
	must(t, "no slot is posted", []any{lost, h.Frame(nil), h.Frame(make([]byte, 1515))}, []any{0, api.ErrFull, api.ErrLong})
	lost, more := h.Lost()
	must(t, "Lost", []int{lost, more, h.Poll(), h.Poll()}, []int{1, 0, 16, 0})
	must(t, "Stop, Refresh, Reload", []any{h.Stop(0), h.Stop(1), h.Refresh(-1), h.Reload(api.Setup{})}, []any{api.OK, api.ErrNone, api.ErrNone, api.ErrArg})
	h.now = api.MaxTick - 1
	must(t, "Tick up to MaxTick", []any{h.Tick(), h.Tick(), h.Now()}, []any{api.OK, api.ErrArg, api.MaxTick})
	for _, h := range []*Host{nil, {}} {
		_, e := h.Take()
		a, b := h.Lost()
		in, out := h.Slots()
		must(t, "of no appliance", []any{h.Start(), h.Frame(make([]byte, 2000)), h.Poll(), h.Tick(), e, h.Now(), a, b, len(in), len(out), h.Free(), h.Server() == nil, len(h.Conns()), h.Stop(7), h.Reload(api.Setup{}), h.Refresh(7)},
			[]any{api.ErrNil, api.ErrNil, 0, api.ErrNil, api.ErrNil, 0, 0, 0, 0, 0, 0, true, 0, api.ErrNil, api.ErrNil, api.ErrNil})
	}
}

// Promises 36.1 and 36.3: echoes and complaints.
func TestEcho(t *testing.T) {
	h := make1(t, head)
	hear(t, h, packet(2, echo))
	f := taken(t, h)
	m, _ := arp.Read(f.Data)
	must(t, "who has its address", []any{f.To, f.Kind, m}, []any{eth.Everybody(), 0x0806, arp.Message{Kind: 1, FromMac: me, From: here, To: addr(2)}})
	none(t, h)
	hear(t, h, packet(2, func(p *ip.Packet) { echo(p); p.ID = 78 }))
	none(t, h)
	hear(t, h, ask(2, here))
	for _, id := range []int{77, 78} {
		f = taken(t, h)
		p, e := ip.Read(f.Data)
		x, _ := icmp.Read(p.Data)
		p.Data = nil
		must(t, "an answer", []any{f.To, f.Kind, p, e, x}, []any{mac(2), 0x0800, ip.Packet{ID: id, Life: 64, Kind: 1, From: here, To: addr(2)}, api.OK, icmp.Message{Rest: 5, Data: []byte("hello")}})
	}
	f = taken(t, h)
	m, _ = arp.Read(f.Data)
	must(t, "and the question's", m.Kind, 2)
	hear(t, h, packet(2, func(p *ip.Packet) {}))
	p, _ := ip.Read(taken(t, h).Data)
	x, _ := icmp.Read(p.Data)
	must(t, "a complaint", []any{p.ID, p.Life, x.Kind, x.Code, len(x.Data)}, []any{77, 64, 3, 2, 28})
	l, _ := ip.Cut(ip.Packet{ID: 5, Kind: 17, From: addr(2), To: here, Data: make([]byte, 40)}, 44)
	for _, q := range []ip.Packet{l[1], l[0]} {
		none(t, h)
		b, _ := ip.Build(q)
		hear(t, h, frame(2, me, 0x0800, b))
	}
	p, _ = ip.Read(taken(t, h).Data)
	must(t, "it is put together", p.ID, 5)
	none(t, h)
	bounded(t, h)
}

// Promise 36.5: frames that are not for it.
func TestDeaf(t *testing.T) {
	h := make1(t, head+"peer a 10.0.0.2 as 65001 waits;")
	hear(t, h, ask(2, here))
	taken(t, h)
	bad := packet(2, echo)
	bad[14+10]++
	good, _ := arp.Build(arp.Message{Kind: 1, FromMac: mac(2), From: addr(2), To: here})
	nobody, _ := arp.Build(arp.Message{Kind: 1, FromMac: mac(2), To: here})
	b, _ := ip.Build(ip.Packet{Kind: 17, From: addr(2), To: here})
	for i, f := range [][]byte{
		nil, make([]byte, 59), ask(2, addr(9)), frame(2, mac(9), 0x0806, good), frame(2, me, 0x0806, nobody), frame(2, me, 0x0806, good[:20]), frame(2, mac(9), 0x0800, b), frame(2, me, 0x86dd, b), frame(2, me, 0x0800, nil), bad,
		packet(2, func(p *ip.Packet) { p.To = 0xffffffff }), packet(2, func(p *ip.Packet) { p.To = addr(9) }), packet(2, func(p *ip.Packet) { p.From = 0 }), packet(2, func(p *ip.Packet) { p.From = 0xffffffff }), packet(2, func(p *ip.Packet) { p.Kind = 1 }), packet(2, func(p *ip.Packet) { p.Kind = 6 }),
	} {
		hear(t, h, f)
		b, e := h.Take()
		must(t, fmt.Sprint("frame ", i), []any{len(b), e, len(h.Conns())}, []any{0, api.ErrOwner, 0})
		bounded(t, h)
	}
	must(t, "it learned nothing", h.cache.Len(), 1)
	hear(t, h, frame(2, api.Mac{0xff, 2}, 0x0800, b))
	_, e := h.Take()
	must(t, "a group's is for it", e, api.OK)
}

// Promises 36.1, 36.2 and 36.4: what is lost.
func TestLost(t *testing.T) {
	h := make1(t, head)
	for i := range 10 {
		hear(t, h, packet(2, func(p *ip.Packet) { echo(p); p.ID = i }))
	}
	_, lost := h.Lost()
	must(t, "packets that can't wait", lost, 2)
	for range 10 {
		h.Tick()
	}
	_, lost = h.Lost()
	must(t, "packets that waited", lost, 10)
	hear(t, h, ask(2, here))
	for range 40 {
		hear(t, h, ask(2, here))
	}
	_, lost = h.Lost()
	must(t, "frames", lost, 20)
	bounded(t, h)
	for range 32 {
		taken(t, h)
	}
	none(t, h)
	bounded(t, h)
}

// speaker is a peer: what it heard, update by update.
type speaker struct {
	place  int
	stack  *tcp.Stack
	id     int
	split  *mark.Splitter
	ready  bool
	heard  map[api.Prefix]api.Attrs
	kinds  []int
	faults []string
	drops  *rand.Rand
}

func speak(place int, drops *rand.Rand) *speaker {
	return &speaker{place: place, stack: tcp.New(addr(place), uint32(1000*place)), split: mark.New(), heard: map[api.Prefix]api.Attrs{}, drops: drops}
}

func (s *speaker) out(h *Host, l []tcp.Out) {
	for _, o := range l {
		b, _ := ip.Build(ip.Packet{Life: 64, Kind: 6, From: addr(s.place), To: o.To, Data: o.B})
		if s.drops == nil || s.drops.Intn(5) > 0 {
			h.Frame(frame(s.place, me, 0x0800, b))
		}
	}
}

func (s *speaker) dial(h *Host, now int) {
	id, l, _ := s.stack.Dial(now, here, 179)
	s.id, s.split, s.ready = id, mark.New(), false
	s.heard = map[api.Prefix]api.Attrs{}
	s.kinds = nil
	s.out(h, l)
}

func (s *speaker) write(h *Host, now int, kind int, body []byte) {
	b, _ := mark.Build(kind, body)
	_, l, _ := s.stack.Write(now, s.id, b)
	s.out(h, l)
}

func (s *speaker) tell(h *Host, now int, next api.Addr, as []uint32, told ...string) {
	u := api.Update{Attrs: api.Attrs{Path: []api.Segment{{AS: as}}, Next: next}}
	for _, x := range told {
		p, _ := upd.Parse(x)
		u.Told = append(u.Told, p)
	}
	b, _ := upd.Build(u, true)
	s.write(h, now, 2, b)
}

// take takes a frame that the appliance sent.
func (s *speaker) take(t *testing.T, h *Host, now int, f eth.Frame) {
	if m, e := arp.Read(f.Data); f.Kind == 0x0806 && e == api.OK && m.Kind == 1 && m.To == addr(s.place) {
		b, _ := arp.Build(arp.Message{Kind: 2, FromMac: mac(s.place), From: addr(s.place), ToMac: m.FromMac, To: m.From})
		h.Frame(frame(s.place, me, 0x0806, b))
	}
	p, e := ip.Read(f.Data)
	if f.Kind != 0x0800 || e != api.OK || p.To != addr(s.place) {
		return
	}
	x, e := seg.Read(p.From, p.To, p.Data)
	must(t, "a segment, right in all sums", []any{e, sum.Right(f.Data[:20]), p.Whole, x.From == 179 || x.To == 179}, []any{api.OK, true, true, true})
	l, events, _ := s.stack.Take(now, p.From, p.Data)
	s.out(h, l)
	s.happen(t, h, now, events)
}

func (s *speaker) happen(t *testing.T, h *Host, now int, events []tcp.Event) {
	for _, e := range events {
		switch e.Kind {
		case 1:
			s.id, s.split, s.ready = e.ID, mark.New(), false
			s.heard, s.kinds = map[api.Prefix]api.Attrs{}, nil
			b, _ := open.Build(api.Open{AS: uint32(65001 + s.place), Hold: 90, ID: addr(s.place), Multi: true, Four: true})
			s.write(h, now, 1, b)
		case 2:
			b, l, _ := s.stack.Read(now, e.ID, 65536)
			s.out(h, l)
			if e.ID != s.id {
				continue
			}
			ms, _, ok := s.split.Feed(b)
			if !ok {
				t.Fatal("no messages")
			}
			for _, m := range ms {
				s.hear(h, now, m)
			}
		case 3:
			l, _ := s.stack.Shut(now, e.ID)
			s.out(h, l)
			s.ready = false
		}
	}
}

func (s *speaker) hear(h *Host, now int, m mark.Message) {
	s.kinds = append(s.kinds, m.Kind)
	switch m.Kind {
	case 1:
		s.write(h, now, 4, nil)
	case 2:
		u, _, _ := upd.Read(m.Body, true)
		for _, p := range u.Withdrawn {
			delete(s.heard, p)
		}
		for _, p := range u.Told {
			s.heard[p] = u.Attrs
		}
	case 3:
		s.faults = append(s.faults, fmt.Sprint(m.Body))
	case 4:
		s.ready = true
	}
}

func (s *speaker) text() string {
	var l []string
	for p, a := range s.heard {
		w, _ := path.Text(a.Path)
		l = append(l, fmt.Sprintf("%s %d [%s]", upd.Text(p), a.Next, w))
	}
	slices.Sort(l)
	return strings.Join(l, "; ")
}

// play lets time go on for the appliance and its peers.
func play(t *testing.T, h *Host, ticks int, speakers ...*speaker) {
	t.Helper()
	for range ticks {
		must(t, "Tick", h.Tick(), api.OK)
		now := h.Now()
		for _, s := range speakers {
			l, events, _ := s.stack.Tick(now)
			s.out(h, l)
			s.happen(t, h, now, events)
			if s.ready && now%100 == 0 {
				s.write(h, now, 4, nil)
			}
		}
		for range 6 {
			for b, e := h.Take(); e == api.OK; b, e = h.Take() {
				f, _ := eth.Read(b)
				for _, s := range speakers {
					if s.drops == nil || s.drops.Intn(5) > 0 {
						s.take(t, h, now, f)
					}
				}
			}
			h.Poll()
		}
		bounded(t, h)
	}
}

const twoPeers = head + "policy p { if community 1:1 { reject; } accept; } peer a 10.0.0.2 as 65001 waits; peer b 10.0.0.3 as 65002 waits out p;"

// Promises 36.3 and 36.6: a session, and routes, down to the ring.
func TestSessions(t *testing.T) {
	h := make1(t, twoPeers)
	a, b := speak(0, nil), speak(1, nil)
	a.dial(h, 0)
	b.dial(h, 0)
	play(t, h, 20, a, b)
	must(t, "established", []any{h.Server().State(0), h.Server().State(1), h.Conns()}, []any{5, 5, []int{1, 2}})
	must(t, "an OPEN, a KEEPALIVE, and the end", a.kinds, []int{1, 4, 2})
	a.tell(h, h.Now(), 77, []uint32{65001, 5}, "11.0.0.0/8", "12.0.0.0/8")
	play(t, h, 70, a, b)
	must(t, "heard", []string{a.text(), b.text()}, []string{"", "11.0.0.0/8 77 [65001 5]; 12.0.0.0/8 77 [65001 5]"})
	b.tell(h, h.Now(), 78, []uint32{65002}, "11.0.0.0/8")
	play(t, h, 70, a, b)
	must(t, "heard", a.text(), "11.0.0.0/8 78 [65002]")
	must(t, "Stop", h.Stop(0), api.OK)
	play(t, h, 70, a, b)
	must(t, "stopped", []any{h.Server().State(0), b.text(), a.faults}, []any{0, "", []string{"[6 2]"}})
	play(t, h, 500, b)
	must(t, "what was one's is gone", []any{h.Server().State(1), len(h.Conns()), b.faults}, []any{5, 1, []string{}})
	s, _, _ := gram.Parse(strings.Replace(twoPeers, "community 1:1", "path has 5", 1))
	must(t, "Reload", []any{h.Reload(s), h.Refresh(1)}, []any{api.OK, api.OK})
}

// Promise 36.1: what it dials; and a connection that nobody asked for.
func TestDials(t *testing.T) {
	h := make1(t, head+"peer a 10.0.0.2 as 65001; peer b 10.0.0.3 as 65002 waits;")
	f := taken(t, h)
	m, _ := arp.Read(f.Data)
	must(t, "a question", []any{m.Kind, m.To, h.Server().State(0)}, []any{1, addr(0), 1})
	a, stranger := speak(0, nil), speak(8, nil)
	a.stack.Listen(179)
	play(t, h, 100, a)
	must(t, "established", []any{h.Server().State(0), h.Conns()}, []any{5, []int{1}})
	stranger.dial(h, h.Now())
	play(t, h, 50, a, stranger)
	must(t, "a stranger is broken off", []any{h.Conns(), stranger.kinds, stranger.stack.IDs()}, []any{[]int{1}, []int{}, []int{}})
	a.dial(h, h.Now())
	play(t, h, 50, a)
	must(t, "a second connection is dropped", []any{h.Server().State(0), h.conns[0]}, []any{5, [2]int{1, 0}})
}

// Promises W1 and W4 in small: frames are lost, and in the end all is heard.
func TestLossy(t *testing.T) {
	for seed := range int64(4) {
		r := rand.New(rand.NewSource(seed))
		h := make1(t, twoPeers)
		a, b := speak(0, r), speak(1, r)
		redial := func(ticks int) {
			for i := range ticks {
				for n, s := range []*speaker{a, b} {
					if i%80 == 0 && h.Server().State(n) < 5 && len(s.stack.IDs()) == 0 {
						s.dial(h, h.Now())
					}
				}
				if i%50 == 7 && h.Server().State(0) == 5 {
					a.tell(h, h.Now(), 77, []uint32{65001}, fmt.Sprintf("%d.0.0.0/8", 11+i%9))
				}
				play(t, h, 1, a, b)
			}
		}
		redial(2000)
		a.drops, b.drops = nil, nil
		for range 40 {
			redial(1)
			play(t, h, 79, a, b)
		}
		if h.Server().State(0) != 5 || h.Server().State(1) != 5 || !h.Server().Drained() {
			t.Fatalf("seed %d: %d %d", seed, h.Server().State(0), h.Server().State(1))
		}
		var want []string
		for _, p := range h.Server().View(1) {
			w, _ := h.Server().Wanted(1, p)
			s, _ := path.Text(w.Path)
			want = append(want, fmt.Sprintf("%s %d [%s]", upd.Text(p), w.Next, s))
		}
		must(t, "heard in the end", b.text(), strings.Join(want, "; "))
	}
}

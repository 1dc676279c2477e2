package icmp

import (
	"bytes"
	"fmt"
	"math"
	"math/rand"
	"testing"

	"pointsman/api"
	"pointsman/ip"
	"pointsman/sum"
)

const me, peer = api.Addr(0x0a000001), api.Addr(0x0a000002)

func must(t *testing.T, what string, got, want any) {
	t.Helper()
	if g, w := fmt.Sprint(got), fmt.Sprint(want); g != w {
		t.Errorf("%s: %s, want %s", what, g, w)
	}
}

func echo(kind, code int, data []byte) ip.Packet {
	b, _ := Build(Message{Kind: kind, Code: code, Rest: 0x01020304, Data: data})
	return ip.Packet{ID: 77, Life: 3, Kind: 1, From: peer, To: me, Data: b}
}

func TestExample(t *testing.T) {
	p, e := Answer(me, echo(8, 0, []byte{1, 2, 3}))
	m, e2 := Read(p.Data)
	must(t, "Answer", []any{m, e, e2}, []any{Message{Rest: 0x01020304, Data: []byte{1, 2, 3}}, api.OK, api.OK})
	p.Data = nil
	must(t, "its head", p, ip.Packet{ID: 77, Life: 64, Kind: 1, From: me, To: peer})
}

// Promises 9.1 and 9.4.
func TestBuildRead(t *testing.T) {
	b, e := Build(Message{Kind: 8, Code: 2, Rest: 0x0a0b0c0d, Data: []byte{1, 2, 3}})
	must(t, "Build", []any{b[:2], b[4:], sum.Right(b), e}, []any{[]byte{8, 2}, []byte{10, 11, 12, 13, 1, 2, 3}, true, api.OK})
	for _, m := range []Message{{Kind: -1}, {Kind: 256}, {Code: -1}, {Code: 256, Data: make([]byte, 2000)}} {
		b, e := Build(m)
		must(t, "Build", []any{b, e}, []any{[]byte(nil), api.ErrArg})
	}
	_, e = Build(Message{Data: make([]byte, 1473)})
	must(t, "Build of 1473", e, api.ErrLong)
	b, e = Build(Message{Data: make([]byte, 1472)})
	must(t, "Build of 1472", []any{len(b), e}, []any{1480, api.OK})
	for _, b := range [][]byte{nil, {8, 0, 0xf7, 0xff, 0, 0, 0}, {8, 0, 0xf7, 0xfe, 0, 0, 0, 0}} {
		m, e := Read(b)
		must(t, "Read", []any{m, e}, []any{Message{}, api.ErrIcmp})
	}
	r := rand.New(rand.NewSource(1))
	for range 200 {
		m := Message{r.Intn(256), r.Intn(256), r.Uint32(), make([]byte, r.Intn(50))}
		r.Read(m.Data)
		b, _ := Build(m)
		got, e := Read(b)
		must(t, "Read", []any{got, e}, []any{m, api.OK})
		b[r.Intn(len(b))] ^= 0x10
		_, e = Read(b)
		must(t, "Read of a bad sum", e, api.ErrIcmp)
	}
}

// Promise 9.2.
func TestAnswer(t *testing.T) {
	for i, f := range []func(p *ip.Packet){
		func(p *ip.Packet) { p.Kind = 6 },
		func(p *ip.Packet) { p.To = peer },
		func(p *ip.Packet) { p.To = 0xffffffff },
		func(p *ip.Packet) { p.At = 1 },
		func(p *ip.Packet) { p.More = true },
		func(p *ip.Packet) { p.Data = p.Data[:7] },
		func(p *ip.Packet) { p.Data[9]++ },
		func(p *ip.Packet) { *p = echo(0, 0, []byte{1, 2}) },
		func(p *ip.Packet) { *p = echo(8, 1, []byte{1, 2}) },
		func(p *ip.Packet) { *p = echo(13, 0, nil) },
		func(p *ip.Packet) { p.Data = append([]byte{8, 0, 0xf7, 0xff}, make([]byte, 1477)...) },
	} {
		p := echo(8, 0, []byte{1, 2})
		f(&p)
		q, e := Answer(me, p)
		must(t, fmt.Sprint("Answer ", i), []any{q, e}, []any{ip.Packet{}, api.ErrNone})
	}
	p, e := Answer(me, echo(8, 0, make([]byte, 1472)))
	must(t, "Answer of as much as may be", []any{len(p.Data), e}, []any{1480, api.OK})
}

// Promise 9.3.
func TestComplain(t *testing.T) {
	p := ip.Packet{ID: 5, Life: 9, Kind: 17, Whole: true, From: peer, To: me, Data: []byte{1, 2, 3, 4, 5, 6, 7, 8, 9, 10}}
	whole, _ := ip.Build(p)
	q, e := Complain(me, 2, p)
	m, _ := Read(q.Data)
	must(t, "Complain", []any{m, e}, []any{Message{Kind: 3, Code: 2, Data: whole[:28]}, api.OK})
	q.Data = nil
	must(t, "its head", q, ip.Packet{ID: 5, Life: 64, Kind: 1, From: me, To: peer})
	p.Data = p.Data[:3]
	q, _ = Complain(me, 15, p)
	m, _ = Read(q.Data)
	must(t, "of few data", []any{m.Code, len(m.Data)}, []any{15, 23})
	for _, code := range []int{-1, 16, math.MaxInt} {
		_, e := Complain(me, code, ip.Packet{})
		must(t, "a code", e, api.ErrArg)
	}
	_, e = Complain(me, 2, ip.Packet{ID: -1, At: 1})
	must(t, "a packet that can't be built", e, api.ErrArg)
	for i, f := range []func(p *ip.Packet){
		func(p *ip.Packet) { p.At = 1 },
		func(p *ip.Packet) { p.To = 0xffffffff },
		func(p *ip.Packet) { p.From = 0 },
		func(p *ip.Packet) { p.From = 0xffffffff },
		func(p *ip.Packet) { p.Kind = 1 },
		func(p *ip.Packet) { *p = echo(0, 0, nil) },
		func(p *ip.Packet) { *p = echo(3, 0, nil) },
	} {
		p := ip.Packet{Kind: 17, From: peer, To: me, Data: []byte{1}}
		f(&p)
		q, e := Complain(me, 2, p)
		must(t, fmt.Sprint("Complain ", i), []any{q, e}, []any{ip.Packet{}, api.ErrNone})
	}
	_, e = Complain(me, 2, echo(8, 5, nil))
	must(t, "of an echo", e, api.OK)
	p.More = true
	_, e = Complain(me, 2, p)
	must(t, "of the first piece", e, api.OK)
}

// Promise 9.5.
func TestTheSame(t *testing.T) {
	for n := range 40 {
		p := echo(8, 0, bytes.Repeat([]byte{byte(n)}, n))
		a, e := Answer(me, p)
		must(t, "Answer", e, api.OK)
		got, _ := Read(a.Data)
		want, _ := Read(p.Data)
		want.Kind = 0
		must(t, "the same message", got, want)
		c, e := Complain(me, 1, p)
		must(t, "Complain", e, api.OK)
		for _, q := range []ip.Packet{a, c} {
			_, e = Answer(peer, q)
			must(t, "answered", e, api.ErrNone)
			_, e = Complain(peer, 1, q)
			must(t, "complained about", e, api.ErrNone)
		}
	}
}

package seg

import (
	"bytes"
	"fmt"
	"math"
	"math/rand"
	"testing"

	"pointsman/api"
	"pointsman/sum"
)

const me, peer = api.Addr(0x0a000001), api.Addr(0x0a000002)

func must(t *testing.T, what string, got, want any) {
	t.Helper()
	if g, w := fmt.Sprint(got), fmt.Sprint(want); g != w {
		t.Errorf("%s: %s, want %s", what, g, w)
	}
}

func some(r *rand.Rand) Segment {
	s := Segment{r.Intn(65536), r.Intn(65536), r.Uint32(), r.Uint32(), r.Intn(64), r.Intn(65536), r.Intn(65536), r.Intn(2) * r.Intn(65536), make([]byte, r.Intn(30))}
	r.Read(s.Data)
	return s
}

// seal puts the right sum in.
func seal(b []byte) []byte {
	b[16], b[17] = 0, 0
	s := sum.Fold(sum.Add(sum.Pseudo(me, peer, 6, len(b)), b))
	b[16], b[17] = byte(s>>8), byte(s)
	return b
}

func TestExample(t *testing.T) {
	s := Segment{Flags: 2, Greatest: 1460}
	b, e := Build(me, peer, s)
	must(t, "a SYN", []any{len(b), Span(s), e}, []any{24, 1, api.OK})
}

// Promise 11.1: Build.
func TestBuild(t *testing.T) {
	b, e := Build(me, peer, Segment{From: 0x0102, To: 0x0304, Seq: 0x05060708, Ack: 0x090a0b0c, Flags: 63, Window: 0x0d0e, Urgent: 0x0f10, Greatest: 0x1112, Data: []byte{7}})
	want := seal([]byte{1, 2, 3, 4, 5, 6, 7, 8, 9, 10, 11, 12, 0x60, 63, 13, 14, 0, 0, 15, 16, 2, 4, 17, 18, 7})
	must(t, "Build", []any{b, e}, []any{want, api.OK})
	for _, s := range []Segment{{From: -1}, {From: 65536}, {To: -1}, {To: 65536}, {Flags: -1}, {Flags: 64}, {Window: -1}, {Window: 65536}, {Urgent: -1}, {Urgent: 65536}, {Greatest: -1}, {Greatest: 65536, Data: make([]byte, 70000)}} {
		b, e := Build(me, peer, s)
		must(t, "Build", []any{b, e}, []any{[]byte(nil), api.ErrArg})
	}
	_, e = Build(me, peer, Segment{Data: make([]byte, 65496)})
	must(t, "Build of too much", e, api.ErrLong)
	b, e = Build(me, peer, Segment{Data: make([]byte, 65495), Greatest: 1})
	must(t, "Build of as much as may be", []any{len(b), e}, []any{65519, api.OK})
}

// Promise 11.1: Read, and its options.
func TestRead(t *testing.T) {
	for _, c := range []struct {
		options  []byte
		greatest int
		ok       bool
	}{
		{nil, 0, true}, {[]byte{0, 2, 9, 9}, 0, true}, {[]byte{1, 1, 1, 1}, 0, true}, {[]byte{2, 4, 1, 2}, 258, true}, {[]byte{2, 4, 1, 2, 2, 4, 0, 9}, 9, true},
		{[]byte{8, 3, 0, 1, 2, 4, 0, 5}, 5, true}, {[]byte{2, 4, 0, 7, 0, 2, 4, 1}, 7, true}, {[]byte{2, 3, 0, 0}, 0, false}, {[]byte{2, 5, 0, 0, 0, 0, 0, 0}, 0, false},
		{[]byte{1, 1, 1, 8}, 0, false}, {[]byte{8, 1, 0, 0}, 0, false}, {[]byte{8, 0, 0, 0}, 0, false}, {[]byte{8, 5, 0, 0}, 0, false}, {[]byte{1, 2, 4, 0}, 0, false}, {[]byte{8, 2, 8, 2}, 0, true},
		{bytes.Repeat([]byte{1}, 40), 0, true},
	} {
		b, _ := Build(me, peer, Segment{From: 1, To: 2})
		b[12], b[13] = byte((5+len(c.options)/4)<<4|0xf), 0xd0
		b = seal(append(append(b, c.options...), 9))
		s, e := Read(me, peer, b)
		if c.ok {
			must(t, fmt.Sprint("Read ", c.options), []any{s, e}, []any{Segment{From: 1, To: 2, Flags: 16, Greatest: c.greatest, Data: []byte{9}}, api.OK})
		} else {
			must(t, fmt.Sprint("Read ", c.options), []any{s, e}, []any{Segment{}, api.ErrSeg})
		}
	}
	b, _ := Build(me, peer, Segment{})
	for _, c := range [][]byte{nil, b[:19], seal(append(bytes.Clone(b[:12]), append([]byte{0x40}, b[13:]...)...)), seal(append(bytes.Clone(b[:12]), append([]byte{0x60}, b[13:]...)...))} {
		_, e := Read(me, peer, c)
		must(t, "Read", e, api.ErrSeg)
	}
	_, e := Read(me, peer+1, seal(b))
	must(t, "Read to another one", e, api.ErrSeg)
}

// Promise 11.2.
func TestSpanResetFlags(t *testing.T) {
	must(t, "Span", []int{Span(Segment{}), Span(Segment{Flags: 3, Data: []byte{1}}), Span(Segment{Flags: 1}), Span(Segment{Flags: -1}), Span(Segment{Flags: 0x7c})}, []int{0, 3, 1, 0, 0})
	s := Segment{From: 5, To: 6, Seq: math.MaxUint32, Ack: 77, Flags: 3, Window: 9, Data: []byte{1, 2}}
	a, ok := Reset(s)
	must(t, "Reset", []any{a, ok}, []any{Segment{From: 6, To: 5, Ack: 3, Flags: 20}, true})
	s.Flags = 18
	a, ok = Reset(s)
	must(t, "Reset with ACK", []any{a, ok}, []any{Segment{From: 6, To: 5, Seq: 77, Flags: 4}, true})
	s.Flags = 20
	a, ok = Reset(s)
	must(t, "Reset of a RST", []any{a, ok}, []any{Segment{}, false})
	s.Flags = -1
	a, ok = Reset(s)
	must(t, "Reset below 0", []any{a, ok}, []any{Segment{From: 6, To: 5, Ack: 1, Flags: 20}, true})
	must(t, "Flags", []string{Flags(Segment{}), Flags(Segment{Flags: 63}), Flags(Segment{Flags: 18}), Flags(Segment{Flags: -1}), Flags(Segment{Flags: 41 + 64})}, []string{"", "FSRPAU", "SA", "", "FPU"})
}

// Promises 11.3 and 11.4.
func TestBackFound(t *testing.T) {
	r := rand.New(rand.NewSource(1))
	for range 500 {
		s := some(r)
		b, _ := Build(me, peer, s)
		got, e := Read(me, peer, b)
		must(t, "Read", []any{got, e}, []any{s, api.OK})
		i := r.Intn(len(b))
		b[i] ^= 0xff
		if _, e := Read(me, peer, b); e == api.OK && i != 12 {
			t.Fatalf("byte %d turned: read", i)
		}
	}
}

package arp

import (
	"bytes"
	"fmt"
	"math/rand"
	"testing"

	"pointsman/api"
)

func must(t *testing.T, what string, got, want any) {
	t.Helper()
	if g, w := fmt.Sprint(got), fmt.Sprint(want); g != w {
		t.Errorf("%s: %s, want %s", what, g, w)
	}
}

func some(r *rand.Rand) Message {
	m := Message{Kind: 1 + r.Intn(2), From: api.Addr(r.Uint32()), To: api.Addr(r.Uint32())}
	r.Read(m.FromMac[:])
	r.Read(m.ToMac[:])
	return m
}

func TestExample(t *testing.T) {
	c, _ := New(10, 2)
	m := api.Mac{2}
	ask, e := c.Wait(0, 1, []byte("a"))
	must(t, "Wait a", []any{ask, e}, []any{true, api.OK})
	ask, e = c.Wait(1, 1, []byte("b"))
	must(t, "Wait b", []any{ask, e}, []any{false, api.OK})
	l, e := c.Learn(1, 1, m)
	must(t, "Learn", []any{l, e}, []any{[][]byte{[]byte("a"), []byte("b")}, api.OK})
	got, ok := c.Find(11, 1)
	must(t, "Find at 11", []any{got, ok}, []any{m, true})
	got, ok = c.Find(12, 1)
	must(t, "Find at 12", []any{got, ok}, []any{api.Mac{}, false})
}

// Promises 6.1 and 6.3.
func TestMessages(t *testing.T) {
	b, e := Build(Message{Kind: 1, FromMac: api.Mac{1, 2, 3, 4, 5, 6}, From: 0x0a000001, ToMac: api.Mac{9}, To: 0x0a000002})
	must(t, "Build", []any{b, e}, []any{[]byte{0, 1, 8, 0, 6, 4, 0, 1, 1, 2, 3, 4, 5, 6, 10, 0, 0, 1, 9, 0, 0, 0, 0, 0, 10, 0, 0, 2}, api.OK})
	for _, kind := range []int{-1, 0, 3, 257, 65537} {
		b, e := Build(Message{Kind: kind})
		must(t, "Build of a kind", []any{b, e}, []any{[]byte(nil), api.ErrArp})
	}
	r := rand.New(rand.NewSource(1))
	for range 200 {
		m := some(r)
		b, _ := Build(m)
		got, e := Read(append(b, 7, 7))
		must(t, "Read", []any{got, e}, []any{m, api.OK})
		for i := range 8 {
			b[i] ^= 0x80
			got, e = Read(b)
			must(t, "Read of another beginning", []any{got, e}, []any{Message{}, api.ErrArp})
			b[i] ^= 0x80
		}
		_, e = Read(b[:27])
		must(t, "Read of 27", e, api.ErrArp)
	}
	for _, kind := range []byte{0, 3} {
		b[7] = kind
		_, e = Read(b)
		must(t, "Read of a kind", e, api.ErrArp)
	}
	_, e = Read(nil)
	must(t, "Read of nothing", e, api.ErrArp)
}

// Promise 6.2.
func TestErrors(t *testing.T) {
	for _, n := range []int{-1, 0, 1000001} {
		_, e := New(n, 1)
		must(t, "New keep", e, api.ErrArg)
		_, e = New(1, n)
		must(t, "New ask", e, api.ErrArg)
	}
	_, e := New(1000000, 1000000)
	must(t, "New", e, api.OK)
	c, _ := New(10, 2)
	for _, now := range []int{-1, api.MaxTick + 1} {
		_, e = c.Learn(now, 1, api.Mac{})
		must(t, "Learn", e, api.ErrArg)
		_, e = c.Wait(now, 1, make([]byte, 1501))
		must(t, "Wait", e, api.ErrArg)
		_, e = c.Age(now)
		must(t, "Age", e, api.ErrArg)
	}
	_, e = c.Wait(5, 1, make([]byte, 1501))
	must(t, "Wait of too long a packet", e, api.ErrLong)
	ask, e := c.Wait(0, 1, make([]byte, 1500))
	must(t, "a refused call changes nothing", []any{ask, e}, []any{true, api.OK})
	for range 7 {
		c.Wait(0, 2, nil)
	}
	ask, e = c.Wait(9, 3, nil)
	must(t, "a ninth packet", []any{ask, e}, []any{false, api.ErrFull})
	_, e = c.Wait(9, 3, make([]byte, 1501))
	must(t, "ErrLong ahead of ErrFull", e, api.ErrLong)
	_, e = c.Learn(4, 7, api.Mac{})
	must(t, "Learn at 4", e, api.OK)
	_, e = c.Age(3)
	must(t, "Age at 3", e, api.ErrArg)
	_, e = c.Age(api.MaxTick)
	must(t, "Age at MaxTick", e, api.OK)
	for _, c := range []*Cache{nil, {}} {
		_, e = c.Learn(-1, 1, api.Mac{})
		must(t, "Learn", e, api.ErrNil)
		_, e = c.Wait(-1, 1, nil)
		must(t, "Wait", e, api.ErrNil)
		_, e = c.Age(-1)
		must(t, "Age", e, api.ErrNil)
		_, ok := c.Find(0, 1)
		must(t, "of no cache", []any{ok, c.Len(), c.Waiting()}, []any{false, 0, 0})
	}
}

// Promise 6.2: what is known, and for how long.
func TestKnown(t *testing.T) {
	c, _ := New(100, 2)
	for i := range api.MaxArp {
		c.Learn(i/2, api.Addr(100-i), api.Mac{byte(i)})
	}
	c.Learn(20, 99, api.Mac{77})
	must(t, "known already", c.Len(), api.MaxArp)
	c.Learn(20, 500, api.Mac{5})
	_, first := c.Find(20, 100)
	_, second := c.Find(20, 98)
	must(t, "the one that is known for the shortest goes", []any{c.Len(), first, second}, []any{api.MaxArp, false, true})
	c.Learn(20, 501, api.Mac{5})
	_, least := c.Find(20, 97)
	_, other := c.Find(20, 98)
	must(t, "of several the least address", []any{least, other}, []any{false, true})
	_, ok := c.Find(0, 500)
	must(t, "a time below counts as its time", ok, true)
	n, e := c.Age(101)
	_, ok = c.Find(0, 98)
	must(t, "what is known no more", []any{n, e, ok}, []any{0, api.OK, true})
	c.Age(102)
	_, ok = c.Find(0, 98)
	must(t, "what is known no more", ok, false)
	before := c.Len()
	_, ok = c.Find(1000, 500)
	must(t, "Find changes nothing", []any{ok, c.Len()}, []any{false, before})
	c.Learn(1000, 1, api.Mac{})
	must(t, "Learn lets go", c.Len(), 1)
}

// Promise 6.2: when an address is asked for, and what is let go.
func TestAsked(t *testing.T) {
	c, _ := New(10, 3)
	c.Wait(0, 1, []byte("a"))
	ask, _ := c.Wait(2, 1, []byte("b"))
	n, _ := c.Age(2)
	must(t, "not ahead of that", []any{ask, n, c.Waiting()}, []any{false, 0, 2})
	ask, _ = c.Wait(3, 1, []byte("c"))
	n, _ = c.Age(5)
	must(t, "asked anew", []any{ask, n, c.Waiting()}, []any{true, 0, 3})
	c.Wait(5, 2, []byte("d"))
	n, _ = c.Age(6)
	must(t, "aged", []any{n, c.Waiting()}, []any{3, 1})
	l, _ := c.Learn(6, 1, api.Mac{})
	must(t, "gone", len(l), 0)
	ask, _ = c.Wait(6, 2, []byte("e"))
	must(t, "another one", ask, false)
	c.Learn(6, 2, api.Mac{})
	ask, _ = c.Wait(6, 2, []byte("f"))
	must(t, "one that is learned was not asked for", ask, true)
}

// Promises 6.4 and 6.5.
func TestLearnedOnce(t *testing.T) {
	r := rand.New(rand.NewSource(2))
	type known struct {
		m     api.Mac
		until int
	}
	for range 50 {
		c, _ := New(20, 4)
		has, waits := map[api.Addr]known{}, map[api.Addr][]string{}
		now, number, in, out := 0, 0, 0, 0
		for range 200 {
			now += r.Intn(3)
			a := api.Addr(r.Intn(5))
			switch r.Intn(3) {
			case 0:
				m := api.Mac{byte(r.Int())}
				l, _ := c.Learn(now, a, m)
				if string(bytes.Join(l, nil)) != fmt.Sprint(join(waits[a])) {
					t.Fatalf("Learn: %s, want %v", l, waits[a])
				}
				out += len(l)
				has[a], waits[a] = known{m, now + 20}, nil
			case 1:
				number++
				p := fmt.Sprint(number, " ")
				if _, e := c.Wait(now, a, []byte(p)); e == api.OK {
					waits[a] = append(waits[a], p)
					in++
				}
			case 2:
				n, _ := c.Age(now)
				out += n
				if n > 0 {
					for a := range api.Addr(5) {
						l, _ := c.Learn(now, a, api.Mac{})
						out += len(l)
						has[a], waits[a] = known{api.Mac{}, now + 20}, nil
					}
				}
			}
			if in != out+c.Waiting() {
				t.Fatalf("%d in, %d out, %d wait", in, out, c.Waiting())
			}
			m, ok := c.Find(now, a)
			if k, want := has[a]; ok != (want && k.until >= now) || ok && m != k.m {
				t.Fatalf("Find: %v %v, want %v", m, ok, k)
			}
		}
	}
}

func join(l []string) string {
	s := ""
	for _, x := range l {
		s += x
	}
	return s
}

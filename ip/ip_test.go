package ip

import (
	"bytes"
	"fmt"
	"math"
	"math/rand"
	"testing"

	"pointsman/api"
	"pointsman/sum"
)

func must(t *testing.T, what string, got, want any) {
	t.Helper()
	if g, w := fmt.Sprint(got), fmt.Sprint(want); g != w {
		t.Errorf("%s: %s, want %s", what, g, w)
	}
}

func some(r *rand.Rand, n int) Packet {
	p := Packet{ID: r.Intn(65536), At: r.Intn(8192), Life: r.Intn(256), Kind: r.Intn(256), Whole: r.Intn(2) == 0, More: r.Intn(2) == 0, From: api.Addr(r.Uint32()), To: api.Addr(r.Uint32()), Data: make([]byte, n)}
	r.Read(p.Data)
	return p
}

func TestExample(t *testing.T) {
	must(t, "Text", Text(0x0a000001), "10.0.0.1")
}

// Promise 7.1: Build.
func TestBuild(t *testing.T) {
	b, e := Build(Packet{ID: 0x1234, At: 5, Life: 64, Kind: 6, Whole: true, More: true, From: 0x0a000001, To: 0x0a000002, Data: []byte{1, 2, 3}})
	want := []byte{0x45, 0, 0, 23, 0x12, 0x34, 0x60, 5, 64, 6, 0, 0, 10, 0, 0, 1, 10, 0, 0, 2, 1, 2, 3}
	s := sum.Of(want[:20])
	want[10], want[11] = byte(s>>8), byte(s)
	must(t, "Build", []any{b, e}, []any{want, api.OK})
	for _, p := range []Packet{{ID: -1}, {ID: 65536}, {At: -1}, {At: 8192}, {Life: -1}, {Life: 256}, {Kind: -1}, {Kind: 256}, {Kind: math.MaxInt, Data: make([]byte, 70000)}} {
		b, e := Build(p)
		must(t, "Build", []any{b, e}, []any{[]byte(nil), api.ErrArg})
		l, e := Cut(p, 100)
		must(t, "Cut", []any{l, e}, []any{[]Packet(nil), api.ErrArg})
	}
	b, e = Build(Packet{Data: make([]byte, 65515)})
	must(t, "Build of as much as may be", []any{len(b), e}, []any{65535, api.OK})
	_, e = Build(Packet{Data: make([]byte, 65516)})
	must(t, "Build of more", e, api.ErrLong)
}

// Promise 7.1: Read.
func TestRead(t *testing.T) {
	b, _ := Build(Packet{ID: 7, Data: []byte{1, 2, 3, 4}})
	for i, f := range []func(b []byte) []byte{
		func(b []byte) []byte { return nil },
		func(b []byte) []byte { return b[:19] },
		func(b []byte) []byte { return b[:23] },
		func(b []byte) []byte { b[0] = 0x55; return b },
		func(b []byte) []byte { b[0] = 0x44; return b },
		func(b []byte) []byte { b[0] = 0x47; return b },
		func(b []byte) []byte { b[3] = 19; return b },
		func(b []byte) []byte { b[3] = 25; return b },
		func(b []byte) []byte { b[6] |= 0x80; return b },
	} {
		p, e := Read(f(bytes.Clone(b)))
		must(t, fmt.Sprint("Read ", i), []any{p, e}, []any{Packet{}, api.ErrIP})
	}
	b[10]++
	p, e := Read(b)
	must(t, "Read of a bad sum", []any{p, e}, []any{Packet{}, api.ErrSum})
	b[10]--
	long := append(append(append([]byte{0x46}, b[1:20]...), 9, 9, 9, 9), b[20:]...)
	long[1], long[3], long[10], long[11] = 0xff, 28, 0, 0
	s := sum.Of(long[:24])
	long[10], long[11] = byte(s>>8), byte(s)
	p, e = Read(append(long, 5, 5, 5))
	must(t, "Read with options", []any{p, e}, []any{Packet{ID: 7, Data: []byte{1, 2, 3, 4}}, api.OK})
	long[20] = 8
	_, e = Read(long)
	must(t, "the sum is of the options, too", e, api.ErrSum)
	long[24] = 77
	must(t, "Data are its own", p.Data, []byte{1, 2, 3, 4})
}

// Promises 7.2 and 7.6.
func TestCut(t *testing.T) {
	_, e := Cut(Packet{}, 27)
	must(t, "Cut at 27", e, api.ErrArg)
	_, e = Cut(Packet{Whole: true, Data: make([]byte, 9)}, 28)
	must(t, "Cut of a whole", e, api.ErrLong)
	l, e := Cut(Packet{Whole: true, Data: make([]byte, 8)}, 28)
	must(t, "Cut of a whole that fits", []any{len(l), e}, []any{1, api.OK})
	_, e = Cut(Packet{Data: make([]byte, 65516)}, math.MaxInt)
	must(t, "Cut of too much", e, api.ErrLong)
	_, e = Cut(Packet{At: 8191, Data: make([]byte, 9)}, 28)
	must(t, "Cut beyond 8191", e, api.ErrLong)
	l, e = Cut(Packet{At: 8190, Data: make([]byte, 9)}, 28)
	must(t, "Cut up to 8191", []any{len(l), e}, []any{2, api.OK})
	l, e = Cut(Packet{}, 28)
	must(t, "Cut of nothing", []any{len(l), e}, []any{1, api.OK})
	r := rand.New(rand.NewSource(1))
	for range 300 {
		p, most := some(r, r.Intn(300)), 28+r.Intn(100)
		p.Whole, p.At = false, r.Intn(100)
		l, e := Cut(p, most)
		must(t, "Cut", e, api.OK)
		var data []byte
		for i, q := range l {
			last := i == len(l)-1
			if q.At != p.At+len(data)/8 || len(q.Data)+20 > most || q.More != (!last || p.More) || !last && len(q.Data) != (most-20)/8*8 {
				t.Fatalf("piece %d of %d of %d at most %d: %v", i, len(l), len(p.Data), most, q)
			}
			data = append(data, q.Data...)
			q.At, q.More, q.Data = p.At, p.More, p.Data
			must(t, "the head", q, p)
		}
		if !bytes.Equal(data, p.Data) {
			t.Fatal("the data are others")
		}
		if n := len(p.Data); len(l) > 1 && n-(len(l)-2)*((most-20)/8*8) <= most-20 {
			t.Fatalf("%d pieces of %d at most %d", len(l), n, most)
		}
	}
}

// Promises 7.3 and 7.7.
func TestAddresses(t *testing.T) {
	must(t, "Mine", []bool{Mine(1, 1), Mine(1, 0xffffffff), Mine(1, 2), Mine(1, 0), Mine(1, 0xffffff)}, []bool{true, true, false, false, false})
	must(t, "Text", []string{Text(0), Text(0xffffffff), Text(0x01020a64)}, []string{"0.0.0.0", "255.255.255.255", "1.2.10.100"})
	for _, s := range []string{"", "1", "1.2.3", "1.2.3.4.5", "1.2.3.4.", ".1.2.3.4", "1..2.3", "256.0.0.1", "1.2.3.999", "01.2.3.4", "1.2.3.00", "1.2.3.0004", "1.2.3.4 ", "1,2.3.4", "1.2.3.-4", "a.b.c.d", "1.2.3.4444"} {
		a, e := Parse(s)
		must(t, "Parse "+s, []any{a, e}, []any{0, api.ErrArg})
	}
	r := rand.New(rand.NewSource(2))
	for range 300 {
		a := api.Addr(r.Uint32()) >> r.Intn(32)
		got, e := Parse(Text(a))
		must(t, "Parse", []any{got, e}, []any{a, api.OK})
	}
}

// Promises 7.4 and 7.5.
func TestBackFound(t *testing.T) {
	r := rand.New(rand.NewSource(3))
	for range 300 {
		p := some(r, r.Intn(50))
		b, e := Build(p)
		must(t, "Build", e, api.OK)
		got, e := Read(append(bytes.Clone(b), make([]byte, r.Intn(9))...))
		must(t, "Read", []any{got, e}, []any{p, api.OK})
		i := 1 + r.Intn(19)
		b[i] ^= 0xff
		if _, e := Read(b); e == api.OK {
			t.Fatalf("byte %d turned: read", i)
		}
	}
}

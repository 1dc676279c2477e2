package frag

import (
	"bytes"
	"fmt"
	"math/rand"
	"testing"

	"pointsman/api"
	"pointsman/ip"
)

func must(t *testing.T, what string, got, want any) {
	t.Helper()
	if g, w := fmt.Sprint(got), fmt.Sprint(want); g != w {
		t.Errorf("%s: %s, want %s", what, g, w)
	}
}

func add(t *testing.T, f *Table, now int, p ip.Packet, ok bool, e api.Errno) ip.Packet {
	t.Helper()
	q, got, err := f.Add(now, p)
	must(t, "Add", []any{got, err}, []any{ok, e})
	if !ok {
		must(t, "nothing", q, ip.Packet{})
	}
	return q
}

func piece(id, at int, more bool, data ...byte) ip.Packet {
	return ip.Packet{ID: id, At: at, More: more, Data: data}
}

func eight(x byte) []byte { return bytes.Repeat([]byte{x}, 8) }

func TestExample(t *testing.T) {
	f, _ := New(10)
	add(t, f, 0, piece(1, 0, true, eight(1)...), false, api.OK)
	p := add(t, f, 0, piece(1, 1, false, 1, 2, 3), true, api.OK)
	must(t, "the packet", p, ip.Packet{ID: 1, Data: append(eight(1), 1, 2, 3)})
	must(t, "let go", f.Len(), 0)
}

// Promise 8.1: errors, in their order.
func TestErrors(t *testing.T) {
	for _, n := range []int{-1, 0, 1000001} {
		f, e := New(n)
		must(t, "New", []any{f == nil, e}, []any{true, api.ErrArg})
	}
	f, e := New(1000000)
	must(t, "New", e, api.OK)
	for _, p := range []ip.Packet{{ID: -1}, {ID: 65536}, {At: 8192, More: true}, {Life: 256}, {Kind: -1}} {
		add(t, f, 5, p, false, api.ErrArg)
	}
	add(t, f, -1, ip.Packet{}, false, api.ErrArg)
	add(t, f, api.MaxTick+1, ip.Packet{}, false, api.ErrArg)
	add(t, f, 3, ip.Packet{}, true, api.OK)
	add(t, f, 4, piece(1, 0, true), false, api.ErrIP)
	add(t, f, 3, ip.Packet{}, false, api.ErrArg)
	add(t, f, 4, piece(1, 8191, true, 1, 2, 3), false, api.ErrIP)
	add(t, f, 4, piece(1, 8191, false), false, api.ErrLong)
	add(t, f, 4, piece(1, 8190, true, eight(0)...), false, api.ErrLong)
	add(t, f, 4, piece(1, 8189, false, 1, 2, 3, 4), false, api.ErrLong)
	must(t, "none was begun", f.Len(), 0)
	add(t, f, 4, piece(1, 8189, false, 1, 2, 3), false, api.OK)
	for i := range 7 {
		add(t, f, 4, piece(10+i, 1, false), false, api.OK)
	}
	add(t, f, 4, piece(1, 8190, true, eight(0)...), false, api.ErrLong)
	add(t, f, 5, piece(2, 0, true, eight(0)...), false, api.ErrFull)
	add(t, f, 4, ip.Packet{}, false, api.ErrArg)
	must(t, "Len", f.Len(), 8)
	long := ip.Packet{Data: make([]byte, 70000)}
	got := add(t, f, 5, long, true, api.OK)
	long.Data[0] = 1
	must(t, "told as it is", []any{len(got.Data), got.Data[0]}, []any{70000, 0})
	for _, f := range []*Table{nil, {}} {
		add(t, f, -1, ip.Packet{ID: -1}, false, api.ErrNil)
		_, e := f.Age(-1)
		must(t, "of no table", []any{f.Len(), e}, []any{0, api.ErrNil})
	}
}

// Promise 8.1: what spoils a whole.
func TestSpoilt(t *testing.T) {
	for i, l := range [][]ip.Packet{
		{piece(1, 0, true, eight(1)...), piece(1, 0, true, eight(2)...)},
		{piece(1, 1, false, 1, 2), piece(1, 1, false, 1, 2, 3)},
		{piece(1, 2, false), piece(1, 1, false)},
		{piece(1, 2, true, eight(1)...), piece(1, 2, false)},
		{piece(1, 2, false), piece(1, 2, true, eight(1)...)},
		{piece(1, 3, false, 1), piece(1, 2, false, 1)},
	} {
		f, _ := New(10)
		add(t, f, 0, piece(2, 0, true, eight(9)...), false, api.OK)
		add(t, f, 0, l[0], false, api.OK)
		_, _, e := f.Add(0, l[1])
		must(t, fmt.Sprint("case ", i), []any{e, f.Len()}, []any{api.ErrSame, 1})
		add(t, f, 0, piece(2, 1, false), true, api.OK)
	}
	f, _ := New(10)
	for range 64 {
		add(t, f, 0, piece(1, 0, true, eight(1)...), false, api.OK)
	}
	add(t, f, 0, piece(1, 0, true, eight(2)...), false, api.ErrLong)
	must(t, "let go", f.Len(), 0)
}

// Promise 8.1: the head is that of the first piece at 0.
func TestHead(t *testing.T) {
	f, _ := New(10)
	for i, p := range []ip.Packet{piece(1, 1, false, 5), piece(1, 0, true, eight(1)...)} {
		p.Life, p.Whole = 10+i, i == 1
		q, ok, _ := f.Add(0, p)
		if i == 1 {
			must(t, "whole", []any{q, ok}, []any{ip.Packet{ID: 1, Life: 11, Whole: true, Data: append(eight(1), 5)}, true})
		}
	}
}

// Promises 8.1 and 8.4: the time.
func TestAge(t *testing.T) {
	f, _ := New(10)
	add(t, f, 0, piece(1, 0, true, eight(1)...), false, api.OK)
	add(t, f, 5, piece(2, 0, true, eight(1)...), false, api.OK)
	add(t, f, 9, piece(1, 1, true, eight(1)...), false, api.OK)
	n, e := f.Age(9)
	must(t, "Age at 9", []any{n, e}, []any{0, api.OK})
	n, e = f.Age(10)
	must(t, "Age at 10", []any{n, e, f.Len()}, []any{1, api.OK, 1})
	_, e = f.Age(9)
	must(t, "Age back", e, api.ErrArg)
	_, e = f.Age(api.MaxTick + 1)
	must(t, "Age too far", e, api.ErrArg)
	add(t, f, 15, ip.Packet{}, true, api.OK)
	must(t, "Add lets go", f.Len(), 0)
}

// Promises 8.2 and 8.3.
func TestWholeApart(t *testing.T) {
	r := rand.New(rand.NewSource(1))
	for range 200 {
		f, _ := New(10)
		var wholes [3]ip.Packet
		var all []ip.Packet
		for i := range wholes {
			wholes[i] = ip.Packet{ID: 7, Kind: i % 2, From: api.Addr(i / 2), Life: 3, Data: make([]byte, 30+r.Intn(150))}
			r.Read(wholes[i].Data)
			l, _ := ip.Cut(wholes[i], 28+r.Intn(20))
			all = append(all, l...)
			if r.Intn(2) == 0 {
				all = append(all, l[r.Intn(len(l))])
			}
		}
		r.Shuffle(len(all), func(i, j int) { all[i], all[j] = all[j], all[i] })
		come := map[string]int{}
		for _, p := range all {
			q, ok, e := f.Add(0, p)
			must(t, "Add", e, api.OK)
			if ok {
				come[fmt.Sprint(q)]++
			}
		}
		for _, w := range wholes {
			if n := come[fmt.Sprint(w)]; n != 1 {
				t.Fatalf("it came %d times: %v", n, w)
			}
		}
	}
}

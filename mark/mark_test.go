package mark

import (
	"bytes"
	"fmt"
	"math/rand"
	"testing"

	"pointsman/api"
)

func must(t *testing.T, what string, got, want any) {
	t.Helper()
	if g, w := fmt.Sprint(got), fmt.Sprint(want); g != w {
		t.Errorf("%s: %s, want %s", what, g, w)
	}
}

func told(l []Message, f api.Fault, ok bool) string { return fmt.Sprint(l, f, ok) }

// raw is a head with anything in it.
func raw(length, kind int, body ...byte) []byte {
	b := append(bytes.Repeat([]byte{0xff}, 16), byte(length>>8), byte(length), byte(kind))
	return append(b, body...)
}

func TestExample(t *testing.T) {
	b, e := Build(4, nil)
	must(t, "a KEEPALIVE", []any{b, e}, []any{raw(19, 4), api.OK})
}

// Promise 17.1.
func TestBuild(t *testing.T) {
	for _, c := range []struct {
		kind, n int
		ok      bool
	}{
		{-1, 10, false}, {0, 10, false}, {6, 10, false}, {257, 10, false}, {1, 9, false}, {1, 10, true}, {1, 4077, true}, {1, 4078, false},
		{2, 3, false}, {2, 4, true}, {2, 4077, true}, {3, 1, false}, {3, 2, true}, {4, 0, true}, {4, 1, false}, {5, 3, false}, {5, 4, true}, {5, 5, false},
	} {
		b, e := Build(c.kind, make([]byte, c.n))
		want := api.ErrArg
		if c.ok {
			want = api.OK
		}
		must(t, fmt.Sprint("Build ", c), []any{e, len(b)}, []any{want, map[bool]int{true: 19 + c.n}[c.ok]})
	}
}

// Promise 17.2.
func TestFaults(t *testing.T) {
	for i, c := range []struct {
		b []byte
		f api.Fault
	}{
		{append([]byte{0xfe}, raw(5, 9)[1:]...), api.Fault{Code: 1, Sub: 1}},
		{raw(18, 9), api.Fault{Code: 1, Sub: 2, Data: []byte{0, 18}}},
		{raw(4097, 9), api.Fault{Code: 1, Sub: 2, Data: []byte{16, 1}}},
		{raw(19, 0), api.Fault{Code: 1, Sub: 3, Data: []byte{0}}},
		{raw(4096, 6), api.Fault{Code: 1, Sub: 3, Data: []byte{6}}},
		{raw(28, 1), api.Fault{Code: 1, Sub: 2, Data: []byte{0, 28}}},
		{raw(20, 4), api.Fault{Code: 1, Sub: 2, Data: []byte{0, 20}}},
	} {
		s := New()
		keep, _ := Build(4, nil)
		must(t, "a head that is not there", told(s.Feed(append(keep, c.b[:18]...))), told([]Message{{Kind: 4}}, api.Fault{}, true))
		must(t, "Held", s.Held(), 18)
		must(t, fmt.Sprint("fault ", i), told(s.Feed(c.b[18:])), told(nil, c.f, false))
		must(t, "Held behind a fault", s.Held(), 0)
		must(t, "behind a fault", told(s.Feed(keep)), told(nil, api.Fault{}, false))
		must(t, "Held", s.Held(), 0)
	}
	s := New()
	must(t, "a message and a fault at once", told(s.Feed(append(raw(23, 5, 1, 2, 3, 4), raw(19, 7)...))), told([]Message{{5, []byte{1, 2, 3, 4}}}, api.Fault{Code: 1, Sub: 3, Data: []byte{7}}, false))
	must(t, "nothing", told(New().Feed(nil)), told(nil, api.Fault{}, true))
	for _, s := range []*Splitter{nil, {}} {
		must(t, "of no splitter", []any{told(s.Feed(raw(19, 4))), s.Held()}, []any{told(nil, api.Fault{}, false), 0})
	}
}

// Promises 17.3 to 17.5.
func TestPieces(t *testing.T) {
	r := rand.New(rand.NewSource(1))
	least := []int{0, 10, 4, 2, 0, 4}
	for range 300 {
		var stream []byte
		var want []Message
		for range r.Intn(8) {
			kind := 1 + r.Intn(5)
			n := least[kind]
			if kind < 4 {
				n += r.Intn(100)
			}
			m := Message{kind, make([]byte, n)}
			r.Read(m.Body)
			b, e := Build(m.Kind, m.Body)
			must(t, "Build", e, api.OK)
			stream, want = append(stream, b...), append(want, m)
		}
		if r.Intn(2) == 0 {
			junk := make([]byte, 40)
			r.Read(junk)
			stream = append(stream, junk...)
		}
		l, f, ok := New().Feed(stream)
		must(t, "at once", l, want)
		var got []Message
		var fault api.Fault
		fine, s := true, New()
		for rest := stream; len(rest) > 0; {
			n := 1 + r.Intn(len(rest))
			l, f, ok := s.Feed(bytes.Clone(rest[:n]))
			got, rest = append(got, l...), rest[n:]
			if !ok && fine {
				fault, fine = f, false
			}
		}
		must(t, "in pieces", told(got, fault, fine), told(l, f, ok))
		for _, m := range got {
			b, _ := Build(m.Kind, m.Body)
			must(t, "its bytes", b, stream[:len(b)])
			stream = stream[len(b):]
		}
	}
}

package pool

import (
	"bytes"
	"math/rand"
	"slices"
	"testing"

	"pointsman/api"
)

func must(t *testing.T, what string, got, want api.Errno) {
	t.Helper()
	if got != want {
		t.Errorf("%s: %v, want %v", what, got, want)
	}
}

func TestExample(t *testing.T) {
	p, _ := Make(1)
	h, e := p.Lend([]byte{7})
	if h != (Handle{0, 1}) || e != api.OK {
		t.Errorf("first: %v %v", h, e)
	}
	must(t, "Give", p.Give(h), api.OK)
	h2, e := p.Lend([]byte{8})
	if h2 != (Handle{0, 2}) || e != api.OK {
		t.Errorf("second: %v %v", h2, e)
	}
	_, e = p.Read(h)
	must(t, "Read of ticket 1", e, api.ErrNone)
}

// Promise 2.1.
func TestErrors(t *testing.T) {
	for _, n := range []int{-1, 0, api.MaxPool + 1, 1 << 62} {
		if p, e := Make(n); p != nil || e != api.ErrArg {
			t.Errorf("Make(%d): %v", n, e)
		}
	}
	p, e := Make(api.MaxPool)
	must(t, "Make", e, api.OK)
	if p.Size() != api.MaxPool || p.Free() != api.MaxPool {
		t.Error("a pool of MaxPool")
	}
	p, _ = Make(2)
	long := make([]byte, api.MaxFrame+1)
	h, e := p.Lend(long)
	if h != (Handle{}) || e != api.ErrLong {
		t.Errorf("Lend of too many: %v %v", h, e)
	}
	a, e := p.Lend(long[1:])
	must(t, "Lend of MaxFrame", e, api.OK)
	if a != (Handle{0, 1}) {
		t.Errorf("a refused lending counts: %v", a)
	}
	b, _ := p.Lend(nil)
	_, e = p.Lend(long)
	must(t, "ErrLong ahead of ErrFull", e, api.ErrLong)
	_, e = p.Lend(nil)
	must(t, "full", e, api.ErrFull)
	for _, h := range []Handle{{-1, 1}, {2, 1}, {1 << 62, 0}} {
		_, e = p.Read(h)
		must(t, "Read", e, api.ErrArg)
		must(t, "Write", p.Write(h, long), api.ErrArg)
		must(t, "Give", p.Give(h), api.ErrArg)
	}
	must(t, "another ticket", p.Write(Handle{0, 2}, long), api.ErrNone)
	must(t, "too long", p.Write(b, long), api.ErrLong)
	if got, e := p.Read(b); len(got) != 0 || e != api.OK {
		t.Errorf("after a refused Write: %v %v", got, e)
	}
	must(t, "Give", p.Give(a), api.OK)
	must(t, "Give twice", p.Give(a), api.ErrNone)
	must(t, "a free one's ticket 0", p.Give(Handle{0, 0}), api.ErrNone)
}

// Promise 2.1: what is handed in or out is not shared.
func TestCopies(t *testing.T) {
	p, _ := Make(1)
	in := []byte{1, 2, 3}
	h, _ := p.Lend(in)
	in[0] = 9
	out, _ := p.Read(h)
	out[1] = 9
	if got, _ := p.Read(h); !bytes.Equal(got, []byte{1, 2, 3}) {
		t.Errorf("shared: %v", got)
	}
	p.Write(h, []byte{4})
	if got, _ := p.Read(h); !bytes.Equal(got, []byte{4}) {
		t.Errorf("written: %v", got)
	}
}

// Promise 2.1: free ones are lent in the order in which they became free.
func TestOrder(t *testing.T) {
	p, _ := Make(3)
	var h [3]Handle
	for i := range h {
		h[i], _ = p.Lend(nil)
		if h[i].N != i {
			t.Errorf("at first by their numbers: %v", h[i])
		}
	}
	for _, i := range []int{2, 0, 1} {
		p.Give(h[i])
	}
	for _, want := range []int{2, 0, 1} {
		if got, _ := p.Lend(nil); got.N != want {
			t.Errorf("lent %d, want %d", got.N, want)
		}
	}
}

// Promise 2.2, and rule 2.
func TestLentAndNil(t *testing.T) {
	p, _ := Make(3)
	p.Lend(nil)
	b, _ := p.Lend(nil)
	p.Lend(nil)
	p.Give(b)
	if got := p.Lent(); !slices.Equal(got, []Handle{{0, 1}, {2, 3}}) || p.Free() != 1 || p.Size() != 3 {
		t.Errorf("Lent: %v", got)
	}
	for _, p := range []*Pool{nil, {}} {
		_, e := p.Lend(make([]byte, 2000))
		must(t, "Lend", e, api.ErrNil)
		_, e = p.Read(Handle{-1, 0})
		must(t, "Read", e, api.ErrNil)
		must(t, "Write", p.Write(Handle{-1, 0}, nil), api.ErrNil)
		must(t, "Give", p.Give(Handle{-1, 0}), api.ErrNil)
		if p.Free() != 0 || p.Size() != 0 || p.Lent() != nil {
			t.Error("of no pool")
		}
	}
}

// Promises 2.3, 2.4 and 2.5.
func TestApartOnceAll(t *testing.T) {
	r := rand.New(rand.NewSource(1))
	p, _ := Make(5)
	held := map[Handle][]byte{}
	var old []Handle
	for range 3000 {
		switch b := []byte{byte(r.Int()), byte(r.Int())}; r.Intn(3) {
		case 0:
			if h, e := p.Lend(b); e == api.OK {
				held[h] = b
			} else if len(held) != 5 {
				t.Fatal("full too early")
			}
		case 1:
			for h := range held {
				must(t, "Give", p.Give(h), api.OK)
				old = append(old, h)
				delete(held, h)
				break
			}
		case 2:
			for h := range held {
				must(t, "Write", p.Write(h, b), api.OK)
				held[h] = b
				break
			}
		}
		for h, b := range held {
			if got, _ := p.Read(h); !bytes.Equal(got, b) {
				t.Fatalf("%v: %v, want %v", h, got, b)
			}
		}
		if len(old) > 0 {
			must(t, "an old ticket", p.Write(old[r.Intn(len(old))], nil), api.ErrNone)
		}
		if p.Free()+len(p.Lent()) != p.Size() || len(p.Lent()) != len(held) {
			t.Fatal("free and lent are not all")
		}
	}
}

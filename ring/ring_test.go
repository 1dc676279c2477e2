package ring

import (
	"bytes"
	"math/rand"
	"slices"
	"testing"

	"pointsman/api"
	"pointsman/pool"
)

func must(t *testing.T, what string, got, want api.Errno) {
	t.Helper()
	if got != want {
		t.Errorf("%s: %v, want %v", what, got, want)
	}
}

func lend(t *testing.T, p *pool.Pool, b ...byte) pool.Handle {
	t.Helper()
	h, e := p.Lend(b)
	must(t, "Lend", e, api.OK)
	return h
}

func TestExample(t *testing.T) {
	p, _ := pool.Make(3)
	a, b, c := lend(t, p), lend(t, p), lend(t, p)
	r, _ := Make(2)
	must(t, "Post a", r.Post(a), api.OK)
	must(t, "Post b", r.Post(b), api.OK)
	must(t, "Post c", r.Post(c), api.ErrFull)
	must(t, "Fill", r.Fill(p, []byte{7}), api.OK)
	if got, _ := p.Read(a); !bytes.Equal(got, []byte{7}) {
		t.Errorf("a's buffer: %v", got)
	}
	h, e := r.Reap()
	if h != a || e != api.OK {
		t.Errorf("Reap: %v %v", h, e)
	}
	h, e = r.Reap()
	if h != (pool.Handle{}) || e != api.ErrOwner {
		t.Errorf("Reap again: %v %v", h, e)
	}
}

// Promise 3.1.
func TestErrors(t *testing.T) {
	for _, n := range []int{-1, 0, api.MaxRing + 1} {
		if r, e := Make(n); r != nil || e != api.ErrArg {
			t.Errorf("Make(%d): %v", n, e)
		}
	}
	p, _ := pool.Make(1)
	r, _ := Make(3)
	must(t, "Fill of an empty slot", r.Fill(p, nil), api.ErrOwner)
	_, e := r.Take(p)
	must(t, "Take of an empty slot", e, api.ErrOwner)
	_, e = r.Reap()
	must(t, "Reap of an empty slot", e, api.ErrOwner)
	h := lend(t, p, 1)
	r.Post(h)
	r.Post(pool.Handle{N: 5, Ticket: 1})
	r.Post(pool.Handle{N: 0, Ticket: 9})
	_, e = r.Reap()
	must(t, "Reap of a posted slot", e, api.ErrOwner)
	must(t, "Fill of too many", r.Fill(p, make([]byte, 2000)), api.ErrLong)
	must(t, "Fill of no buffer", r.Fill(p, nil), api.ErrArg)
	b, e := r.Take(p)
	if b != nil || e != api.ErrNone {
		t.Errorf("Take by an old ticket: %v %v", b, e)
	}
	if !slices.Equal(r.Slots(), []int{2, 2, 2}) {
		t.Errorf("done in any case: %v", r.Slots())
	}
	must(t, "Fill of a done slot", r.Fill(p, nil), api.ErrOwner)
	for range 3 {
		_, e = r.Reap()
		must(t, "Reap", e, api.OK)
	}
}

// Promise 3.1: a pool that no call made.
func TestNoPool(t *testing.T) {
	r, _ := Make(1)
	must(t, "Fill", r.Fill(nil, nil), api.ErrOwner)
	r.Post(pool.Handle{})
	must(t, "Fill", r.Fill(nil, nil), api.ErrNil)
	r.Reap()
	r.Post(pool.Handle{})
	_, e := r.Take(&pool.Pool{})
	must(t, "Take", e, api.ErrNil)
	if r.Count(2) != 1 {
		t.Error("not done")
	}
}

// Promise 3.2, and rule 2.
func TestSlots(t *testing.T) {
	p, _ := pool.Make(4)
	r, _ := Make(4)
	for range 3 {
		r.Post(lend(t, p, 5))
	}
	b, e := r.Take(p)
	if !bytes.Equal(b, []byte{5}) || e != api.OK {
		t.Errorf("Take: %v %v", b, e)
	}
	if got := r.Slots(); !slices.Equal(got, []int{2, 1, 1, 0}) {
		t.Errorf("Slots: %v", got)
	}
	if r.Count(0) != 1 || r.Count(1) != 2 || r.Count(2) != 1 || r.Count(3) != 0 || r.Count(-1) != 0 {
		t.Error("Count")
	}
	r.Slots()[0] = 0
	if r.Count(2) != 1 {
		t.Error("the list is shared")
	}
	for _, r := range []*Ring{nil, {}} {
		must(t, "Post", r.Post(pool.Handle{}), api.ErrNil)
		must(t, "Fill", r.Fill(p, nil), api.ErrNil)
		_, e := r.Take(p)
		must(t, "Take", e, api.ErrNil)
		_, e = r.Reap()
		must(t, "Reap", e, api.ErrNil)
		if r.Slots() != nil || r.Count(0) != 0 {
			t.Error("of no ring")
		}
	}
}

// Promises 3.3 and 3.4.
func TestInOrderAll(t *testing.T) {
	rnd := rand.New(rand.NewSource(1))
	for _, n := range []int{1, 2, 7, api.MaxRing} {
		p, _ := pool.Make(1)
		r, _ := Make(n)
		var in, worked []pool.Handle
		for i := range 2000 {
			switch rnd.Intn(3) {
			case 0:
				h := pool.Handle{N: i, Ticket: 1}
				e := r.Post(h)
				if (e == api.OK) != (len(in)+len(worked) < n) {
					t.Fatalf("Post with %d of %d: %v", len(in)+len(worked), n, e)
				}
				if e == api.OK {
					in = append(in, h)
				}
			case 1:
				if e := r.Fill(p, nil); (e == api.ErrOwner) != (len(in) == 0) {
					t.Fatalf("Fill: %v", e)
				}
				if len(in) > 0 {
					worked, in = append(worked, in[0]), in[1:]
				}
			case 2:
				h, e := r.Reap()
				if (e == api.OK) != (len(worked) > 0) || e == api.OK && h != worked[0] {
					t.Fatalf("Reap: %v %v", h, e)
				}
				if e == api.OK {
					worked = worked[1:]
				}
			}
			if r.Count(0)+r.Count(1)+r.Count(2) != n || r.Count(1) != len(in) || r.Count(2) != len(worked) {
				t.Fatalf("Slots: %v", r.Slots())
			}
		}
	}
}

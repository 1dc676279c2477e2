package store

import (
	"fmt"
	"math/rand"
	"testing"

	"pointsman/api"
	"pointsman/attr"
)

func must(t *testing.T, what string, got, want any) {
	t.Helper()
	if g, w := fmt.Sprintf("%+v", got), fmt.Sprintf("%+v", want); g != w {
		t.Errorf("%s: %s, want %s", what, g, w)
	}
}

func with(next api.Addr) api.Attrs { return api.Attrs{Next: next} }

func keep(t *testing.T, s *Store, a api.Attrs, want int) {
	t.Helper()
	id, e := s.Keep(a)
	must(t, "Keep", []any{id, e}, []any{want, api.OK})
}

func TestExample(t *testing.T) {
	s := New()
	keep(t, s, with(1), 1)
	keep(t, s, with(1), 1)
	keep(t, s, with(2), 2)
	must(t, "Count", s.Count(1), 2)
}

// Promise 29.1.
func TestCalls(t *testing.T) {
	s := New()
	id, e := s.Keep(api.Attrs{})
	must(t, "Keep of what may not be", []any{id, e, s.Len()}, []any{0, api.ErrArg, 0})
	a := api.Attrs{Next: 1, Comms: []uint32{5}, Path: []api.Segment{{AS: []uint32{7}}}, HasLocal: true, Local: 3}
	keep(t, s, a, 1)
	a.Comms[0] = 6
	got, e := s.Get(1)
	must(t, "Get", []any{got.Comms, got.Local, e}, []any{[]uint32{5}, 3, api.OK})
	got.Path[0].AS[0] = 9
	got, _ = s.Get(1)
	must(t, "of its own", got.Path[0].AS[0], 7)
	for _, id := range []int{-1, 0, 2} {
		x, e := s.Get(id)
		must(t, "a number that nothing is kept by", []any{x, e, s.Free(id), s.Count(id)}, []any{api.Attrs{}, api.ErrNone, api.ErrNone, 0})
	}
	keep(t, s, a, 2)
	keep(t, s, a, 2)
	must(t, "Free", []any{s.Free(2), s.Count(2), s.Free(2), s.Count(2), s.Free(2), s.Len()}, []any{api.OK, 1, api.OK, 0, api.ErrNone, 1})
	keep(t, s, a, 3)
	for i := range api.MaxItems - 2 {
		keep(t, s, with(api.Addr(1000+i)), 4+i)
	}
	id, e = s.Keep(with(9))
	must(t, "full", []any{id, e, s.Len()}, []any{0, api.ErrFull, api.MaxItems})
	_, e = s.Keep(api.Attrs{})
	must(t, "ErrArg ahead of ErrFull", e, api.ErrArg)
	keep(t, s, a, 3)
	s.Free(1)
	keep(t, s, with(9), api.MaxItems+2)
	for _, s := range []*Store{nil, {}} {
		_, e := s.Keep(api.Attrs{})
		_, e2 := s.Get(1)
		must(t, "of no store", []any{e, e2, s.Free(1), s.Count(1), s.Len()}, []any{api.ErrNil, api.ErrNil, api.ErrNil, 0, 0})
	}
}

// Promises 29.2 and 29.3.
func TestOnce(t *testing.T) {
	r := rand.New(rand.NewSource(1))
	s, kept := New(), map[int]api.Attrs{}
	counts, last := map[int]int{}, 0
	for range 5000 {
		a := api.Attrs{Next: api.Addr(1 + r.Intn(2)), HasLocal: r.Intn(2) == 0, Local: uint32(r.Intn(2)), HasMed: r.Intn(2) == 0, Med: uint32(r.Intn(2)), Atomic: r.Intn(2) == 0, Comms: make([]uint32, r.Intn(2))}
		if r.Intn(2) == 0 {
			id, _ := s.Keep(a)
			if b, has := kept[id]; has {
				must(t, "the same", attr.Same(a, b), true)
			} else {
				for _, b := range kept {
					must(t, "others", attr.Same(a, b), false)
				}
				must(t, "a new number", id, last+1)
				last, kept[id] = id, a
			}
			counts[id]++
		} else {
			for id := range kept {
				must(t, "Free", s.Free(id), api.OK)
				if counts[id]--; counts[id] == 0 {
					delete(kept, id)
				}
				break
			}
		}
		must(t, "Len", s.Len(), len(kept))
		for id := range kept {
			must(t, "Count", s.Count(id), counts[id])
		}
	}
}

package view

import (
	"fmt"
	"math/rand"
	"testing"

	"pointsman/api"
	"pointsman/attr"
	"pointsman/best"
	"pointsman/store"
	"pointsman/trie"
)

func must(t *testing.T, what string, got, want any) {
	t.Helper()
	if g, w := fmt.Sprintf("%+v", got), fmt.Sprintf("%+v", want); g != w {
		t.Errorf("%s: %s, want %s", what, g, w)
	}
}

var p8 = api.Prefix{Addr: 0x0a000000, Len: 8}

func p(i int) api.Prefix { return api.Prefix{Addr: api.Addr(i) << 24, Len: 8} }

func with(next api.Addr) api.Attrs { return api.Attrs{Next: next} }

func way(as ...uint32) []api.Segment { return []api.Segment{{AS: as}} }

func make1(t *testing.T) (*View, *store.Store) {
	t.Helper()
	s := store.New()
	v, e := New(s)
	must(t, "New", e, api.OK)
	return v, s
}

func TestExample(t *testing.T) {
	v, _ := make1(t)
	v.Want(p8, with(1), true)
	must(t, "due", v.Due(), 1)
	must(t, "told", v.Take(9), []Change{{P: p8, Attrs: with(1), Told: true}})
	v.Want(p8, with(1), false)
	must(t, "due", v.Due(), 1)
	must(t, "withdrawn", v.Take(9), []Change{{P: p8}})
}

// Promise 32.1.
func TestChoose(t *testing.T) {
	cand := func(peer int, as ...uint32) best.Cand {
		return best.Cand{Peer: peer, AS: uint32(peer), ID: api.Addr(peer), Attrs: api.Attrs{Path: way(as...), Next: api.Addr(peer), HasLocal: true, Local: 100}}
	}
	l := []best.Cand{cand(1, 5), cand(2, 6, 7), cand(3, 8, 9)}
	choose := func(c Client, l []best.Cand) string {
		a, i := Choose(c, p8, l)
		return fmt.Sprint(a.Next, a.HasLocal, a.Local, a.Med, " ", i)
	}
	must(t, "the best", choose(Client{Peer: 9}, l), "1 false 0 0 0")
	must(t, "not its own", choose(Client{Peer: 1}, l), "2 false 0 0 1")
	must(t, "not with its system", choose(Client{Peer: 1, AS: 6}, l), "3 false 0 0 2")
	must(t, "none", []any{choose(Client{}, nil), choose(Client{Peer: 1}, l[:1])}, []any{"0 false 0 0 -1", "0 false 0 0 -1"})
	prefers := []api.Step{{Op: 6, N: 9, X: 1, Y: 3}, {Op: 25, N: 200, X: 2}, {Op: 26, N: 4, X: 3}, {Op: 22}}
	must(t, "as its policy lets them be", choose(Client{Peer: 9, Out: prefers}, l), "3 false 0 4 2")
	rejects := []api.Step{{Op: 6, N: 5, X: 1, Y: 2}, {Op: 23}, {Op: 22}}
	must(t, "that its policy accepts", choose(Client{Peer: 9, Out: rejects}, l), "2 false 0 0 1")
	must(t, "a table that is not right", choose(Client{Peer: 9, Out: []api.Step{{Op: 99}}}, l), "0 false 0 0 -1")
	a, _ := Choose(Client{Peer: 9}, p8, l)
	a.Path[0].AS[0] = 77
	must(t, "of its own", l[0].Attrs.Path[0].AS[0], 5)
}

// Promise 32.2.
func TestWant(t *testing.T) {
	for _, s := range []*store.Store{nil, {}} {
		v, e := New(s)
		must(t, "New", []any{v == nil, e}, []any{true, api.ErrArg})
	}
	v, s := make1(t)
	bad := api.Prefix{Addr: 1, Len: 8}
	must(t, "Want", []any{v.Want(bad, with(1), true), v.Want(bad, with(1), false), v.Want(p8, api.Attrs{}, true), v.Want(p8, api.Attrs{}, false), v.Len(), v.Due()}, []any{api.ErrArg, api.ErrArg, api.ErrArg, api.OK, 0, 0})
	a := with(1)
	a.HasLocal, a.Local = true, 7
	v.Want(p(3), a, true)
	v.Want(p(2), with(2), true)
	v.Want(p(1), with(3), true)
	got, ok := v.Wanted(p(3))
	_, said := v.Said(p(3))
	must(t, "Wanted", []any{got, ok, said, v.Len(), v.Due()}, []any{with(1), true, false, 3, 3})
	must(t, "Take of none", []any{len(v.Take(0)), len(v.Take(-1)), v.Due()}, []any{0, 0, 3})
	must(t, "Take", v.Take(2), []Change{{p(1), with(3), true}, {p(2), with(2), true}})
	got, ok = v.Said(p(2))
	must(t, "Said", []any{got, ok, v.Due(), v.All()}, []any{with(2), true, 1, []api.Prefix{p(1), p(2), p(3)}})
	v.Want(p(3), a, false)
	must(t, "wanted no more, and never said", []any{v.Due(), v.Len()}, []any{0, 2})
	v.Want(p(1), with(3), true)
	must(t, "wanted as it was said", v.Due(), 0)
	v.Want(p(1), with(9), true)
	v.Want(p(1), with(3), true)
	must(t, "and again", v.Due(), 0)
	v.Want(p(1), with(9), true)
	must(t, "Take of others", v.Take(9), []Change{{p(1), with(9), true}})
	v.Want(p(2), with(1), false)
	_, ok = v.Wanted(p(2))
	_, said = v.Said(p(2))
	must(t, "to be withdrawn", []any{ok, said, v.Due(), v.Len(), v.All()}, []any{false, true, 1, 1, []api.Prefix{p(1)}})
	must(t, "the store", s.Len(), 2)
	for _, v := range []*View{nil, {}} {
		v.Again()
		v.Reset()
		_, ok := v.Wanted(p8)
		_, said := v.Said(p8)
		must(t, "of no view", []any{v.Want(bad, with(1), true), ok, said, v.Due(), len(v.Take(3)), len(v.All()), v.Len()}, []any{api.ErrNil, false, false, 0, 0, 0, 0})
	}
}

// Promise 32.2: no room.
func TestFull(t *testing.T) {
	v, s := make1(t)
	for i := range api.MaxItems {
		s.Keep(with(api.Addr(100 + i)))
	}
	must(t, "no room in the store", []any{v.Want(p8, with(1), true), v.Len(), v.Want(p8, with(100), true), v.Want(p8, with(1), true)}, []any{api.ErrFull, 0, api.OK, api.ErrFull})
	a, _ := v.Wanted(p8)
	must(t, "nothing is changed", a, with(100))
	v, s = make1(t)
	for i := range api.MaxItems {
		v.Want(api.Prefix{Addr: api.Addr(i) << 16, Len: 16}, with(1), true)
	}
	must(t, "no room for a prefix", []any{v.Want(api.Prefix{}, with(2), true), v.Want(api.Prefix{}, with(2), false), s.Len(), s.Count(1)}, []any{api.ErrFull, api.OK, 1, api.MaxItems})
}

// Promise 32.3.
func TestAgainReset(t *testing.T) {
	v, s := make1(t)
	v.Want(p(1), with(1), true)
	v.Want(p(2), with(2), true)
	v.Want(p(3), with(3), true)
	v.Take(9)
	v.Want(p(2), with(2), false)
	v.Want(p(4), with(4), true)
	v.Again()
	must(t, "Again", v.Due(), 4)
	v.Want(p(3), with(3), false)
	v.Want(p(3), with(3), true)
	must(t, "what was wanted no more is not to be said again", v.Take(9), []Change{{p(1), with(1), true}, {P: p(2)}, {p(4), with(4), true}})
	must(t, "not to be said again", v.Due(), 0)
	v.Want(p(1), with(7), true)
	v.Reset()
	_, ok := v.Wanted(p(1))
	_, said := v.Said(p(1))
	must(t, "Reset", []any{ok, said, v.Due(), v.Len(), v.All(), s.Len()}, []any{false, false, 0, 0, []api.Prefix{}, 0})
}

// Promises 32.4 and 32.6.
func TestFolds(t *testing.T) {
	r := rand.New(rand.NewSource(1))
	v, s := make1(t)
	heard := map[api.Prefix]api.Attrs{}
	for range 3000 {
		q := p(r.Intn(12))
		switch r.Intn(6) {
		case 0:
			v.Want(q, api.Attrs{}, false)
		case 1, 2, 3:
			v.Want(q, with(api.Addr(1+r.Intn(4))), true)
		case 4:
			n := 1 + r.Intn(5)
			l := v.Take(n)
			for i, c := range l {
				if len(l) > n || i > 0 && !trie.Ahead(l[i-1].P, c.P) {
					t.Fatal("not in order")
				}
				if c.Told {
					heard[c.P] = c.Attrs
				} else {
					delete(heard, c.P)
				}
			}
		case 5:
			if r.Intn(10) == 0 {
				v.Again()
			}
		}
		due, wanted, kept := 0, 0, 0
		for i := range 12 {
			a, ok := v.Wanted(p(i))
			b, said := v.Said(p(i))
			h, has := heard[p(i)]
			must(t, "what was said", []any{b, said}, []any{h, has})
			if ok != said || !attr.Same(a, b) {
				due++
			}
			if ok {
				wanted++
			}
		}
		for id := range 4000 {
			kept += s.Count(id)
		}
		if v.Due() < due || v.Len() != wanted || len(v.All()) != wanted || kept != wanted+len(heard) {
			t.Fatalf("due %d, %d wanted, %d kept", v.Due(), v.Len(), kept)
		}
	}
	v.Reset()
	must(t, "the store keeps nothing", s.Len(), 0)
}

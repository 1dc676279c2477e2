package rib

import (
	"fmt"
	"math/rand"
	"slices"
	"testing"

	"pointsman/api"
	"pointsman/attr"
	"pointsman/store"
	"pointsman/upd"
)

func must(t *testing.T, what string, got, want any) {
	t.Helper()
	if g, w := fmt.Sprintf("%+v", got), fmt.Sprintf("%+v", want); g != w {
		t.Errorf("%s: %s, want %s", what, g, w)
	}
}

func pfx(l ...string) []api.Prefix {
	var out []api.Prefix
	for _, s := range l {
		p, e := upd.Parse(s)
		if e != api.OK {
			panic(s)
		}
		out = append(out, p)
	}
	return out
}

func texts(l []api.Prefix) string {
	s := ""
	for _, p := range l {
		s += upd.Text(p) + " "
	}
	return s
}

func with(next api.Addr) api.Attrs { return api.Attrs{Next: next} }

func told(a api.Attrs, l ...string) api.Update { return api.Update{Told: pfx(l...), Attrs: a} }

func update(t *testing.T, x *Table, u api.Update, want string) {
	t.Helper()
	l, e := x.Update(u)
	must(t, "Update", []any{texts(l), e}, []any{want, api.OK})
}

func make1(t *testing.T, limit int) (*Table, *store.Store) {
	t.Helper()
	s := store.New()
	x, e := New(s, limit)
	must(t, "New", e, api.OK)
	return x, s
}

func TestExample(t *testing.T) {
	x, _ := make1(t, 0)
	x.Update(told(with(1), "10.0.0.0/8"))
	x.Mark()
	x.Update(told(with(1), "10.1.0.0/16"))
	must(t, "Sweep", []any{texts(x.Sweep()), texts(x.All())}, []any{"10.0.0.0/8 ", "10.1.0.0/16 "})
}

// Promise 30.1.
func TestUpdate(t *testing.T) {
	for _, s := range []*store.Store{nil, {}} {
		x, e := New(s, 1)
		must(t, "New of no store", []any{x == nil, e}, []any{true, api.ErrArg})
	}
	for _, limit := range []int{-1, 4097} {
		x, e := New(store.New(), limit)
		must(t, "New", []any{x == nil, e}, []any{true, api.ErrArg})
	}
	x, s := make1(t, 3)
	update(t, x, told(with(1), "10.0.0.0/8", "9.0.0.0/8", "10.0.0.0/8"), "9.0.0.0/8 10.0.0.0/8 ")
	must(t, "kept", []any{s.Len(), s.Count(1)}, []any{1, 2})
	update(t, x, told(with(1), "10.0.0.0/8"), "")
	update(t, x, told(with(2), "10.0.0.0/8"), "10.0.0.0/8 ")
	u := told(with(2), "10.0.0.0/8", "8.0.0.0/8")
	u.Withdrawn = pfx("10.0.0.0/8", "9.0.0.0/8", "7.0.0.0/8")
	update(t, x, u, "8.0.0.0/8 9.0.0.0/8 ")
	u = told(api.Attrs{}, "1.0.0.0/8")
	u.Withdrawn = pfx("8.0.0.0/8")
	update(t, x, u, "8.0.0.0/8 ")
	update(t, x, api.Update{Told: []api.Prefix{{Addr: 1, Len: 8}}, Attrs: with(3), Withdrawn: []api.Prefix{{Len: -1}}}, "")
	must(t, "a prefix that is not right", []any{texts(x.All()), s.Len()}, []any{"10.0.0.0/8 ", 1})
	u = told(with(4), "1.0.0.0/8", "2.0.0.0/8", "3.0.0.0/8", "3.0.0.0/8")
	l, e := x.Update(u)
	must(t, "more than the limit", []any{len(l), e, texts(x.All()), s.Len()}, []any{0, api.ErrFull, "10.0.0.0/8 ", 1})
	u.Withdrawn = pfx("10.0.0.0/8")
	update(t, x, u, "1.0.0.0/8 2.0.0.0/8 3.0.0.0/8 10.0.0.0/8 ")
	u.Withdrawn = pfx("1.0.0.0/8")
	update(t, x, u, "")
	a, stale, ok := x.Get(pfx("1.0.0.0/8")[0])
	must(t, "Get", []any{a, stale, ok}, []any{with(4), false, true})
	a, stale, ok = x.Get(pfx("10.0.0.0/8")[0])
	must(t, "Get of none", []any{a, stale, ok}, []any{api.Attrs{}, false, false})
	for _, x := range []*Table{nil, {}} {
		_, e := x.Update(api.Update{})
		x.Mark()
		_, _, ok := x.Get(api.Prefix{})
		must(t, "of no table", []any{e, ok, len(x.All()), x.Len(), x.Stale(), len(x.Sweep()), len(x.Clear())}, []any{api.ErrNil, false, 0, 0, 0, 0, 0})
	}
}

// Promise 30.1: no room in the store.
func TestStoreFull(t *testing.T) {
	x, s := make1(t, 0)
	update(t, x, told(with(1), "1.0.0.0/8", "2.0.0.0/8"), "1.0.0.0/8 2.0.0.0/8 ")
	for i := range api.MaxItems - 1 {
		s.Keep(with(api.Addr(10 + i)))
	}
	u := told(with(2), "3.0.0.0/8")
	u.Withdrawn = pfx("1.0.0.0/8")
	l, e := x.Update(u)
	must(t, "no room", []any{len(l), e, texts(x.All())}, []any{0, api.ErrFull, "1.0.0.0/8 2.0.0.0/8 "})
	update(t, x, told(with(10), "3.0.0.0/8"), "3.0.0.0/8 ")
	u.Withdrawn = pfx("1.0.0.0/8", "2.0.0.0/8")
	update(t, x, u, "1.0.0.0/8 2.0.0.0/8 3.0.0.0/8 ")
	must(t, "the store", s.Len(), api.MaxItems)
}

// Promise 30.2.
func TestStale(t *testing.T) {
	x, s := make1(t, 0)
	update(t, x, told(with(1), "1.0.0.0/8", "2.0.0.0/8", "3.0.0.0/8"), "1.0.0.0/8 2.0.0.0/8 3.0.0.0/8 ")
	must(t, "Sweep of none", []any{len(x.Sweep()), x.Len()}, []any{0, 3})
	x.Mark()
	update(t, x, told(with(1), "2.0.0.0/8"), "")
	_, stale, _ := x.Get(pfx("1.0.0.0/8")[0])
	_, fresh, _ := x.Get(pfx("2.0.0.0/8")[0])
	must(t, "Stale", []any{x.Stale(), stale, fresh}, []any{2, true, false})
	update(t, x, api.Update{Withdrawn: pfx("3.0.0.0/8")}, "3.0.0.0/8 ")
	must(t, "Sweep", []any{x.Stale(), texts(x.Sweep()), x.Stale(), texts(x.All())}, []any{1, "1.0.0.0/8 ", 0, "2.0.0.0/8 "})
	x.Mark()
	must(t, "Clear", []any{texts(x.Clear()), x.Len(), x.Stale(), s.Len()}, []any{"2.0.0.0/8 ", 0, 0, 0})
}

// Promises 30.3 to 30.5.
func TestFollows(t *testing.T) {
	r := rand.New(rand.NewSource(1))
	type was struct {
		a     api.Attrs
		stale bool
	}
	x, s := make1(t, 20)
	has := map[api.Prefix]was{}
	some := func() []api.Prefix {
		var l []api.Prefix
		for range r.Intn(8) {
			l = append(l, api.Prefix{Addr: api.Addr(r.Intn(30)) << 24, Len: 8})
		}
		return l
	}
	for range 3000 {
		before := map[api.Prefix]was{}
		for p, w := range has {
			before[p] = w
		}
		var changed []api.Prefix
		e := api.OK
		switch r.Intn(8) {
		case 0:
			x.Mark()
			for p, w := range has {
				has[p] = was{w.a, true}
			}
		case 1:
			changed = x.Sweep()
			for p, w := range has {
				if w.stale {
					delete(has, p)
				}
			}
		case 2:
			if r.Intn(5) == 0 {
				changed = x.Clear()
				clear(has)
			}
		default:
			u := api.Update{Withdrawn: some(), Told: some(), Attrs: with(api.Addr(1 + r.Intn(4)))}
			changed, e = x.Update(u)
			for _, p := range u.Withdrawn {
				delete(has, p)
			}
			for _, p := range u.Told {
				has[p] = was{u.Attrs, false}
			}
			if e == api.ErrFull {
				if len(has) <= 20 {
					t.Fatal("full too early")
				}
				has = before
			}
		}
		var want []api.Prefix
		stale := 0
		for p := range api.Addr(30) {
			q := api.Prefix{Addr: p << 24, Len: 8}
			a, ok := before[q]
			b, ok2 := has[q]
			if ok != ok2 || ok && !attr.Same(a.a, b.a) {
				want = append(want, q)
			}
			if b.stale {
				stale++
			}
			got, st, there := x.Get(q)
			must(t, "Get", []any{got, st, there}, []any{b.a, b.stale, ok2})
		}
		must(t, "changed", []any{texts(changed), x.Len(), x.Stale()}, []any{texts(want), len(has), stale})
		kept := 0
		for id := range 5000 {
			kept += s.Count(id)
		}
		if kept != len(has) || s.Len() > 4 || !slices.IsSortedFunc(x.All(), compare) {
			t.Fatalf("%d are kept, of %d", kept, len(has))
		}
	}
}

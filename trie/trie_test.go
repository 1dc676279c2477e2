package trie

import (
	"fmt"
	"math/rand"
	"slices"
	"testing"

	"pointsman/api"
	"pointsman/upd"
)

func must(t *testing.T, what string, got, want any) {
	t.Helper()
	if g, w := fmt.Sprintf("%+v", got), fmt.Sprintf("%+v", want); g != w {
		t.Errorf("%s: %s, want %s", what, g, w)
	}
}

func pfx(s string) api.Prefix {
	p, e := upd.Parse(s)
	if e != api.OK {
		panic(s)
	}
	return p
}

func some(r *rand.Rand) api.Prefix {
	n := r.Intn(33)
	if r.Intn(2) == 0 {
		n = r.Intn(6)
	}
	return first(api.Addr(r.Uint32())&0xf00000ff, n)
}

func TestExample(t *testing.T) {
	x := New[int]()
	x.Put(pfx("10.0.0.0/8"), 1)
	x.Put(pfx("10.1.0.0/16"), 2)
	p, ok := x.Longest(0x0a010203)
	must(t, "Longest", []any{upd.Text(p), ok}, []any{"10.1.0.0/16", true})
}

// Promises 28.1 and 28.2.
func TestCalls(t *testing.T) {
	x := New[string]()
	bad := []api.Prefix{{Addr: 1, Len: 8}, {Len: 33}, {Len: -1}}
	for _, p := range bad {
		v, ok := x.Get(p)
		must(t, "a prefix that is not right", []any{x.Put(p, "x"), v, ok, x.Drop(p), len(x.Under(p))}, []any{api.ErrArg, "", false, false, 0})
	}
	root := api.Prefix{}
	must(t, "Put", []any{x.Put(root, "a"), x.Put(root, "b"), x.Put(pfx("1.2.3.4/32"), "c"), x.Len()}, []any{api.OK, api.OK, api.OK, 2})
	v, ok := x.Get(root)
	must(t, "Get", []any{v, ok}, []any{"b", true})
	v, ok = x.Get(pfx("0.0.0.0/1"))
	must(t, "Get of none", []any{v, ok}, []any{"", false})
	p, ok := x.Longest(0x01020304)
	q, _ := x.Longest(0x01020305)
	must(t, "Longest", []any{upd.Text(p), ok, upd.Text(q)}, []any{"1.2.3.4/32", true, "0.0.0.0/0"})
	must(t, "Drop", []any{x.Drop(root), x.Drop(root), x.Len()}, []any{true, false, 1})
	p, ok = x.Longest(0x01020305)
	must(t, "Longest of none", []any{p, ok}, []any{root, false})
	for _, s := range []string{"10.1.0.0/16", "10.0.0.0/8", "10.0.0.0/9", "9.0.0.0/8", "10.128.0.0/9", "255.255.255.255/32"} {
		x.Put(pfx(s), s)
	}
	texts := func(l []api.Prefix) string {
		var s []string
		for _, p := range l {
			s = append(s, upd.Text(p))
		}
		return fmt.Sprint(s)
	}
	must(t, "All", texts(x.All()), "[1.2.3.4/32 9.0.0.0/8 10.0.0.0/8 10.0.0.0/9 10.1.0.0/16 10.128.0.0/9 255.255.255.255/32]")
	must(t, "Under", texts(x.Under(pfx("10.0.0.0/8"))), "[10.0.0.0/8 10.0.0.0/9 10.1.0.0/16 10.128.0.0/9]")
	must(t, "Under", texts(x.Under(pfx("10.0.0.0/15"))), "[10.1.0.0/16]")
	must(t, "Ahead", []bool{Ahead(pfx("9.0.0.0/8"), pfx("10.0.0.0/8")), Ahead(pfx("10.0.0.0/8"), pfx("9.0.0.0/8")), Ahead(pfx("10.0.0.0/8"), pfx("10.0.0.0/9")), Ahead(root, root), Ahead(api.Prefix{Len: -5}, root), Ahead(api.Prefix{Addr: 7, Len: 1}, api.Prefix{Addr: 7, Len: 2})}, []bool{true, false, true, false, true, true})
	for i := range api.MaxItems {
		x.Put(first(api.Addr(i)<<8, 24), "")
	}
	must(t, "full", []any{x.Len(), x.Put(pfx("77.0.0.0/8"), ""), x.Put(pfx("9.0.0.0/8"), "new")}, []any{api.MaxItems, api.ErrFull, api.OK})
	for _, x := range []*Trie[int]{nil, {}} {
		_, got := x.Get(root)
		_, longest := x.Longest(0)
		must(t, "of no trie", []any{x.Put(bad[0], 1), got, x.Drop(root), longest, len(x.Under(root)), len(x.All()), x.Len()}, []any{api.ErrNil, false, false, false, 0, 0, 0})
	}
}

// Promises 28.3 to 28.5.
func TestFollows(t *testing.T) {
	r := rand.New(rand.NewSource(1))
	x, has := New[int](), map[api.Prefix]int{}
	for i := range 4000 {
		p := some(r)
		if r.Intn(2) == 0 {
			must(t, "Put", x.Put(p, i), api.OK)
			has[p] = i
		} else {
			_, ok := has[p]
			must(t, "Drop", x.Drop(p), ok)
			delete(has, p)
		}
		if i%20 != 0 {
			continue
		}
		var all, under []api.Prefix
		top, a := some(r), api.Addr(r.Uint32())&0xf00000ff
		longest, found := api.Prefix{}, false
		for p, v := range has {
			got, ok := x.Get(p)
			must(t, "Get", []any{got, ok}, []any{v, true})
			all = append(all, p)
			if upd.Within(top, p) {
				under = append(under, p)
			}
			if upd.Within(p, api.Prefix{Addr: a, Len: 32}) && (!found || p.Len > longest.Len) {
				longest, found = p, true
			}
		}
		order := func(p, q api.Prefix) int {
			if Ahead(p, q) {
				return -1
			}
			return 1
		}
		slices.SortFunc(all, order)
		slices.SortFunc(under, order)
		p, ok := x.Longest(a)
		must(t, "all of it", []any{x.All(), x.Under(top), x.Len(), p, ok}, []any{all, under, len(has), longest, found})
	}
	for p := range has {
		x.Drop(p)
	}
	must(t, "nothing is kept", []any{x.root.kids[0] == nil, x.root.kids[1] == nil}, []any{true, true})
}

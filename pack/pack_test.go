package pack

import (
	"bytes"
	"fmt"
	"math"
	"math/rand"
	"testing"

	"pointsman/api"
	"pointsman/attr"
	"pointsman/mark"
	"pointsman/upd"
	"pointsman/view"
)

func must(t *testing.T, what string, got, want any) {
	t.Helper()
	if g, w := fmt.Sprintf("%+v", got), fmt.Sprintf("%+v", want); g != w {
		t.Errorf("%s: %s, want %s", what, g, w)
	}
}

func p(i int) api.Prefix { return api.Prefix{Addr: api.Addr(i) << 16, Len: 16} }

func told(i int, next api.Addr) view.Change {
	return view.Change{P: p(i), Attrs: api.Attrs{Next: next}, Told: true}
}

func gone(i int) view.Change { return view.Change{P: p(i)} }

// read reads messages.
func read(t *testing.T, l [][]byte, four bool) []api.Update {
	t.Helper()
	var out []api.Update
	for _, b := range l {
		m, _, ok := mark.New().Feed(b)
		if !ok || len(m) != 1 || m[0].Kind != 2 {
			t.Fatalf("no update: %x", b)
		}
		u, _, ok := upd.Read(m[0].Body, four)
		must(t, "it is read", ok, true)
		out = append(out, u)
	}
	return out
}

func TestExample(t *testing.T) {
	l, e := Pack([]view.Change{told(1, 5), told(2, 5)}, true)
	must(t, "two told", []any{read(t, l, true), e}, []any{[]api.Update{{Told: []api.Prefix{p(1), p(2)}, Attrs: api.Attrs{Next: 5}}}, api.OK})
}

// Promise 33.1.
func TestPack(t *testing.T) {
	l, e := Pack(nil, true)
	must(t, "nothing", []any{len(l), e}, []any{0, api.OK})
	for i, c := range []view.Change{{P: api.Prefix{Addr: 1, Len: 8}}, {P: p(1), Told: true}, {P: api.Prefix{Len: 33}, Told: true, Attrs: api.Attrs{Next: 1}}} {
		l, e := Pack([]view.Change{told(1, 5), c}, true)
		must(t, fmt.Sprint("Pack ", i), []any{len(l), e}, []any{0, api.ErrArg})
	}
	other := told(6, 5)
	other.Attrs.HasLocal = true
	l, e = Pack([]view.Change{told(3, 6), gone(9), told(1, 5), gone(2), told(4, 6), {P: p(7), Attrs: api.Attrs{Origin: 9}}, other}, false)
	must(t, "Pack", []any{read(t, l, false), e}, []any{[]api.Update{
		{Withdrawn: []api.Prefix{p(9), p(2), p(7)}}, {Told: []api.Prefix{p(3), p(4)}, Attrs: api.Attrs{Next: 6}}, {Told: []api.Prefix{p(1)}, Attrs: api.Attrs{Next: 5}}, {Told: []api.Prefix{p(6)}, Attrs: api.Attrs{Next: 5}},
	}, api.OK})
	big := told(1, 5)
	big.Attrs.Path = []api.Segment{{AS: []uint32{70000}}}
	for _, four := range []bool{false, true} {
		l, _ = Pack([]view.Change{big}, four)
		must(t, "in two or four bytes", attr.Same(read(t, l, four)[0].Attrs, big.Attrs), true)
	}
	must(t, "End", End(), append(bytes.Repeat([]byte{0xff}, 16), 0, 23, 2, 0, 0, 0, 0))
}

// Promises 33.1 and 33.4: as many as fit.
func TestFit(t *testing.T) {
	var l []view.Change
	for i := range 4000 {
		l = append(l, gone(i))
	}
	out, _ := Pack(l, true)
	must(t, "withdrawn", []int{len(out), len(out[0]), len(out[1]), len(out[2])}, []int{3, 23 + 1357*3, 23 + 1357*3, 23 + (4000-2*1357)*3})
	for i := range l {
		l[i] = told(i, 5)
	}
	out, _ = Pack(l, true)
	room := (4077 - 4 - 14) / 3
	must(t, "told", []int{len(out), len(read(t, out, true)[0].Told)}, []int{3, room})
}

// Promise 33.2.
func TestPacer(t *testing.T) {
	for _, gap := range []int{-1, 100001, math.MinInt} {
		x, e := New(gap)
		must(t, "New", []any{x == nil, e}, []any{true, api.ErrArg})
	}
	x, _ := New(50)
	must(t, "a time below 0", []any{x.Go(-1), x.Next()}, []any{false, 0})
	must(t, "Go", []any{x.Go(3), x.Next(), x.Go(52), x.Next(), x.Go(53), x.Next(), x.Go(10)}, []any{true, 53, false, 53, true, 103, false})
	must(t, "above MaxTick", []any{x.Go(math.MaxInt), x.Next(), x.Go(math.MaxInt)}, []any{true, api.MaxTick + 50, false})
	x, _ = New(0)
	must(t, "without a gap", []any{x.Go(5), x.Go(5), x.Next(), x.Go(4)}, []any{true, true, 5, false})
	for _, x := range []*Pacer{nil, {}} {
		must(t, "of no pacer", []any{x.Go(5), x.Next()}, []any{false, 0})
	}
}

// Promises 33.3 to 33.5.
func TestFollows(t *testing.T) {
	r := rand.New(rand.NewSource(1))
	for range 200 {
		var l []view.Change
		want := map[api.Prefix]api.Attrs{}
		start := map[api.Prefix]api.Attrs{}
		for i := range r.Intn(300) {
			start[p(i)] = api.Attrs{Next: 99}
			if r.Intn(3) == 0 {
				l = append(l, gone(i))
				continue
			}
			c := told(i, api.Addr(1+r.Intn(3)))
			c.Attrs.Others = []api.Raw{{Kind: 99, Data: make([]byte, 255)}}
			l, want[p(i)] = append(l, c), c.Attrs
		}
		r.Shuffle(len(l), func(i, j int) { l[i], l[j] = l[j], l[i] })
		out, e := Pack(l, true)
		must(t, "Pack", e, api.OK)
		updates := read(t, out, true)
		for i, u := range updates {
			for _, q := range u.Withdrawn {
				delete(start, q)
			}
			for _, q := range u.Told {
				start[q] = u.Attrs
			}
			if len(out[i]) > api.MaxMsg {
				t.Fatal("too long")
			}
			for j := range i {
				v := updates[j]
				if len(u.Told) > 0 && len(v.Told) > 0 && attr.Same(u.Attrs, v.Attrs) && len(out[i])+3*len(v.Told) <= api.MaxMsg {
					t.Fatal("two would fit in one")
				}
			}
		}
		must(t, "folded", start, want)
	}
	x, _ := New(7)
	last := -7
	for now := range 200 {
		if r.Intn(2) == 0 && x.Go(now) {
			if now-last < 7 {
				t.Fatalf("%d and %d", last, now)
			}
			last = now
		}
	}
}

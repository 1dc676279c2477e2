package best

import (
	"fmt"
	"math/rand"
	"slices"
	"testing"

	"pointsman/api"
)

func must(t *testing.T, what string, got, want any) {
	t.Helper()
	if g, w := fmt.Sprintf("%+v", got), fmt.Sprintf("%+v", want); g != w {
		t.Errorf("%s: %s, want %s", what, g, w)
	}
}

func way(as ...uint32) []api.Segment { return []api.Segment{{AS: as}} }

func cand(f func(c *Cand)) Cand {
	c := Cand{Peer: 5, AS: 50, ID: 500, Addr: 5000, Attrs: api.Attrs{Origin: 1, Path: way(1, 2), HasMed: true, Med: 5}}
	f(&c)
	return c
}

func TestExample(t *testing.T) {
	l := []Cand{{Attrs: api.Attrs{Path: way(1, 2)}}, {Attrs: api.Attrs{Path: way(3)}}}
	must(t, "Pick", Pick(l), 1)
	l[0].Attrs.HasLocal, l[0].Attrs.Local = true, 200
	must(t, "Pick", Pick(l), 0)
}

// Promise 31.1: each step.
func TestSteps(t *testing.T) {
	plain := cand(func(c *Cand) {})
	for i, c := range []struct {
		f    func(c *Cand)
		step int
		wins bool
	}{
		{func(c *Cand) { c.Attrs.HasLocal, c.Attrs.Local = true, 101 }, 1, true}, {func(c *Cand) { c.Attrs.HasLocal, c.Attrs.Local = true, 99 }, 1, false}, {func(c *Cand) { c.Attrs.HasLocal, c.Attrs.Local = true, 4294967295 }, 1, true}, {func(c *Cand) { c.Attrs.HasLocal, c.Attrs.Local = true, 100 }, 9, false}, {func(c *Cand) { c.Attrs.Local = 999 }, 9, false},
		{func(c *Cand) { c.Attrs.Path = way(1) }, 2, true}, {func(c *Cand) { c.Attrs.Path = way(1, 2, 3) }, 2, false},
		{func(c *Cand) { c.Attrs.Origin = 0 }, 3, true}, {func(c *Cand) { c.Attrs.Origin = 2 }, 3, false},
		{func(c *Cand) { c.Attrs.Med = 4 }, 4, true}, {func(c *Cand) { c.Attrs.HasMed = false }, 4, true}, {func(c *Cand) { c.Attrs.Med = 6 }, 4, false}, {func(c *Cand) { c.Attrs.Med, c.Attrs.Path = 4, way(9, 2) }, 9, false},
		{func(c *Cand) { c.ID = 499 }, 5, true}, {func(c *Cand) { c.ID = 501 }, 5, false}, {func(c *Cand) { c.ID = 0xffffffff }, 5, false}, {func(c *Cand) { c.Addr = 4999 }, 6, true}, {func(c *Cand) { c.Addr = 5001 }, 6, false}, {func(c *Cand) { c.Peer = 4 }, 7, true}, {func(c *Cand) { c.Peer = -4 }, 7, true}, {func(c *Cand) { c.Peer = 6 }, 7, false},
	} {
		l := []Cand{plain, cand(c.f)}
		win := 0
		if c.wins {
			win = 1
		}
		must(t, fmt.Sprint("Pick ", i), []any{Pick(l), Better(l[0], l[1])}, []any{win, !c.wins})
		for step := -1; step <= 10; step++ {
			want := []int{0, 1}
			if step >= c.step || step >= 8 {
				want = []int{win}
			}
			must(t, fmt.Sprint("Left ", i, " behind ", step), Left(l, step), want)
		}
	}
	must(t, "none", []any{Pick(nil), Left(nil, 3)}, []any{-1, []int{}})
	l := []Cand{{AS: 7, Attrs: api.Attrs{HasMed: true, Med: 5}}, {AS: 8, Attrs: api.Attrs{HasMed: true, Med: 1}}, {AS: 7, Attrs: api.Attrs{HasMed: true, Med: 4}}, {AS: 9, Attrs: api.Attrs{HasMed: true, Med: 9}}}
	must(t, "of each neighbour", Left(l, 4), []int{1, 2, 3})
	l[1].Attrs.Path = []api.Segment{{Set: true, AS: []uint32{7}}}
	for i := range l {
		if i != 1 {
			l[i].Attrs.Path = []api.Segment{{Set: true, AS: []uint32{8}}}
		}
	}
	must(t, "a set has no first system", Left(l, 4), []int{1, 2, 3})
}

func some(r *rand.Rand, peer int) Cand {
	c := Cand{Peer: peer, AS: 1 + r.Uint32()%2, ID: api.Addr(r.Intn(3)), Addr: api.Addr(r.Intn(3)), Attrs: api.Attrs{Origin: r.Intn(2), HasMed: r.Intn(2) == 0, Med: r.Uint32() % 3, HasLocal: r.Intn(4) == 0, Local: 99 + r.Uint32()%3}}
	if r.Intn(3) > 0 {
		c.Attrs.Path = way(1+r.Uint32()%3, 5)[:1]
	}
	return c
}

// Promises 31.2 to 31.4.
func TestFollows(t *testing.T) {
	r := rand.New(rand.NewSource(1))
	for range 2000 {
		var l []Cand
		for i := range r.Intn(7) {
			l = append(l, some(r, i))
		}
		before := len(l)
		for step := range 9 {
			left := Left(l, step)
			if len(left) > before || len(l) > 0 && len(left) == 0 || !slices.IsSorted(left) {
				t.Fatalf("behind %d: %v", step, left)
			}
			before = len(left)
		}
		if len(l) == 0 {
			continue
		}
		must(t, "one", len(Left(l, 8)), 1)
		who := l[Pick(l)].Peer
		three := Left(l, 3)
		for i := range l {
			if slices.Contains(three, i) {
				continue
			}
			less := slices.Delete(slices.Clone(l), i, i+1)
			for step := 3; step <= 8; step++ {
				var a, b []int
				for _, x := range Left(l, step) {
					a = append(a, l[x].Peer)
				}
				for _, x := range Left(less, step) {
					b = append(b, less[x].Peer)
				}
				must(t, "others", b, a)
			}
		}
		r.Shuffle(len(l), func(i, j int) { l[i], l[j] = l[j], l[i] })
		must(t, "in any order", l[Pick(l)].Peer, who)
	}
}

package tally

import (
	"fmt"
	"math"
	"math/rand"
	"testing"

	"pointsman/api"
)

func must(t *testing.T, what string, got, want any) {
	t.Helper()
	if g, w := fmt.Sprintf("%+v", got), fmt.Sprintf("%+v", want); g != w {
		t.Errorf("%s: %s, want %s", what, g, w)
	}
}

func two(in, out int) string { return fmt.Sprint(in, " ", out) }

func TestExample(t *testing.T) {
	x, _ := New(1)
	x.Add(0, 2, 3, 1)
	x.Add(0, 2, 1, 0)
	must(t, "Get", two(x.Get(0, 2)), "4 1")
}

// Promise 34.1.
func TestAdd(t *testing.T) {
	for _, n := range []int{-1, 0, 17} {
		x, e := New(n)
		must(t, "New", []any{x == nil, e}, []any{true, api.ErrArg})
	}
	x, e := New(16)
	must(t, "New", e, api.OK)
	for _, c := range [][4]int{{-1, 0, 1, 1}, {16, 0, 1, 1}, {0, -1, 1, 1}, {0, 8, 1, 1}, {0, 0, -1, 1}, {0, 0, 1, -1}, {0, 0, 1<<32 + 1, 1}, {0, 0, 1, 1<<32 + 1}, {0, 0, math.MaxInt, math.MinInt}} {
		must(t, "Add", x.Add(c[0], c[1], c[2], c[3]), api.ErrArg)
	}
	must(t, "Get of none", []string{two(x.Get(-1, 0)), two(x.Get(16, 0)), two(x.Get(0, 8)), two(x.Get(0, -1)), two(x.Get(0, 0))}, []string{"0 0", "0 0", "0 0", "0 0", "0 0"})
	for range 1 << 14 {
		must(t, "Add", x.Add(15, 7, 1<<32, 1<<31), api.OK)
	}
	must(t, "as much as may be", []any{two(x.Get(15, 7)), x.Add(15, 7, 1, 5), x.Add(15, 7, 0, 5), two(x.Get(15, 7))}, []any{two(1<<46, 1<<45), api.ErrFull, api.OK, two(1<<46, 1<<45+5)})
	x.Add(3, 1, 5, 6)
	must(t, "Clear", []any{x.Clear(-1), x.Clear(16), x.Clear(15), two(x.Get(15, 7)), two(x.Get(3, 1))}, []any{api.ErrArg, api.ErrArg, api.OK, "0 0", "5 6"})
	for _, x := range []*Tally{nil, {}} {
		must(t, "of no tally", []any{x.Add(-1, 0, 0, 0), x.Clear(-1), two(x.Get(0, 0)), two(x.Peer(0)), two(x.Kind(0)), x.All()}, []any{api.ErrNil, api.ErrNil, "0 0", "0 0", "0 0", complex128(0)})
	}
}

// Promises 34.2 and 34.4.
func TestPairs(t *testing.T) {
	must(t, "Pair", []complex128{Pair(3, -4), Pair(math.MaxInt, 0)}, []complex128{complex(3, -4), complex(9223372036854775807.0, 0)})
	for _, c := range []struct {
		c    complex128
		want string
	}{
		{complex(3, 4), "3 4"}, {complex(1<<53, 0), two(1<<53, 0)}, {complex(1<<53+2, 0), "0 0"}, {complex(-1, 4), "0 0"}, {complex(4, -1), "0 0"}, {complex(0.5, 4), "0 0"}, {complex(4, 0.5), "0 0"},
		{complex(math.NaN(), 1), "0 0"}, {complex(1, math.Inf(1)), "0 0"}, {complex(1, math.Inf(-1)), "0 0"}, {complex(math.Copysign(0, -1), 7), "0 7"},
	} {
		must(t, fmt.Sprint("Parts of ", c.c), two(Parts(c.c)), c.want)
	}
	r := rand.New(rand.NewSource(1))
	for range 500 {
		a, b, c, d := r.Intn(1<<46), r.Intn(1<<46), r.Intn(1<<46), r.Intn(1<<46)
		must(t, "back", two(Parts(Pair(a, b))), two(a, b))
		must(t, "added", two(Parts(Pair(a, b)+Pair(c, d))), two(a+c, b+d))
	}
}

// Promises 34.2 and 34.3.
func TestSums(t *testing.T) {
	r := rand.New(rand.NewSource(2))
	for range 30 {
		n := 1 + r.Intn(16)
		x, _ := New(n)
		var peers [16][2]int
		var kinds [8][2]int
		in, out := 0, 0
		for range 200 {
			p, k, a, b := r.Intn(n), r.Intn(8), r.Intn(1<<32), r.Intn(100)
			x.Add(p, k, a, b)
			peers[p][0], peers[p][1], kinds[k][0], kinds[k][1], in, out = peers[p][0]+a, peers[p][1]+b, kinds[k][0]+a, kinds[k][1]+b, in+a, out+b
		}
		for p := range 16 {
			must(t, "Peer", two(x.Peer(p)), two(peers[p][0], peers[p][1]))
		}
		for k := range 8 {
			must(t, "Kind", two(x.Kind(k)), two(kinds[k][0], kinds[k][1]))
		}
		must(t, "All", two(Parts(x.All())), two(in, out))
		must(t, "none", []string{two(x.Peer(-1)), two(x.Kind(8))}, []string{"0 0", "0 0"})
	}
}

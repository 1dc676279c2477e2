package seq

import (
	"fmt"
	"math"
	"math/rand"
	"testing"

	"pointsman/api"
)

const top = math.MaxUint32

func must(t *testing.T, what string, got, want any) {
	t.Helper()
	if g, w := fmt.Sprint(got), fmt.Sprint(want); g != w {
		t.Errorf("%s: %s, want %s", what, g, w)
	}
}

func trim(next uint32, size int, from uint32, n int) []any {
	a, b, e := Trim(next, size, from, n)
	return []any{a, b, e}
}

func accepts(next uint32, size int, from uint32, n int) []any {
	ok, e := Accepts(next, size, from, n)
	return []any{ok, e}
}

func TestExample(t *testing.T) {
	must(t, "Way", Way(0xffffffff, 1), 2)
	must(t, "Accepts", accepts(10, 5, 8, 4), []any{true, api.OK})
	must(t, "Trim", trim(10, 5, 8, 4), []any{2, 2, api.OK})
}

// Promise 10.1.
func TestNumbers(t *testing.T) {
	must(t, "Add", []uint32{Add(top, 2), Add(0, -1), Add(5, -6), Add(1, 1<<32), Add(7, math.MinInt)}, []uint32{1, top, top, 1, 7})
	must(t, "Ahead", []bool{Ahead(1, 2), Ahead(2, 1), Ahead(1, 1), Ahead(top, 0), Ahead(0, 1<<31), Ahead(1<<31, 0), Ahead(0, 1<<31-1), Ahead(0, 1<<31+1)}, []bool{true, false, false, true, false, false, true, false})
	must(t, "Least", []uint32{Least(1, 2), Least(2, 1), Least(top, 3), Least(3, top), Least(0, 1<<31), Least(1<<31, 0), Least(4, 4)}, []uint32{1, 1, top, top, 0, 1 << 31, 4})
	must(t, "Within", []bool{Within(5, 5, 1), Within(6, 5, 1), Within(4, 5, 1), Within(5, 5, 0), Within(5, 5, -1), Within(5, 5, 65536), Within(1, top, 3), Within(2, top, 3), Within(65534, 0, 65535), Within(65535, 0, 65535)}, []bool{true, false, false, false, false, false, true, false, true, false})
}

// Promise 10.2.
func TestAcceptsTrim(t *testing.T) {
	for _, c := range [][2]int{{-1, 0}, {65536, 0}, {0, -1}, {0, 1<<30 + 1}, {math.MaxInt, math.MinInt}} {
		must(t, "Accepts", accepts(0, c[0], 0, c[1]), []any{false, api.ErrArg})
		must(t, "Trim", trim(0, c[0], 0, c[1]), []any{0, 0, api.ErrArg})
	}
	for _, c := range []struct {
		size, from, n int
		ok            bool
		ahead, left   int
	}{
		{0, 100, 0, true, 0, 0}, {0, 101, 0, false, 0, 0}, {5, 100, 0, true, 0, 0}, {5, 104, 0, true, 0, 0}, {5, 105, 0, false, 0, 0}, {5, 99, 0, false, 0, 0},
		{0, 100, 1, false, 0, 0}, {5, 100, 1, true, 0, 1}, {5, 104, 9, true, 0, 1}, {5, 105, 1, false, 0, 0}, {5, 90, 10, false, 0, 0}, {5, 90, 11, true, 10, 1},
		{5, 90, 15, true, 10, 5}, {5, 90, 16, false, 10, 5}, {5, 100, 1 << 30, true, 0, 5}, {5, 102, 2, true, 0, 2}, {65535, 100, 65536, true, 0, 65535},
	} {
		must(t, fmt.Sprint("Accepts ", c), accepts(100, c.size, uint32(c.from), c.n), []any{c.ok, api.OK})
		must(t, fmt.Sprint("Trim ", c), trim(100, c.size, uint32(c.from), c.n), []any{c.ahead, c.left, api.OK})
	}
}

// Promise 10.3.
func TestSure(t *testing.T) {
	must(t, "Sure", []bool{Sure(5, 9, 5), Sure(5, 9, 6), Sure(5, 9, 9), Sure(5, 9, 10), Sure(5, 9, 4), Sure(5, 5, 5), Sure(5, 5, 6), Sure(top, 2, 0), Sure(top, 2, 3)}, []bool{false, true, true, false, false, false, false, true, false})
}

// Promises 10.4 and 10.5.
func TestRoundTrimmed(t *testing.T) {
	r := rand.New(rand.NewSource(1))
	for range 5000 {
		size, n, turn := r.Intn(12), r.Intn(12), r.Uint32()
		next, from := r.Uint32()%20, r.Uint32()%20
		ok, _ := Accepts(next, size, from, n)
		ahead, left, _ := Trim(next, size, from, n)
		must(t, "Accepts turned", accepts(next+turn, size, from+turn, n), []any{ok, api.OK})
		must(t, "Trim turned", trim(next+turn, size, from+turn, n), []any{ahead, left, api.OK})
		must(t, "others turned", []any{Ahead(next+turn, from+turn), Way(next+turn, from+turn), Least(next+turn, from+turn), Within(next+turn, from+turn, size), Sure(next+turn, from+turn, turn)}, []any{Ahead(next, from), Way(next, from), Least(next, from) + turn, Within(next, from, size), Sure(next, from, 0)})
		want := 0
		for i := range n {
			if Within(Add(from, i), next, size) {
				if want++; want == 1 && ahead != i {
					t.Fatalf("Trim(%d, %d, %d, %d): %d ahead, want %d", next, size, from, n, ahead, i)
				}
			}
		}
		if left != want || ok && n > 0 && left == 0 || left > 0 && Add(from, ahead) != next && ahead != 0 {
			t.Fatalf("Trim(%d, %d, %d, %d): %d %d, want %d", next, size, from, n, ahead, left, want)
		}
	}
}

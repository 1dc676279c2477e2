package wheel

import (
	"math"
	"math/rand"
	"slices"
	"testing"

	"pointsman/api"
)

func must(t *testing.T, what string, got, want api.Errno) {
	t.Helper()
	if got != want {
		t.Errorf("%s: %v, want %v", what, got, want)
	}
}

func TestExample(t *testing.T) {
	w := New()
	w.Set(7, 2)
	w.Set(3, 2)
	if k, e := w.Tick(); len(k) != 0 || e != api.OK {
		t.Errorf("first: %v %v", k, e)
	}
	if k, e := w.Tick(); !slices.Equal(k, []int{3, 7}) || e != api.OK {
		t.Errorf("second: %v %v", k, e)
	}
}

// Promise 4.1.
func TestSetStop(t *testing.T) {
	w := New()
	if w.Now() != 0 || w.Len() != 0 {
		t.Error("a new wheel")
	}
	for _, n := range []int{math.MinInt, -1, 0, api.MaxTick + 1, math.MaxInt} {
		must(t, "Set", w.Set(1, n), api.ErrArg)
	}
	must(t, "Set at MaxTick", w.Set(math.MinInt, api.MaxTick), api.OK)
	if due, ok := w.Due(math.MinInt); due != api.MaxTick || !ok {
		t.Errorf("Due: %d", due)
	}
	if next, ok := w.Next(); next != api.MaxTick || !ok {
		t.Errorf("Next: %d", next)
	}
	must(t, "Set anew", w.Set(math.MinInt, 5), api.OK)
	if next, ok := w.Next(); next != 5 || !ok || w.Len() != 1 {
		t.Errorf("Next: %d", next)
	}
	w.Tick()
	must(t, "Set too far", w.Set(1, api.MaxTick), api.ErrArg)
	must(t, "Stop of none", w.Stop(1), api.ErrNone)
	must(t, "Stop", w.Stop(math.MinInt), api.OK)
	must(t, "Stop twice", w.Stop(math.MinInt), api.ErrNone)
	if _, ok := w.Due(math.MinInt); ok {
		t.Error("it has one")
	}
	if next, ok := w.Next(); next != 0 || ok {
		t.Error("Next of none")
	}
	for i := range api.MaxTimers {
		must(t, "Set", w.Set(i, 1+i), api.OK)
	}
	must(t, "ErrArg first", w.Set(-1, 0), api.ErrArg)
	must(t, "full", w.Set(-1, 1), api.ErrFull)
	must(t, "one that it has", w.Set(0, 9), api.OK)
	if w.Len() != api.MaxTimers {
		t.Errorf("Len: %d", w.Len())
	}
}

// Promise 4.2.
func TestEnd(t *testing.T) {
	w := New()
	for _, n := range []int{-1, 0, api.MaxTick + 1, math.MaxInt} {
		_, e := w.Skip(n)
		must(t, "Skip", e, api.ErrArg)
	}
	w.Set(1, api.MaxTick)
	w.Set(5, 3)
	w.Set(9, 2)
	k, e := w.Skip(api.MaxTick)
	if !slices.Equal(k, []int{9, 5, 1}) || e != api.OK || w.Now() != api.MaxTick {
		t.Errorf("Skip: %v %v", k, e)
	}
	_, e = w.Tick()
	must(t, "Tick at MaxTick", e, api.ErrArg)
	_, e = w.Skip(1)
	must(t, "Skip at MaxTick", e, api.ErrArg)
	if w.Now() != api.MaxTick {
		t.Error("a refused Tick counts")
	}
}

// Rule 2.
func TestNil(t *testing.T) {
	for _, w := range []*Wheel{nil, {}} {
		must(t, "Set", w.Set(1, 0), api.ErrNil)
		must(t, "Stop", w.Stop(1), api.ErrNil)
		_, e := w.Tick()
		must(t, "Tick", e, api.ErrNil)
		_, e = w.Skip(0)
		must(t, "Skip", e, api.ErrNil)
		_, has := w.Due(1)
		_, any := w.Next()
		if has || any || w.Now() != 0 || w.Len() != 0 {
			t.Error("of no wheel")
		}
	}
}

// Promises 4.3, 4.4 and 4.5: a wheel that ticks, and one that skips, against a list.
func TestOnceSkippedApart(t *testing.T) {
	r := rand.New(rand.NewSource(1))
	for range 30 {
		a, b, due := New(), New(), map[int]int{}
		for range 300 {
			key := r.Intn(12)
			switch r.Intn(4) {
			case 0, 1:
				after := 1 + r.Intn(200)
				a.Set(key, after)
				b.Set(key, after)
				due[key] = a.Now() + after
			case 2:
				a.Stop(key)
				b.Stop(key)
				delete(due, key)
			case 3:
				n := 1 + r.Intn(100)
				var ticked []int
				for range n {
					k, _ := a.Tick()
					ticked = append(ticked, k...)
					var want []int
					for key, d := range due {
						if d == a.Now() {
							want = append(want, key)
							delete(due, key)
						}
					}
					slices.Sort(want)
					if !slices.Equal(k, want) {
						t.Fatalf("at %d: %v, want %v", a.Now(), k, want)
					}
				}
				if skipped, _ := b.Skip(n); !slices.Equal(skipped, ticked) {
					t.Fatalf("skipped %v, ticked %v", skipped, ticked)
				}
			}
			for key, d := range due {
				got, ok := b.Due(key)
				if !ok || got != d {
					t.Fatalf("key %d: %d, want %d", key, got, d)
				}
			}
			if a.Len() != len(due) || b.Len() != len(due) || a.Now() != b.Now() {
				t.Fatal("Len")
			}
		}
	}
}

package rto

import (
	"fmt"
	"math"
	"math/rand"
	"testing"

	"pointsman/api"
)

func must(t *testing.T, what string, got, want any) {
	t.Helper()
	if g, w := fmt.Sprint(got), fmt.Sprint(want); g != w {
		t.Errorf("%s: %s, want %s", what, g, w)
	}
}

func state(e *Estimate) []int {
	s, v := e.State()
	return []int{s, v}
}

func TestExample(t *testing.T) {
	e := New()
	must(t, "Wait", e.Wait(), 30)
	must(t, "Measure", e.Measure(10), api.OK)
	must(t, "State", state(e), []int{80, 20})
	must(t, "Wait", e.Wait(), 30)
	must(t, "Back", e.Back(), api.OK)
	must(t, "Wait", e.Wait(), 60)
}

// Promise 13.1.
func TestMeasures(t *testing.T) {
	e := New()
	must(t, "State at first", state(e), []int{0, 0})
	for _, r := range []int{math.MinInt, -1, 100001, math.MaxInt} {
		must(t, "Measure", e.Measure(r), api.ErrArg)
	}
	must(t, "still nothing", e.Wait(), 30)
	e.Measure(0)
	must(t, "of nought", []any{e.Wait(), state(e)}, []any{5, []int{0, 0}})
	e.Measure(7)
	must(t, "of 0, 7", []any{e.Wait(), state(e)}, []any{7, []int{7, 7}})
	e.Measure(100)
	must(t, "of 0, 7, 100", []any{e.Wait(), state(e)}, []any{13 + 106, []int{107, 106}})
	e.Measure(1)
	must(t, "of 0, 7, 100, 1", []any{e.Wait(), state(e)}, []any{11 + 92, []int{95, 92}})
	e.Measure(100000)
	must(t, "of much", e.Wait(), 600)
	e = New()
	for i := range 8 {
		must(t, "Tries", e.Tries(), i)
		must(t, "Wait", e.Wait(), min(30<<i, 600))
		must(t, "Back", e.Back(), api.OK)
	}
	must(t, "Back a ninth time", []any{e.Back(), e.Tries()}, []any{api.ErrFull, 8})
	e.Good()
	must(t, "Good", []any{e.Tries(), e.Wait()}, []any{0, 30})
	e.Measure(1)
	e.Back()
	must(t, "doubled, then bounded", e.Wait(), 6)
	for _, e := range []*Estimate{nil, {}} {
		e.Good()
		must(t, "of no estimate", []any{e.Measure(-1), e.Wait(), e.Back(), e.Tries(), state(e)}, []any{api.ErrNil, 0, api.ErrNil, 0, []int{0, 0}})
	}
}

// Promises 13.2, 13.3 and 13.4.
func TestBoundedSteadySmoothed(t *testing.T) {
	rnd := rand.New(rand.NewSource(1))
	for range 200 {
		e, steady, same := New(), New(), rnd.Intn(300)
		least, most := math.MaxInt, 0
		for range 50 {
			r := rnd.Intn(1 << rnd.Intn(17))
			e.Measure(r)
			steady.Measure(same)
			least, most = min(least, r), max(most, r)
			if s, _ := e.State(); s/8 < least || s/8 > most {
				t.Fatalf("S by 8 is %d, of %d to %d", s/8, least, most)
			}
			before := e.Wait()
			e.Back()
			if after := e.Wait(); after < before || before < 5 || after > 600 {
				t.Fatalf("it waits %d, then %d", before, after)
			}
			if w := steady.Wait(); w > max(5, 3*same+1) {
				t.Fatalf("of %d: %d", same, w)
			}
			if rnd.Intn(3) == 0 {
				e.Good()
			}
		}
	}
}

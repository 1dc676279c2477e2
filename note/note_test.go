package note

import (
	"fmt"
	"math/rand"
	"testing"

	"pointsman/api"
)

func must(t *testing.T, what string, got, want any) {
	t.Helper()
	if g, w := fmt.Sprintf("%+v", got), fmt.Sprintf("%+v", want); g != w {
		t.Errorf("%s: %s, want %s", what, g, w)
	}
}

func TestExample(t *testing.T) {
	must(t, "Name", Name(api.Fault{Code: 6, Sub: 2}), "cease 2")
}

// Promise 22.1.
func TestBodies(t *testing.T) {
	b, e := Build(api.Fault{Code: 255, Sub: 255, Data: []byte{7}})
	must(t, "Build", []any{b, e}, []any{[]byte{255, 255, 7}, api.OK})
	for _, f := range []api.Fault{{Code: -1}, {Code: 256}, {Sub: -1}, {Sub: 256, Data: make([]byte, 5000)}} {
		b, e := Build(f)
		must(t, "Build", []any{b, e}, []any{[]byte(nil), api.ErrArg})
	}
	_, e = Build(api.Fault{Data: make([]byte, 4076)})
	must(t, "Build of too much", e, api.ErrLong)
	b, e = Build(api.Fault{Data: make([]byte, 4075)})
	must(t, "Build of as much as may be", []any{len(b), e}, []any{4077, api.OK})
	for _, b := range [][]byte{nil, {6}} {
		f, ok := Read(b)
		must(t, "Read", []any{f, ok}, []any{api.Fault{}, false})
	}
	f, ok := Read([]byte{6, 2})
	must(t, "Read", []any{f, ok}, []any{api.Fault{Code: 6, Sub: 2}, true})
	must(t, "Refresh", Refresh(), []byte{0, 1, 0, 1})
	must(t, "Refreshes", []bool{Refreshes(Refresh()), Refreshes([]byte{0, 1, 9, 1}), Refreshes([]byte{0, 2, 0, 1}), Refreshes([]byte{1, 1, 0, 1}), Refreshes([]byte{0, 1, 0, 2}), Refreshes([]byte{0, 1, 0}), Refreshes([]byte{0, 1, 0, 1, 0}), Refreshes(nil)}, []bool{true, true, false, false, false, false, false, false})
}

// Promise 22.2.
func TestName(t *testing.T) {
	for code, want := range []string{"unknown", "header", "open", "update", "hold", "state", "cease", "unknown"} {
		must(t, "Name", Name(api.Fault{Code: code}), want)
	}
	must(t, "Name", []string{Name(api.Fault{Code: -1, Sub: 3}), Name(api.Fault{Code: 1 << 40, Sub: 0}), Name(api.Fault{Code: 3, Sub: 10})}, []string{"unknown 3", "unknown", "update 10"})
}

// Promise 22.3.
func TestBack(t *testing.T) {
	r := rand.New(rand.NewSource(1))
	for range 200 {
		f := api.Fault{Code: r.Intn(256), Sub: r.Intn(256), Data: make([]byte, r.Intn(30))}
		r.Read(f.Data)
		b, _ := Build(f)
		g, ok := Read(b)
		must(t, "Read", []any{g, ok}, []any{f, true})
	}
}

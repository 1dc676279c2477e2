package open

import (
	"fmt"
	"math/rand"
	"testing"

	"pointsman/api"
)

func must(t *testing.T, what string, got, want any) {
	t.Helper()
	if g, w := fmt.Sprint(got), fmt.Sprint(want); g != w {
		t.Errorf("%s: %s, want %s", what, g, w)
	}
}

func told(o api.Open, f api.Fault, ok bool) string { return fmt.Sprintf("%+v %v %v", o, f, ok) }

func fault(sub int, data ...byte) string {
	return told(api.Open{}, api.Fault{Code: 2, Sub: sub, Data: data}, false)
}

var plain = api.Open{AS: 65001, Hold: 90, ID: 0x0a000001}

// body is an OPEN of 65001 with these parameters.
func body(params ...byte) []byte {
	return append([]byte{4, 0xfd, 0xe9, 0, 90, 10, 0, 0, 1, byte(len(params))}, params...)
}

// caps is one with these capabilities.
func caps(l ...byte) []byte { return body(append([]byte{2, byte(len(l))}, l...)...) }

func TestExample(t *testing.T) {
	o := plain
	o.Multi = true
	b, e := Build(o)
	must(t, "Build", []any{b, e}, []any{[]byte{4, 0xfd, 0xe9, 0, 0x5a, 10, 0, 0, 1, 8, 2, 6, 1, 4, 0, 1, 0, 1}, api.OK})
}

// Promise 18.1.
func TestBuild(t *testing.T) {
	b, e := Build(plain)
	must(t, "without capabilities", []any{b, e}, []any{body(), api.OK})
	b, e = Build(api.Open{AS: 0x10203, Hold: 65535, ID: 0xffffffff, Multi: true, Four: true, Refresh: true, Graceful: true, Time: 0xabc, Restarts: true, Keeps: true})
	must(t, "with all", []any{b, e}, []any{[]byte{4, 0x5b, 0xa0, 255, 255, 255, 255, 255, 255, 24, 2, 22, 1, 4, 0, 1, 0, 1, 2, 0, 64, 6, 0x8a, 0xbc, 0, 1, 1, 0x80, 65, 4, 0, 1, 2, 3}, api.OK})
	for i, f := range []func(o *api.Open){
		func(o *api.Open) { o.Hold = 1 }, func(o *api.Open) { o.Hold = 2 }, func(o *api.Open) { o.Hold = -1 }, func(o *api.Open) { o.Hold = 65536 },
		func(o *api.Open) { o.ID = 0 }, func(o *api.Open) { o.AS = 0 }, func(o *api.Open) { o.AS = 65536 },
		func(o *api.Open) { o.Graceful, o.Time = true, -1 }, func(o *api.Open) { o.Graceful, o.Time = true, 4096 },
		func(o *api.Open) { o.Time = 1 }, func(o *api.Open) { o.Restarts = true }, func(o *api.Open) { o.Keeps = true },
	} {
		o := plain
		f(&o)
		b, e := Build(o)
		must(t, fmt.Sprint("Build ", i), []any{b, e}, []any{[]byte(nil), api.ErrArg})
	}
	o := plain
	o.Hold = 0
	_, e = Build(o)
	must(t, "a hold of 0", e, api.OK)
}

// Promise 18.2: faults, in their order.
func TestFaults(t *testing.T) {
	zero := func(b []byte, at ...int) []byte {
		for _, i := range at {
			b[i] = 0
		}
		return b
	}
	for i, c := range []struct {
		b    []byte
		want string
	}{
		{nil, fault(0)}, {body()[:9], fault(0)},
		{append([]byte{3}, zero(body(), 5, 6, 7, 8)[1:]...), fault(1, 0, 4)},
		{zero(append(body(), 1), 5, 8), fault(3)},
		{append([]byte{4, 0, 0, 0, 1}, append(body(), 9)[5:]...), fault(6)},
		{append([]byte{4, 0, 0, 0, 2}, body()[5:]...), fault(6)},
		{append(body(), 1), fault(0)}, {body(2, 0)[:11], fault(0)},
		{body(2), fault(0)}, {body(1, 1), fault(0)}, {body(2, 0, 1, 2, 0), fault(0)},
		{body(1, 0), fault(4)}, {body(2, 1, 9, 1, 0), fault(0)}, {body(1, 0, 2, 1, 9), fault(4)}, {body(2, 0, 1, 0), fault(4)},
		{caps(9), fault(0)}, {caps(9, 1), fault(0)}, {caps(1, 3, 0, 1, 0), fault(0)}, {caps(1, 5, 0, 1, 0, 1, 0), fault(0)}, {caps(2, 1, 0), fault(0)},
		{caps(64, 1, 0), fault(0)}, {caps(64, 0), fault(0)}, {caps(64, 4, 0, 0, 0, 0), fault(0)}, {caps(65, 3, 0, 0, 1), fault(0)}, {caps(65, 5, 0, 0, 1, 1, 1), fault(0)},
		{zero(body(), 1, 2), fault(2)}, {caps(65, 4, 0, 0, 0, 0), fault(2)}, {zero(caps(2, 1, 0), 1, 2), fault(0)},
	} {
		must(t, fmt.Sprint("Read ", i), told(Read(c.b)), c.want)
	}
}

// Promise 18.2: what is read.
func TestRead(t *testing.T) {
	with := func(f func(o *api.Open)) string {
		o := plain
		f(&o)
		return told(o, api.Fault{}, true)
	}
	for i, c := range []struct {
		b    []byte
		want string
	}{
		{body(), with(func(o *api.Open) {})},
		{body(2, 0, 2, 2, 2, 0), with(func(o *api.Open) { o.Refresh = true })},
		{caps(1, 4, 0, 2, 0, 1), with(func(o *api.Open) {})},
		{caps(1, 4, 0, 1, 0, 1, 1, 4, 0, 1, 0, 2), with(func(o *api.Open) { o.Multi = true })},
		{caps(77, 3, 1, 2, 3), with(func(o *api.Open) {})},
		{caps(65, 4, 0, 1, 0, 0), with(func(o *api.Open) { o.AS, o.Four = 65536, true })},
		{caps(65, 4, 0, 0, 0, 0, 65, 4, 0, 0, 0, 7), with(func(o *api.Open) { o.AS, o.Four = 7, true })},
		{append([]byte{4, 0, 0}, caps(65, 4, 0, 0, 0, 7)[3:]...), with(func(o *api.Open) { o.AS, o.Four = 7, true })},
		{caps(64, 2, 0x80, 5), with(func(o *api.Open) { o.Graceful, o.Restarts, o.Time = true, true, 5 })},
		{caps(64, 6, 0x7f, 0xff, 0, 1, 1, 0xff), with(func(o *api.Open) { o.Graceful, o.Time, o.Keeps = true, 4095, true })},
		{caps(64, 10, 0, 0, 0, 1, 1, 0x80, 0, 1, 1, 0x7f), with(func(o *api.Open) { o.Graceful = true })},
		{caps(64, 10, 0, 0, 0, 1, 1, 0x80, 0, 2, 1, 0), with(func(o *api.Open) { o.Graceful, o.Keeps = true, true })},
		{caps(64, 6, 0x80, 9, 0, 1, 1, 0x80, 64, 2, 0, 3), with(func(o *api.Open) { o.Graceful, o.Time = true, 3 })},
	} {
		must(t, fmt.Sprint("Read ", i), told(Read(c.b)), c.want)
	}
}

// Promise 18.3.
func TestBack(t *testing.T) {
	r := rand.New(rand.NewSource(1))
	coin := func() bool { return r.Intn(2) == 0 }
	for range 500 {
		o := api.Open{AS: 1 + r.Uint32()>>r.Intn(32), Hold: 3 + r.Intn(65533), ID: api.Addr(1 + r.Uint32()/2), Multi: coin(), Four: true, Refresh: coin(), Graceful: coin()}
		if o.AS < 65536 && o.AS > 0 {
			o.Four = coin()
		}
		if o.Graceful {
			o.Time, o.Restarts, o.Keeps = r.Intn(4096), coin(), coin()
		}
		b, e := Build(o)
		if o.AS == 0 {
			continue
		}
		must(t, "Build", e, api.OK)
		must(t, "Read", told(Read(b)), told(o, api.Fault{}, true))
	}
}

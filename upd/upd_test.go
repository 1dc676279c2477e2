package upd

import (
	"fmt"
	"math/rand"
	"slices"
	"testing"

	"pointsman/api"
	"pointsman/attr"
)

func must(t *testing.T, what string, got, want any) {
	t.Helper()
	if g, w := fmt.Sprintf("%+v", got), fmt.Sprintf("%+v", want); g != w {
		t.Errorf("%s: %s, want %s", what, g, w)
	}
}

func told(u api.Update, f api.Fault, ok bool) string { return fmt.Sprintf("%+v %v %v", u, f, ok) }

func pfx(s string) api.Prefix {
	p, e := Parse(s)
	if e != api.OK {
		panic(s)
	}
	return p
}

func some(r *rand.Rand) api.Prefix {
	n := r.Intn(33)
	return api.Prefix{Addr: api.Addr(r.Uint32()) & mask(n), Len: n}
}

var bears = api.Attrs{Path: []api.Segment{{AS: []uint32{65001}}}, Next: 0x0a000001}

// attrs are bears' bytes, in two.
var attrs = []byte{0x40, 1, 1, 0, 0x40, 2, 4, 2, 1, 0xfd, 0xe9, 0x40, 3, 4, 10, 0, 0, 1}

func body(withdrawn, attrs []byte, told ...byte) []byte {
	return slices.Concat([]byte{0, byte(len(withdrawn))}, withdrawn, []byte{0, byte(len(attrs))}, attrs, told)
}

func TestExample(t *testing.T) {
	b, e := Build(api.Update{Withdrawn: []api.Prefix{pfx("10.0.0.0/8")}}, false)
	must(t, "10.0.0.0/8", []any{b, e}, []any{body([]byte{8, 10}, nil), api.OK})
	must(t, "within", Within(pfx("10.0.0.0/8"), pfx("11.0.0.0/8")), false)
}

// Promise 21.1.
func TestPrefixes(t *testing.T) {
	for _, c := range []struct {
		p     api.Prefix
		right bool
		text  string
	}{
		{api.Prefix{}, true, "0.0.0.0/0"}, {api.Prefix{Addr: 1}, false, ""}, {api.Prefix{Addr: 1, Len: 32}, true, "0.0.0.1/32"}, {api.Prefix{Addr: 1, Len: 31}, false, ""},
		{api.Prefix{Len: -1}, false, ""}, {api.Prefix{Len: 33}, false, ""}, {api.Prefix{Addr: 0x80000000, Len: 1}, true, "128.0.0.0/1"}, {api.Prefix{Addr: 0x80000000}, false, ""}, {api.Prefix{Len: 1 << 40}, false, ""}, {api.Prefix{Len: -1 << 62}, false, ""},
	} {
		must(t, fmt.Sprint(c.p), []any{Right(c.p), Text(c.p)}, []any{c.right, c.text})
		must(t, fmt.Sprint(c.p, " has itself within"), Within(c.p, c.p), c.right)
	}
	must(t, "Within", []bool{Within(pfx("0.0.0.0/0"), pfx("1.2.3.4/32")), Within(pfx("10.0.0.0/8"), pfx("10.1.0.0/16")), Within(pfx("10.1.0.0/16"), pfx("10.0.0.0/8")), Within(pfx("10.0.0.0/8"), api.Prefix{Addr: 0x0a000001, Len: 8})}, []bool{true, true, false, false})
	for _, s := range []string{"", "10.0.0.0", "10.0.0.0/", "/8", "10.0.0.0/33", "10.0.0.1/8", "10.0.0.0/08", "10.0.0.0/8/", "10.0.0/8", "10.0.0.0/8 ", "10.0.0.0/-8", "10.0.0.0/100", "010.0.0.0/8", "10.0.0.0//8"} {
		p, e := Parse(s)
		must(t, "Parse "+s, []any{p, e}, []any{api.Prefix{}, api.ErrNone})
	}
	r := rand.New(rand.NewSource(1))
	for range 300 {
		p := some(r)
		q, e := Parse(Text(p))
		must(t, "a text", []any{q, e}, []any{p, api.OK})
	}
}

// Promise 21.2: Build.
func TestBuild(t *testing.T) {
	b, e := Build(api.Update{Withdrawn: []api.Prefix{pfx("0.0.0.0/0"), pfx("10.128.0.0/9")}, Told: []api.Prefix{pfx("1.2.3.4/32")}, Attrs: bears}, false)
	must(t, "Build", []any{b, e}, []any{body([]byte{0, 9, 10, 128}, attrs, 32, 1, 2, 3, 4), api.OK})
	b, e = Build(api.Update{Attrs: bears}, false)
	must(t, "the end of a table", []any{b, e}, []any{[]byte{0, 0, 0, 0}, api.OK})
	_, e = Build(api.Update{Attrs: api.Attrs{Origin: 9}}, false)
	must(t, "attributes count if something is told", e, api.OK)
	bad := api.Prefix{Addr: 1, Len: 8}
	for i, u := range []api.Update{{Withdrawn: []api.Prefix{bad}}, {Told: []api.Prefix{bad}, Attrs: bears}, {Told: []api.Prefix{{}}}, {Withdrawn: append(make([]api.Prefix, 5000), bad)}} {
		b, e := Build(u, true)
		must(t, fmt.Sprint("Build ", i), []any{b, e}, []any{[]byte(nil), api.ErrArg})
	}
	for n, want := range map[int]api.Errno{4073: api.OK, 4074: api.ErrLong} {
		b, e := Build(api.Update{Withdrawn: make([]api.Prefix, n)}, true)
		must(t, fmt.Sprint(n), []any{e, e == api.OK && len(b) == 4077}, []any{want, want == api.OK})
	}
}

// Promise 21.2: Read, and what is wrong.
func TestRead(t *testing.T) {
	wrong := func(sub int, data ...byte) string {
		return told(api.Update{}, api.Fault{Code: 3, Sub: sub, Data: data}, false)
	}
	a := []api.Prefix{pfx("10.0.0.0/8")}
	b := []api.Prefix{pfx("11.0.0.0/8")}
	fine := func(u api.Update) string { return told(u, api.Fault{}, true) }
	for i, c := range []struct {
		b    []byte
		want string
	}{
		{nil, wrong(1)}, {[]byte{0}, wrong(1)}, {[]byte{0, 0}, wrong(1)}, {[]byte{0, 0, 0}, wrong(1)}, {[]byte{0, 1, 0, 0}, wrong(1)}, {[]byte{0, 2, 0, 0}, wrong(1)}, {[]byte{0, 0, 0, 1}, wrong(1)}, {[]byte{255, 255, 0, 0}, wrong(1)},
		{body([]byte{40}, []byte{0, 99, 0}), wrong(2, 0, 99, 0)}, {body([]byte{33, 1, 1, 1, 1, 1}, nil), wrong(10)}, {body([]byte{8}, nil), wrong(10)}, {body(nil, attrs, 32, 1, 2, 3), wrong(10)}, {body(nil, attrs, 33, 1, 2, 3, 4, 5), wrong(10)},
		{body(nil, nil, 33), wrong(10)},
		{body(nil, nil), fine(api.Update{})}, {body(nil, attrs), fine(api.Update{})},
		{body([]byte{8, 10}, attrs, 8, 11), fine(api.Update{Withdrawn: a, Told: b, Attrs: bears})},
		{body([]byte{7, 11, 32, 1, 2, 3, 4}, nil), fine(api.Update{Withdrawn: []api.Prefix{pfx("10.0.0.0/7"), pfx("1.2.3.4/32")}})},
		{body([]byte{8, 10}, attrs[:11], 8, 11), fine(api.Update{Withdrawn: append(slices.Clone(a), b...), Found: 2})},
		{body([]byte{8, 10}, attrs[:3]), fine(api.Update{Withdrawn: a, Found: 2})},
		{body(nil, append(slices.Clone(attrs), 0x40, 6, 1, 9), 8, 11), fine(api.Update{Told: b, Attrs: bears, Found: 1})},
		{body(nil, []byte{0x40, 6, 1, 9}), fine(api.Update{Found: 1})},
	} {
		must(t, fmt.Sprint("Read ", i), told(Read(c.b, false)), c.want)
	}
	must(t, "End", []bool{End(api.Update{}), End(api.Update{Found: 1, Attrs: bears}), End(api.Update{Told: a}), End(api.Update{Withdrawn: a})}, []bool{true, true, false, false})
}

// Promises 21.3 to 21.5.
func TestFollows(t *testing.T) {
	r := rand.New(rand.NewSource(2))
	for range 1000 {
		var u api.Update
		for range r.Intn(6) {
			u.Withdrawn = append(u.Withdrawn, some(r))
		}
		for range r.Intn(6) {
			u.Told = append(u.Told, some(r))
		}
		if len(u.Told) > 0 {
			u.Attrs = bears
		}
		four := r.Intn(2) == 0
		b, e := Build(u, four)
		must(t, "Build", e, api.OK)
		must(t, "Read", told(Read(b, four)), told(u, api.Fault{}, true))
		for range r.Intn(4) {
			b[r.Intn(len(b))] = byte(r.Int())
		}
		if v, _, ok := Read(b, four); ok {
			for _, p := range append(v.Withdrawn, v.Told...) {
				must(t, "it is right", Right(p), true)
			}
			_, e := Build(v, four)
			must(t, "it may be built", []any{e, len(v.Told) > 0 || attr.Same(v.Attrs, api.Attrs{})}, []any{api.OK, true})
		}
		p, q := some(r), some(r)
		p.Len %= 6
		p.Addr &= mask(p.Len)
		same := q.Len >= p.Len && q.Addr>>(32-p.Len) == p.Addr>>(32-p.Len)
		must(t, "within", Within(p, q), same)
	}
}

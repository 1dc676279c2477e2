package attr

import (
	"bytes"
	"fmt"
	"math/rand"
	"slices"
	"testing"

	"pointsman/api"
)

func must(t *testing.T, what string, got, want any) {
	t.Helper()
	if g, w := fmt.Sprintf("%+v", got), fmt.Sprintf("%+v", want); g != w {
		t.Errorf("%s: %s, want %s", what, g, w)
	}
}

func told(a api.Attrs, found int, f api.Fault) string { return fmt.Sprintf("%+v %d %v", a, found, f) }

func order(as ...uint32) []api.Segment { return []api.Segment{{AS: as}} }

var simple = api.Attrs{Path: order(65001), Next: 0x0a000001}

// base is simple's bytes in two, and nexts are those behind the path.
var base = []byte{0x40, 1, 1, 0, 0x40, 2, 4, 2, 1, 0xfd, 0xe9, 0x40, 3, 4, 10, 0, 0, 1}

func with(more ...byte) []byte { return append(bytes.Clone(base), more...) }

func some(r *rand.Rand) api.Attrs {
	coin := func() bool { return r.Intn(2) == 0 }
	a := api.Attrs{Origin: r.Intn(3), Next: api.Addr(1 + r.Intn(0xdfffffff)), HasMed: coin(), HasLocal: coin(), Atomic: coin(), HasMaker: coin()}
	for range r.Intn(4) {
		s := api.Segment{Set: r.Intn(4) == 0}
		for range 1 + r.Intn(4) {
			s.AS = append(s.AS, 1+r.Uint32()>>(16*r.Intn(2)+1))
		}
		a.Path = append(a.Path, s)
	}
	if a.HasMed {
		a.Med = r.Uint32()
	}
	if a.HasLocal {
		a.Local = r.Uint32()
	}
	if a.HasMaker {
		a.MakerAS, a.Maker = 1+r.Uint32()>>(16*r.Intn(2)+1), api.Addr(r.Uint32())
	}
	for range r.Intn(3) * r.Intn(17) {
		a.Comms = append(a.Comms, r.Uint32())
	}
	for k := 19 + r.Intn(20); k < 256 && len(a.Others) < 8 && coin(); k += 1 + r.Intn(60) {
		x := api.Raw{Kind: k, Data: make([]byte, r.Intn(256))}
		r.Read(x.Data)
		a.Others = append(a.Others, x)
	}
	return a
}

func TestExample(t *testing.T) {
	b, e := Put(simple, false)
	must(t, "Put", []any{b, e}, []any{base, api.OK})
}

// Promise 20.1: Check and Put.
func TestCheckPut(t *testing.T) {
	raws := func(kinds ...int) []api.Raw {
		var l []api.Raw
		for _, k := range kinds {
			l = append(l, api.Raw{Kind: k})
		}
		return l
	}
	for i, f := range []func(a *api.Attrs){
		func(a *api.Attrs) { a.Origin = -1 }, func(a *api.Attrs) { a.Origin = 3 }, func(a *api.Attrs) { a.Path = order() }, func(a *api.Attrs) { a.Path = order(0) },
		func(a *api.Attrs) { a.Next = 0 }, func(a *api.Attrs) { a.Next = 0xe0000000 }, func(a *api.Attrs) { a.HasMaker = true },
		func(a *api.Attrs) { a.Comms = make([]uint32, 33) }, func(a *api.Attrs) { a.Others = raws(9, 10, 11, 12, 13, 14, 15, 16, 19) },
		func(a *api.Attrs) { a.Others = raws(9, 9) }, func(a *api.Attrs) { a.Others = raws(10, 9) }, func(a *api.Attrs) { a.Others = raws(5) }, func(a *api.Attrs) { a.Others = raws(17) },
		func(a *api.Attrs) { a.Others = raws(18) }, func(a *api.Attrs) { a.Others = raws(-1) }, func(a *api.Attrs) { a.Others = raws(256) }, func(a *api.Attrs) { a.Others = []api.Raw{{Kind: 9, Data: make([]byte, 256)}} },
	} {
		a := Copy(simple)
		f(&a)
		b, e := Put(a, true)
		must(t, fmt.Sprint("Check ", i), []any{Check(a), b, e}, []any{api.ErrArg, []byte(nil), api.ErrArg})
	}
	a := api.Attrs{Next: 0xdfffffff, MakerAS: 0, Comms: make([]uint32, 32), Others: raws(0, 9, 16, 19, 100, 200, 254, 255)}
	must(t, "as much as may be", Check(a), api.OK)
	a = api.Attrs{Origin: 2, Path: order(70000, 5), Next: 1, HasMed: true, Med: 0x01020304, HasLocal: true, Local: 9, Atomic: true, HasMaker: true, MakerAS: 70001, Maker: 0x05060708, Comms: []uint32{0x10002}, Others: []api.Raw{{Kind: 9, Data: []byte{7}}}}
	b, _ := Put(a, false)
	must(t, "in two", b, []byte{0x40, 1, 1, 2, 0x40, 2, 6, 2, 2, 0x5b, 0xa0, 0, 5, 0x40, 3, 4, 0, 0, 0, 1, 0x80, 4, 4, 1, 2, 3, 4, 0x40, 6, 0, 0xc0, 7, 6, 0x5b, 0xa0, 5, 6, 7, 8,
		0xc0, 8, 4, 0, 1, 0, 2, 0xc0, 17, 10, 2, 2, 0, 1, 0x11, 0x70, 0, 0, 0, 5, 0xc0, 18, 8, 0, 1, 0x11, 0x71, 5, 6, 7, 8, 0xe0, 9, 1, 7})
	b, _ = Put(a, true)
	must(t, "in four", b, []byte{0x40, 1, 1, 2, 0x40, 2, 10, 2, 2, 0, 1, 0x11, 0x70, 0, 0, 0, 5, 0x40, 3, 4, 0, 0, 0, 1, 0x80, 4, 4, 1, 2, 3, 4, 0x40, 6, 0, 0xc0, 7, 8, 0, 1, 0x11, 0x71, 5, 6, 7, 8,
		0xc0, 8, 4, 0, 1, 0, 2, 0xe0, 9, 1, 7})
	a = api.Attrs{Path: order(slices.Repeat([]uint32{7}, 64)...), Next: 1}
	b, _ = Put(a, true)
	must(t, "a long length", b[4:10], []byte{0x50, 2, 1, 2, 2, 64})
	a.Path[0].AS = a.Path[0].AS[:63]
	b, _ = Put(a, true)
	must(t, "a short length", b[4:9], []byte{0x40, 2, 254, 2, 63})
}

// Promise 20.1: Same and Copy.
func TestSameCopy(t *testing.T) {
	a := api.Attrs{Path: order(1), Next: 1, HasMed: true, Med: 2, HasLocal: true, Local: 3, HasMaker: true, MakerAS: 4, Maker: 5, Comms: []uint32{6, 7}, Others: []api.Raw{{Kind: 9, Data: []byte{1}}}}
	for i, f := range []func(a *api.Attrs){
		func(a *api.Attrs) { a.Origin = 1 }, func(a *api.Attrs) { a.Path[0].AS[0] = 2 }, func(a *api.Attrs) { a.Next = 2 }, func(a *api.Attrs) { a.Med = 3 }, func(a *api.Attrs) { a.HasMed = false },
		func(a *api.Attrs) { a.Local = 4 }, func(a *api.Attrs) { a.HasLocal = false }, func(a *api.Attrs) { a.Atomic = true }, func(a *api.Attrs) { a.HasMaker = false }, func(a *api.Attrs) { a.MakerAS = 5 },
		func(a *api.Attrs) { a.Maker = 6 }, func(a *api.Attrs) { a.Comms[0], a.Comms[1] = 7, 6 }, func(a *api.Attrs) { a.Others[0].Kind = 10 }, func(a *api.Attrs) { a.Others[0].Data[0] = 2 },
	} {
		b := Copy(a)
		must(t, "a copy", Same(a, b), true)
		f(&b)
		must(t, fmt.Sprint("Same ", i), []bool{Same(a, b), Same(b, a)}, []bool{false, false})
	}
	must(t, "what is not there does not count", Same(api.Attrs{Med: 1, Local: 2, MakerAS: 3, Maker: 4, Comms: []uint32{}}, api.Attrs{}), true)
}

// Promise 20.2: what is found.
func TestFound(t *testing.T) {
	fine := func(f func(a *api.Attrs)) string {
		a := Copy(simple)
		f(&a)
		return told(a, 0, api.Fault{})
	}
	less := func(f func(a *api.Attrs)) string {
		a := Copy(simple)
		f(&a)
		return told(a, 1, api.Fault{})
	}
	same := func(a *api.Attrs) {}
	bad := told(api.Attrs{}, 2, api.Fault{})
	others := with()
	for k := range byte(9) {
		others = append(others, 0xc0, 100-k, 0)
	}
	for i, c := range []struct {
		b    []byte
		want string
	}{
		{base, fine(same)},
		{with(0x40), bad}, {with(0x40, 6), bad}, {with(0x40, 6, 1), bad}, {with(0x50, 6, 0), bad}, {with(0x50, 6, 0, 1), bad}, {with(0x50, 6, 0, 0), fine(func(a *api.Attrs) { a.Atomic = true })},
		{with(0xff, 5, 0, 9, 0x00, 99, 0), bad},
		{with(0x40, 1, 1, 2), less(same)}, {with(0, 1, 1, 9), less(same)}, {with(0xc0, 99, 0, 0, 99, 0), less(func(a *api.Attrs) { a.Others = []api.Raw{{Kind: 99}} })},
		{with(0, 99, 1, 7, 1), told(api.Attrs{}, 3, api.Fault{Code: 3, Sub: 2, Data: []byte{0, 99, 1, 7}})},
		{with(0x70, 0, 0, 1, 7), told(api.Attrs{}, 3, api.Fault{Code: 3, Sub: 2, Data: []byte{0x70, 0, 0, 1, 7}})},
		{with(0x80, 99, 1, 7), fine(same)}, {with(0xa0, 99, 1, 7), fine(same)}, {with(0xc0, 99, 1, 7, 0xe0, 98, 0), fine(func(a *api.Attrs) { a.Others = []api.Raw{{Kind: 98}, {Kind: 99, Data: []byte{7}}} })},
		{with(append([]byte{0xd0, 99, 1, 0}, make([]byte, 256)...)...), less(same)},
		{with(0xc0, 6, 0), bad}, {with(0x00, 6, 0), bad}, {with(0xc0, 4, 4, 0, 0, 0, 1), bad}, {with(0x80, 8, 4, 0, 0, 0, 1), bad}, {with(0x80, 17, 0), bad}, {with(0x40, 18, 0), bad}, {with(0xc0, 5, 0), bad},
		{with(0x40, 5, 9, 1, 2, 3, 4, 5, 6, 7, 8, 9), fine(same)}, {with(0x60, 6, 0), fine(func(a *api.Attrs) { a.Atomic = true })},
		{with(0x80, 4, 3, 0, 0, 0), bad}, {with(0x80, 4, 4, 0, 0, 0, 5), fine(func(a *api.Attrs) { a.HasMed, a.Med = true, 5 })},
		{with(0x40, 6, 1, 0), less(same)}, {with(0xc0, 7, 5, 0, 1, 0, 0, 0), less(same)}, {with(0xc0, 7, 8, 0, 0, 0, 1, 0, 0, 0, 0), less(same)}, {with(0xc0, 7, 6, 0, 0, 1, 2, 3, 4), less(same)},
		{with(0xc0, 7, 6, 0, 9, 1, 2, 3, 4), fine(func(a *api.Attrs) { a.HasMaker, a.MakerAS, a.Maker = true, 9, 0x01020304 })},
		{with(0xc0, 8, 0), bad}, {with(0xc0, 8, 3, 0, 0, 0), bad}, {with(append([]byte{0xc0, 8, 132}, make([]byte, 132)...)...), bad}, {with(0xc0, 8, 8, 0, 0, 0, 1, 0, 0, 0, 2), fine(func(a *api.Attrs) { a.Comms = []uint32{1, 2} })},
		{with(0xc0, 17, 3, 2, 1, 0), less(same)}, {with(0xc0, 18, 8, 0, 0, 0, 0, 1, 1, 1, 1), less(same)}, {with(0xc0, 18, 7, 0, 0, 0, 1, 1, 1, 1), less(same)},
		{with(0xc0, 18, 8, 0, 0, 0, 1, 1, 1, 1, 1), fine(same)},
		{base[4:], bad}, {append(bytes.Clone(base[:4]), base[11:]...), bad}, {base[:11], bad}, {nil, bad},
		{append([]byte{0x40, 1, 1, 3}, base[4:]...), bad}, {append([]byte{0x40, 1, 2, 0, 0}, base[4:]...), bad}, {append(bytes.Clone(base[:11]), 0x40, 3, 4, 0, 0, 0, 0), bad}, {append(bytes.Clone(base[:11]), 0x40, 3, 4, 224, 0, 0, 0), bad},
		{append(bytes.Clone(base[:4]), append([]byte{0x40, 2, 2, 2, 0}, base[11:]...)...), bad},
		{others, less(func(a *api.Attrs) {
			for k := 93; k <= 100; k++ {
				a.Others = append(a.Others, api.Raw{Kind: k})
			}
		})},
	} {
		must(t, fmt.Sprint("Read ", i), told(Read(c.b, false, true)), c.want)
	}
	must(t, "where no routes are told", told(Read([]byte{0x40, 6, 0}, false, false)), told(api.Attrs{Atomic: true}, 0, api.Fault{}))
	must(t, "nothing", told(Read(nil, true, false)), told(api.Attrs{}, 0, api.Fault{}))
	four := []byte{0x40, 1, 1, 0, 0x40, 2, 6, 2, 1, 0, 0, 0xfd, 0xe9, 0x40, 3, 4, 10, 0, 0, 1, 0xc0, 7, 8, 0, 1, 0, 0, 1, 2, 3, 4}
	a := Copy(simple)
	a.HasMaker, a.MakerAS, a.Maker = true, 65536, 0x01020304
	must(t, "in four", told(Read(four, true, true)), told(a, 0, api.Fault{}))
	must(t, "in four 17 and 18 count for nothing", told(Read(append(four, 0xc0, 17, 1, 9, 0xc0, 18, 0), true, true)), told(a, 0, api.Fault{}))
	must(t, "but their flags do", told(Read(append(four, 0x80, 17, 1, 9), true, true)), bad)
}

// Promise 20.2: in two bytes, what is said in four.
func TestJoin(t *testing.T) {
	way := func(n ...byte) []byte {
		if len(n) == 0 {
			return append([]byte{0x40, 1, 1, 0, 0x40, 2, 0}, base[11:]...)
		}
		b := []byte{0x40, 1, 1, 0, 0x40, 2, byte(2 + 2*len(n)), 2, byte(len(n))}
		for _, x := range n {
			b = append(b, 0, x)
		}
		return append(b, base[11:]...)
	}
	four := []byte{0xc0, 17, 6, 2, 1, 0, 1, 0, 0}
	maker := []byte{0xc0, 7, 6, 0x5b, 0xa0, 1, 2, 3, 4}
	other := []byte{0xc0, 7, 6, 0, 9, 1, 2, 3, 4}
	maker4 := []byte{0xc0, 18, 8, 0, 1, 0, 1, 5, 6, 7, 8}
	for i, c := range []struct {
		parts [][]byte
		path  []api.Segment
		as    uint32
		maker api.Addr
	}{
		{[][]byte{way(1, 2), four}, order(1, 65536), 0, 0},
		{[][]byte{four, way(1, 2)}, order(1, 65536), 0, 0},
		{[][]byte{way(1, 2), four, other}, order(1, 2), 9, 0x01020304},
		{[][]byte{way(1, 2), four, other, maker4}, order(1, 2), 9, 0x01020304},
		{[][]byte{way(1, 2), four, maker}, order(1, 65536), 23456, 0x01020304},
		{[][]byte{way(1, 2), four, maker4, maker}, order(1, 65536), 65537, 0x05060708},
		{[][]byte{way(1, 2), four, maker4}, order(1, 65536), 0, 0},
		{[][]byte{way(), four}, nil, 0, 0},
	} {
		b := slices.Concat(c.parts...)
		want := api.Attrs{Path: c.path, Next: 0x0a000001, HasMaker: c.as != 0, MakerAS: c.as, Maker: c.maker}
		must(t, fmt.Sprint("joined ", i), told(Read(b, false, true)), told(want, 0, api.Fault{}))
	}
	two := append([]byte{0x40, 1, 1, 0, 0x50, 2, 0, 130, 1, 64}, bytes.Repeat([]byte{0, 1}, 64)...)
	two = append(two, base[11:]...)
	four64 := append([]byte{0xd0, 17, 0, 242, 1, 60}, bytes.Repeat([]byte{0, 1, 0, 1}, 60)...)
	a, found, _ := Read(append(two, four64...), false, true)
	must(t, "a merged path that is put whole", []any{len(a.Path), len(a.Path[0].AS), a.Path[0].AS[0], found}, []any{1, 60, 65537, 0})
}

// Promise 20.2: a merged path that may not be is not merged.
func TestNotMerged(t *testing.T) {
	two := slices.Concat([]byte{0x40, 1, 1, 0, 0x40, 2, 8, 1, 1, 0, 1, 1, 1, 0, 2}, base[11:])
	four := append([]byte{0xd0, 17, 1, 2, 1, 64}, bytes.Repeat([]byte{0, 1, 0, 1}, 64)...)
	a, found, _ := Read(append(two, four...), false, true)
	must(t, "too long a path", []any{a.Path, found}, []any{[]api.Segment{{Set: true, AS: []uint32{1}}, {Set: true, AS: []uint32{2}}}, 0})
}

// Promises 20.3 to 20.5.
func TestFollows(t *testing.T) {
	r := rand.New(rand.NewSource(1))
	for range 2000 {
		a := some(r)
		b, e := Put(a, true)
		must(t, "Put", e, api.OK)
		bare := Copy(a)
		bare.HasLocal, bare.Local = false, 0
		must(t, "in four", told(Read(b, true, true)), told(bare, 0, api.Fault{}))
		b, _ = Put(a, false)
		got, found, _ := Read(b, false, true)
		if !needsFour(a.Path) || !a.HasMaker || a.MakerAS > 65535 || a.MakerAS == 23456 {
			must(t, "in two", []any{Same(got, bare), found}, []any{true, 0})
		}
		for range r.Intn(3) {
			b[r.Intn(len(b))] = byte(r.Int())
		}
		four := r.Intn(2) == 0
		x, found, f := Read(b, four, true)
		if found < 2 {
			if Check(x) != api.OK {
				t.Fatalf("%+v may not be put again", x)
			}
			y, more, f := Read(append(bytes.Clone(b), b...), four, true)
			must(t, "twice", []any{y, more, f}, []any{x, 1, api.Fault{}})
		} else if !Same(x, api.Attrs{}) || found < 3 && f.Code != 0 {
			t.Fatalf("of %d: %+v %v", found, x, f)
		}
	}
}

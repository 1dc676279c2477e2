package sum

import (
	"math/rand"
	"testing"

	"pointsman/api"
)

// slow adds word by word, as the RFC's words say it.
func slow(partial uint32, b []byte) uint32 {
	for partial > 0xffff {
		partial = partial>>16 + partial&0xffff
	}
	for i := 0; i < len(b); i += 2 {
		w := uint32(b[i]) << 8
		if i+1 < len(b) {
			w += uint32(b[i+1])
		}
		if partial += w; partial > 0xffff {
			partial -= 0xffff
		}
	}
	return partial
}

func someBytes(r *rand.Rand, n int) []byte {
	b := make([]byte, n)
	r.Read(b)
	return b
}

func TestExample(t *testing.T) {
	if got := Of([]byte{0, 1, 0xf2, 3, 0xf4, 0xf5, 0xf6, 0xf7}); got != 0x220d {
		t.Errorf("Of: %04x", got)
	}
}

// Promise 1.1.
func TestAddFoldRight(t *testing.T) {
	for _, c := range []struct {
		partial uint32
		b       []byte
		want    uint32
	}{
		{0, nil, 0}, {0, []byte{1}, 0x100}, {0x1ffff, nil, 1}, {0xffff, nil, 0xffff}, {0x10000, nil, 1},
		{0xffffffff, nil, 0xffff}, {0xffff, []byte{0, 1}, 1}, {0xffffffff, []byte{0xff, 0xff}, 0xffff}, {0, []byte{0, 0, 0}, 0},
	} {
		if got := Add(c.partial, c.b); got != c.want {
			t.Errorf("Add(%x, %x): %x, want %x", c.partial, c.b, got, c.want)
		}
		if got := Fold(c.partial); got != ^uint16(slow(c.partial, nil)) {
			t.Errorf("Fold(%x): %x", c.partial, got)
		}
	}
	if Of(nil) != 0xffff || Fold(0) != 0xffff || Fold(0xffffffff) != 0 {
		t.Error("the sum of nothing")
	}
	if !Right([]byte{0xff, 0xff}) || Right(nil) || Right([]byte{0, 0}) || Right([]byte{0xff, 0xfe}) {
		t.Error("Right")
	}
	r := rand.New(rand.NewSource(1))
	for range 500 {
		b, p := someBytes(r, r.Intn(40)), r.Uint32()
		if Add(p, b) != slow(p, b) || Of(b) != ^uint16(slow(0, b)) {
			t.Fatalf("Add(%x, %x)", p, b)
		}
	}
	if got := Add(0, make([]byte, 1<<20)); got != 0 {
		t.Errorf("many noughts: %x", got)
	}
}

// Promise 1.2.
func TestTurnPseudo(t *testing.T) {
	if got := Turn(0x220d, 1, 2); got != 0x220c {
		t.Errorf("Turn: %04x", got)
	}
	if got := Pseudo(0x0a000001, 0x0a000002, 6, 20); got != 0x141d {
		t.Errorf("Pseudo: %04x", got)
	}
	for _, n := range []int{0, -1, 65535, 65536, 70000, 1 << 40} {
		b := []byte{0x80, 1, 2, 3, 0xff, 5, 6, 7, 0, 17, byte(n >> 8), byte(n)}
		if got := Pseudo(0x80010203, 0xff050607, 17, n); got != Add(0, b) {
			t.Errorf("Pseudo of %d: %x", n, got)
		}
	}
	var none api.Addr
	if Pseudo(none, none, 0, 0) != 0 {
		t.Error("Pseudo of noughts")
	}
}

// Promise 1.3.
func TestRound(t *testing.T) {
	r := rand.New(rand.NewSource(2))
	for range 300 {
		a, b := someBytes(r, 2*r.Intn(20)), someBytes(r, r.Intn(20))
		if Add(Add(0, a), b) != Add(0, append(append([]byte{}, a...), b...)) {
			t.Fatalf("%x, %x: not as at once", a, b)
		}
		c := append([]byte{}, a...)
		for i := 0; i+3 < len(c); i += 4 {
			c[i], c[i+1], c[i+2], c[i+3] = c[i+2], c[i+3], c[i], c[i+1]
		}
		if Of(a) != Of(c) {
			t.Fatalf("%x: hangs on the order", a)
		}
	}
}

// Promise 1.4.
func TestRightWithItsSum(t *testing.T) {
	r := rand.New(rand.NewSource(3))
	for range 300 {
		b := someBytes(r, 2+r.Intn(30))
		at := 2 * r.Intn(len(b)/2)
		b[at], b[at+1] = 0, 0
		s := Of(b)
		b[at], b[at+1] = byte(s>>8), byte(s)
		if !Right(b) {
			t.Fatalf("%x is not right", b)
		}
	}
}

// Promise 1.5.
func TestTurned(t *testing.T) {
	r := rand.New(rand.NewSource(4))
	for range 500 {
		b := someBytes(r, 2*(1+r.Intn(10)))
		at, now := 2*r.Intn(len(b)/2), uint16(r.Uint32())
		before, was := Of(b), uint16(b[at])<<8|uint16(b[at+1])
		b[at], b[at+1] = byte(now>>8), byte(now)
		if got := Turn(before, was, now); got != Of(b) && !(Add(0, b) == 0 && got == 0) {
			t.Fatalf("Turn: %04x, want %04x", got, Of(b))
		}
	}
}

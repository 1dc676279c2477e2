package octet

import "testing"

func TestNumbers(t *testing.T) {
	b := make([]byte, 7)
	PutWord(b, 0x0102)
	PutLong(b[2:], 0x83040506)
	if Word(b, 0) != 0x0102 || Long(b, 2) != 0x83040506 || b[6] != 0 {
		t.Errorf("%x", b)
	}
	c := AddLong(AddWord(nil, 0x0102), 0x83040506)
	if string(c) != string(b[:6]) {
		t.Errorf("%x", c)
	}
}

func TestTexts(t *testing.T) {
	for _, a := range []uint32{0, 1, 0x0a000001, 0xffffffff, 0x64c80900} {
		if got, ok := Parse(Text(a)); got != a || !ok {
			t.Errorf("%s: %x", Text(a), got)
		}
	}
	for _, s := range []string{"", "1.2.3", "1.2.3.4.5", "1.2.3.4.", "01.2.3.4", "256.1.1.1", "1.2.3.x", "1.2.3.0004"} {
		if a, ok := Parse(s); ok || a != 0 {
			t.Errorf("%q: %x", s, a)
		}
	}
	for _, c := range []struct {
		s        string
		value, n int
	}{{"", 0, 0}, {"0", 0, 1}, {"00", 0, 0}, {"12a", 12, 2}, {"12345", 1234, 4}, {"a1", 0, 0}} {
		if value, n := Digits(c.s, 4); value != c.value || n != c.n {
			t.Errorf("%q: %d %d", c.s, value, n)
		}
	}
}

func TestHex(t *testing.T) {
	for x := range 256 {
		b := AddHex([]byte{'g'}, byte(x))
		if got, ok := Hex(string(b), 1); got != byte(x) || !ok || len(b) != 3 {
			t.Errorf("%s: %x", b, got)
		}
	}
	for _, s := range []string{"0A", "g0", "0 ", "0`"} {
		if _, ok := Hex(s, 0); ok {
			t.Errorf("%q is read", s)
		}
	}
}

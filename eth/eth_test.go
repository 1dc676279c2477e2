package eth

import (
	"bytes"
	"math/rand"
	"strings"
	"testing"

	"pointsman/api"
)

var me, other = api.Mac{2, 0, 0, 0, 0, 1}, api.Mac{2, 0, 0, 0, 0, 2}

func TestExample(t *testing.T) {
	m, e := Parse("02:00:00:00:00:0a")
	if m[5] != 10 || Group(m) || e != api.OK {
		t.Errorf("Parse: %v %v", m, e)
	}
}

// Promise 5.1.
func TestBuildRead(t *testing.T) {
	b, e := Build(Frame{To: me, From: other, Kind: 0x0806, Data: []byte{7, 8}})
	want := append([]byte{2, 0, 0, 0, 0, 1, 2, 0, 0, 0, 0, 2, 8, 6, 7, 8}, make([]byte, 44)...)
	if !bytes.Equal(b, want) || e != api.OK {
		t.Errorf("Build: %x %v", b, e)
	}
	if b, e := Build(Frame{Data: make([]byte, 1501)}); b != nil || e != api.ErrLong {
		t.Errorf("Build of 1501: %d %v", len(b), e)
	}
	if b, e := Build(Frame{Data: make([]byte, 1500)}); len(b) != api.MaxFrame || e != api.OK {
		t.Errorf("Build of 1500: %d %v", len(b), e)
	}
	if b, _ := Build(Frame{Data: make([]byte, 47)}); len(b) != 61 {
		t.Errorf("Build of 47: %d", len(b))
	}
	for _, n := range []int{0, 13, 59, 1515, 4000} {
		if f, e := Read(make([]byte, n)); e != api.ErrFrame || f.Data != nil {
			t.Errorf("Read of %d: %v", n, e)
		}
	}
	for _, n := range []int{60, 1514} {
		if f, e := Read(make([]byte, n)); e != api.OK || len(f.Data) != n-14 {
			t.Errorf("Read of %d: %v", n, e)
		}
	}
	f, _ := Read(b)
	b[14] = 99
	if f.To != me || f.From != other || f.Kind != 0x0806 || f.Data[0] != 7 {
		t.Errorf("Read: %v", f)
	}
}

// Promise 5.2.
func TestAddresses(t *testing.T) {
	for _, c := range []struct {
		to          api.Mac
		group, mine bool
	}{
		{me, false, true}, {other, false, false}, {Everybody(), true, true},
		{api.Mac{1}, true, true}, {api.Mac{0, 1, 1, 1, 1, 1}, false, false}, {api.Mac{0xfe, 0xff, 0xff, 0xff, 0xff, 0xff}, false, false},
	} {
		if Group(c.to) != c.group || Mine(me, c.to) != c.mine {
			t.Errorf("%v: %v %v", c.to, Group(c.to), Mine(me, c.to))
		}
	}
	if Text(Everybody()) != "ff:ff:ff:ff:ff:ff" || Text(api.Mac{0, 1, 0x23, 0xab, 0xcd, 0xef}) != "00:01:23:ab:cd:ef" {
		t.Error("Text")
	}
	if m, e := Parse("AB:cD:Ef:00:99:09"); m != (api.Mac{0xab, 0xcd, 0xef, 0, 0x99, 9}) || e != api.OK {
		t.Errorf("Parse: %v %v", m, e)
	}
	for _, s := range []string{"", "02", "02:00:00:00:00:0", "02:00:00:00:00:0a:", "02:00:00:00:00:0g", "02-00-00-00-00-0a", "02:00:00:00:00:00:00", "0200:00:00:00:00a", ":02:00:00:00:00:0", "02:00:00:00:00;0a", "02:00:00:00:00:0@", "02:00:00:00:00:0`"} {
		if m, e := Parse(s); m != (api.Mac{}) || e != api.ErrFrame {
			t.Errorf("Parse(%q): %v %v", s, m, e)
		}
	}
}

// Promises 5.3 and 5.4.
func TestBack(t *testing.T) {
	r := rand.New(rand.NewSource(1))
	for range 500 {
		f := Frame{Kind: uint16(r.Int()), Data: make([]byte, r.Intn(200))}
		r.Read(f.To[:])
		r.Read(f.From[:])
		r.Read(f.Data)
		b, _ := Build(f)
		g, e := Read(b)
		n := len(f.Data)
		if e != api.OK || g.To != f.To || g.From != f.From || g.Kind != f.Kind || !bytes.Equal(g.Data[:n], f.Data) || strings.Trim(string(g.Data[n:]), "\x00") != "" {
			t.Fatalf("%v: %v", f, g)
		}
		if m, e := Parse(Text(f.To)); m != f.To || e != api.OK {
			t.Fatalf("Parse(%s): %v", Text(f.To), m)
		}
		if m, e := Parse(strings.ToUpper(Text(f.From))); m != f.From || e != api.OK {
			t.Fatalf("great digits: %v", m)
		}
	}
}

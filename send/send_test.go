package send

import (
	"bytes"
	"fmt"
	"math"
	"math/rand"
	"testing"

	"pointsman/api"
)

func must(t *testing.T, what string, got, want any) {
	t.Helper()
	if g, w := fmt.Sprint(got), fmt.Sprint(want); g != w {
		t.Errorf("%s: %s, want %s", what, g, w)
	}
}

func told(at uint32, b []byte, e api.Errno) string {
	return fmt.Sprint(at, " ", string(b), " ", int(e))
}

func ack(o *Outbox, now int, at uint32, window int) string {
	n, e := o.Ack(now, at, window)
	return fmt.Sprint(n, " ", int(e))
}

func TestExample(t *testing.T) {
	o, _ := New(10, 100, 5, 4)
	must(t, "Write", o.Write([]byte("abcdefgh")), 8)
	must(t, "Send", told(o.Send(0)), "10 abcd 0")
	must(t, "Send", told(o.Send(0)), "14 e 0")
	must(t, "Send", told(o.Send(0)), "0  5")
	must(t, "Ack", ack(o, 0, 12, 5), "2 0")
	must(t, "Send", told(o.Send(0)), "15 fg 0")
}

// Promise 14.1.
func TestNewWrite(t *testing.T) {
	for _, c := range [][3]int{{0, 0, 1}, {65536, 0, 1}, {1, -1, 1}, {1, 65536, 1}, {1, 0, 0}, {1, 0, 65536}} {
		o, e := New(0, c[0], c[1], c[2])
		must(t, "New", []any{o == nil, e}, []any{true, api.ErrArg})
	}
	o, e := New(math.MaxUint32, 5, 65535, 65535)
	must(t, "New", []any{e, o.Una(), o.Next(), o.Flight(), o.Queued(), o.Window(), o.Wait()}, []any{api.OK, uint32(math.MaxUint32), uint32(math.MaxUint32), 0, 0, 65535, 30})
	b := []byte("abcdefg")
	must(t, "Write", []any{o.Write(b[:3]), o.Write(b[3:]), o.Write(b), o.Queued()}, []any{3, 2, 0, 5})
	b[0] = 'x'
	must(t, "Send", told(o.Send(3)), "4294967295 abcde 0")
	must(t, "sent", []any{o.Una(), o.Next(), o.Flight(), o.Queued()}, []any{uint32(math.MaxUint32), 4, 5, 5})
	must(t, "Ack", ack(o, 3, 0, 0), "1 0")
	must(t, "acknowledged", []any{o.Una(), o.Next(), o.Flight(), o.Queued(), o.Window(), o.Write(b)}, []any{0, 4, 4, 4, 0, 1})
	for _, o := range []*Outbox{nil, {}} {
		must(t, "of no outbox", []any{o.Write(b), told(o.Send(-1)), told(o.Again(-1)), told(o.Probe(-1)), ack(o, -1, 0, -1), o.Una(), o.Next(), o.Flight(), o.Queued(), o.Window(), o.Wait()}, []any{0, "0  1", "0  1", "0  1", "0 1", 0, 0, 0, 0, 0, 0})
	}
}

// Promise 14.2.
func TestSendAgainProbe(t *testing.T) {
	o, _ := New(10, 100, 0, 4)
	must(t, "nothing", []string{told(o.Send(0)), told(o.Again(0)), told(o.Probe(0))}, []string{"0  5", "0  5", "0  5"})
	o.Write([]byte("abcdefgh"))
	must(t, "a time below 0", []string{told(o.Send(-1)), told(o.Again(-1)), told(o.Probe(-1))}, []string{"0  2", "0  2", "0  2"})
	must(t, "no window", told(o.Send(5)), "0  5")
	must(t, "the time of a call with ErrNone counts", told(o.Probe(4)), "0  2")
	must(t, "Probe", told(o.Probe(5)), "10 a 0")
	must(t, "Probe again", told(o.Probe(5)), "0  5")
	must(t, "Again", []any{told(o.Again(6)), o.Tries(), o.Wait()}, []any{"10 a 0", 1, 60})
	must(t, "Ack", ack(o, 6, 11, 6), "1 0")
	must(t, "Send", []string{told(o.Send(6)), told(o.Send(6)), told(o.Send(6)), told(o.Probe(6))}, []string{"11 bcde 0", "15 fg 0", "0  5", "0  5"})
	for range 8 {
		must(t, "Again", told(o.Again(6)), "11 bcde 0")
	}
	must(t, "Again too often", []any{told(o.Again(7)), o.Tries()}, []any{"0  4", 8})
	must(t, "the time of a call with ErrFull counts", told(o.Send(6)), "0  2")
	must(t, "a window that shrinks", []string{ack(o, 7, 12, 2), told(o.Send(7)), told(o.Again(7))}, []string{"1 0", "0  5", "12 cdef 0"})
}

// Promise 14.3.
func TestAck(t *testing.T) {
	o, _ := New(10, 100, 50, 4)
	o.Write([]byte("abcdefgh"))
	o.Send(3)
	for _, c := range []struct {
		now    int
		ack    uint32
		window int
	}{{2, 11, 5}, {3, 9, 5}, {3, 15, 5}, {3, 11, -1}, {3, 11, 65536}} {
		must(t, "Ack", ack(o, c.now, c.ack, c.window), "0 2")
	}
	must(t, "refused", []any{o.Una(), o.Window()}, []any{10, 50})
	o.Again(3)
	must(t, "an old one", []any{ack(o, 4, 10, 7), o.Window(), o.Tries()}, []any{"0 0", 7, 1})
	must(t, "a new one", []any{ack(o, 4, 11, 8), o.Window(), o.Tries(), o.Una(), o.Flight()}, []any{"1 0", 8, 0, 11, 3})
	s, v := o.State()
	must(t, "what is sent again ends the measure", []int{s, v}, []int{0, 0})
	o.Send(4)
	o.Send(4)
	ack(o, 6, 14, 8)
	s, v = o.State()
	must(t, "not yet acknowledged", []int{s, v}, []int{0, 0})
	ack(o, 9, 15, 8)
	s, v = o.State()
	must(t, "the first byte is measured", []int{s, v}, []int{40, 10})
	o.Write([]byte("xy"))
	o.Send(10)
	ack(o, 1<<40, o.Next(), 8)
	s, _ = o.State()
	must(t, "100000 at most", s, 40-5+100000)
}

// Promises 14.4, 14.5 and 14.6.
func TestStream(t *testing.T) {
	r := rand.New(rand.NewSource(1))
	for range 200 {
		first := uint32(math.MaxUint32 - uint32(r.Intn(30)))
		o, _ := New(first, 1+r.Intn(40), r.Intn(20), 1+r.Intn(9))
		var written, sent []byte
		acked, now := 0, 0
		for range 300 {
			now += r.Intn(3)
			switch r.Intn(5) {
			case 0:
				b := make([]byte, r.Intn(20))
				r.Read(b)
				n := o.Write(b)
				written = append(written, b[:n]...)
			case 1:
				at, b, e := o.Send(now)
				if e == api.OK {
					if at != first+uint32(len(sent)) || o.Flight() > o.Window() {
						t.Fatalf("Send: %d", at)
					}
					sent = append(sent, b...)
				}
			case 2:
				at, b, e := o.Again(now)
				if e == api.OK && (at != first+uint32(acked) || !bytes.HasPrefix(sent[acked:], b)) {
					t.Fatal("Again")
				}
			case 3:
				if _, b, e := o.Probe(now); e == api.OK {
					sent = append(sent, b...)
				}
			case 4:
				acked += r.Intn(len(sent) - acked + 1)
				o.Ack(now, first+uint32(acked), r.Intn(20))
			}
			if !bytes.HasPrefix(written, sent) || o.Queued() != len(written)-acked || o.Flight() != len(sent)-acked {
				t.Fatal("it is not the stream")
			}
		}
		for i := 0; acked < len(written) && i < 1000; i++ {
			o.Ack(now, o.Next(), 10)
			acked = len(sent)
			_, b, _ := o.Send(now)
			sent = append(sent, b...)
		}
		if !bytes.Equal(sent, written) || o.Queued() != 0 {
			t.Fatal("not all is sent and acknowledged")
		}
	}
}

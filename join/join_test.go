package join

import (
	"bytes"
	"fmt"
	"math"
	"math/rand"
	"testing"

	"pointsman/api"
)

func must(t *testing.T, what string, got, want any) {
	t.Helper()
	if g, w := fmt.Sprint(got), fmt.Sprint(want); g != w {
		t.Errorf("%s: %s, want %s", what, g, w)
	}
}

func add(t *testing.T, j *Joint, at uint32, s string, want int) {
	t.Helper()
	n, e := j.Add(at, []byte(s))
	must(t, fmt.Sprint("Add ", at, s), []any{n, e}, []any{want, api.OK})
}

func read(t *testing.T, j *Joint, n int, want string) {
	t.Helper()
	b, e := j.Read(n)
	must(t, "Read", []any{string(b), e}, []any{want, api.OK})
}

func state(t *testing.T, j *Joint, next uint32, window, ready, held int) {
	t.Helper()
	must(t, "state", []any{j.Next(), j.Window(), j.Ready(), j.Held()}, []any{next, window, ready, held})
}

func TestExample(t *testing.T) {
	j, _ := New(10, 5)
	add(t, j, 12, "c", 0)
	add(t, j, 10, "ab", 3)
	read(t, j, 9, "abc")
	must(t, "Next", j.Next(), 13)
}

// Promises 12.1 and 12.2.
func TestAddRead(t *testing.T) {
	for _, room := range []int{-1, 0, 65536, math.MaxInt} {
		j, e := New(0, room)
		must(t, "New", []any{j == nil, e}, []any{true, api.ErrArg})
	}
	j, e := New(100, 65535)
	must(t, "New", e, api.OK)
	_, e = j.Add(100, make([]byte, 65537))
	must(t, "Add of too many", e, api.ErrLong)
	n, e := j.Add(100, make([]byte, 65536))
	must(t, "Add of as many as may be", []any{n, e}, []any{65535, api.OK})
	state(t, j, 100+65535, 0, 65535, 0)
	add(t, j, 100+65535, "x", 0)
	_, e = j.Read(-1)
	must(t, "Read below 0", e, api.ErrArg)

	j, _ = New(10, 5)
	add(t, j, 9, "zabcdefg", 5)
	state(t, j, 15, 0, 5, 0)
	add(t, j, 15, "f", 0)
	state(t, j, 15, 0, 5, 0)
	read(t, j, 0, "")
	read(t, j, 2, "ab")
	state(t, j, 15, 2, 3, 0)
	add(t, j, 16, "gh", 0)
	state(t, j, 15, 2, 3, 1)
	add(t, j, 16, "X", 0)
	add(t, j, 15, "fY", 2)
	read(t, j, math.MaxInt, "cdefg")
	add(t, j, 12, "cde", 0)
	add(t, j, 30, "q", 0)
	state(t, j, 17, 5, 0, 0)
	b, _ := j.Read(1)
	must(t, "Read of nothing", len(b), 0)
	for _, j := range []*Joint{nil, {}} {
		_, e := j.Add(0, make([]byte, 70000))
		must(t, "Add", e, api.ErrNil)
		_, e = j.Read(-1)
		must(t, "Read", e, api.ErrNil)
		state(t, j, 0, 0, 0, 0)
	}
}

// Promises 12.3, 12.4 and 12.5.
func TestStream(t *testing.T) {
	r := rand.New(rand.NewSource(1))
	for range 200 {
		first, room := uint32(math.MaxUint32-uint32(r.Intn(40))), 1+r.Intn(30)
		stream := make([]byte, r.Intn(100))
		r.Read(stream)
		j, _ := New(first, room)
		var got []byte
		for range 200 {
			if len(stream) > 0 {
				from := r.Intn(len(stream))
				to := from + r.Intn(len(stream)-from+1)
				j.Add(first+uint32(from), bytes.Clone(stream[from:to]))
			}
			if j.Ready()+j.Held() > room || j.Window() != room-j.Ready() {
				t.Fatal("more than the room")
			}
			b, _ := j.Read(r.Intn(5))
			got = append(got, b...)
			if !bytes.HasPrefix(stream, got) {
				t.Fatalf("%x is no beginning of %x", got, stream)
			}
			if j.Next() != first+uint32(len(got)+j.Ready()) {
				t.Fatal("Next")
			}
		}
		for i := 0; len(got) < len(stream) && i < 200; i++ {
			j.Add(first, stream)
			b, _ := j.Read(room)
			got = append(got, b...)
		}
		if !bytes.Equal(got, stream) {
			t.Fatalf("%x, want %x", got, stream)
		}
	}
}

package fsm

import (
	"fmt"
	"math/rand"
	"strings"
	"testing"

	"pointsman/api"
	"pointsman/mark"
	"pointsman/note"
	"pointsman/open"
)

func must(t *testing.T, what string, got, want any) {
	t.Helper()
	if g, w := fmt.Sprintf("%+v", got), fmt.Sprintf("%+v", want); g != w {
		t.Errorf("%s: %s, want %s", what, g, w)
	}
}

// text tells shortly what a session does.
func text(l []Act) string {
	var words []string
	for _, a := range l {
		w := [...]string{"", "dial", "drop", "send", "up", "down", "update", "refresh"}[a.Kind] + fmt.Sprint(a.Track)
		if a.Kind == actSend {
			m, _, ok := mark.New().Feed(a.B)
			if !ok || len(m) != 1 {
				return "what can't be read"
			}
			w += [...]string{"", "OPEN", "UPDATE", "NOTE", "KEEP", "REFRESH"}[m[0].Kind]
			if f, _ := note.Read(m[0].Body); m[0].Kind == 3 {
				w += fmt.Sprintf("(%d,%d)", f.Code, f.Sub)
			}
		}
		if a.Kind == actDown && a.Gracefully {
			w += "gracefully"
		}
		words = append(words, w)
	}
	return strings.Join(words, " ")
}

var config = Config{AS: 65000, ID: 100, Hold: 90, Peer: 65001, Retry: 5, Graceful: 120}

var theirs = api.Open{AS: 65001, Hold: 30, ID: 50, Multi: true}

func make1(t *testing.T, f func(c *Config)) *Session {
	t.Helper()
	c := config
	f(&c)
	s, e := New(c)
	must(t, "New", e, api.OK)
	return s
}

func plain(*Config) {}

func waits(c *Config) { c.Waits = true }

func hello(o api.Open) mark.Message {
	b, _ := open.Build(o)
	return mark.Message{Kind: 1, Body: b}
}

var keep = mark.Message{Kind: 4}

// up gives a session that is established on track 0, at 0.
func up(t *testing.T, f func(c *Config)) *Session {
	t.Helper()
	s := make1(t, f)
	s.Start(0)
	s.Up(0, 0)
	s.Take(0, 0, hello(theirs))
	must(t, "established", []any{text(s.Take(0, 0, keep)), s.State()}, []any{"up0", 5})
	return s
}

func due(s *Session) string {
	at, ok := s.Due()
	return fmt.Sprint(at, ok)
}

func TestExample(t *testing.T) {
	s := make1(t, plain)
	must(t, "Start", []any{text(s.Start(0)), s.State(), due(s)}, []any{"dial0", 1, "50 true"})
	l := s.Up(0, 0)
	must(t, "Up", []any{text(l), s.State(), due(s)}, []any{"send0OPEN", 3, "2400 true"})
	m, _, _ := mark.New().Feed(l[0].B)
	o, _, _ := open.Read(m[0].Body)
	must(t, "its OPEN", o, api.Open{AS: 65000, Hold: 90, ID: 100, Multi: true, Four: true, Refresh: true, Graceful: true, Time: 120})
	must(t, "the peer's OPEN", []any{text(s.Take(0, 0, hello(theirs))), s.State(), due(s)}, []any{"send0KEEP", 4, "100 true"})
	must(t, "not yet", s.Peer(), api.Open{})
	l = s.Take(0, 0, keep)
	must(t, "its KEEPALIVE", []any{text(l), s.State(), l[0].Open, s.Peer()}, []any{"up0", 5, theirs, theirs})
}

// Promise 23.1: New.
func TestNew(t *testing.T) {
	for i, f := range []func(c *Config){
		func(c *Config) { c.AS = 0 }, func(c *Config) { c.ID = 0 }, func(c *Config) { c.Hold = 1 }, func(c *Config) { c.Hold = 2 }, func(c *Config) { c.Hold = -1 }, func(c *Config) { c.Hold = 65536 },
		func(c *Config) { c.Peer = 0 }, func(c *Config) { c.Retry = 0 }, func(c *Config) { c.Retry = 100001 }, func(c *Config) { c.Graceful = -1 }, func(c *Config) { c.Graceful = 4096 },
	} {
		c := config
		f(&c)
		s, e := New(c)
		must(t, fmt.Sprint("New ", i), []any{s == nil, e}, []any{true, api.ErrArg})
	}
	for _, s := range []*Session{nil, {}} {
		must(t, "of no session", []any{text(s.Start(0)), text(s.Stop(0, 0)), text(s.Up(0, 0)), text(s.Gone(0, 0)), text(s.Take(0, 0, keep)), text(s.Fail(0, 0, api.Fault{})), text(s.Tick(0)), s.State(), s.Track(0), s.Peer(), due(s)},
			[]any{"", "", "", "", "", "", "", 0, 0, api.Open{}, "0 false"})
	}
	s := make1(t, func(c *Config) { c.Graceful = 0 })
	s.Start(0)
	m, _, _ := mark.New().Feed(s.Up(0, 0)[0].B)
	o, _, _ := open.Read(m[0].Body)
	must(t, "restarts that are not graceful", []any{o.Graceful, o.Time}, []any{false, 0})
}

// Promise 23.1: Start and Stop.
func TestStartStop(t *testing.T) {
	s := make1(t, plain)
	must(t, "idle", []any{s.State(), due(s), text(s.Stop(0, 2)), text(s.Up(0, 0)), text(s.Up(0, 1)), s.State()}, []any{0, "0 false", "", "drop0", "drop1", 0})
	s.Start(7)
	must(t, "Start again", []any{text(s.Start(8)), s.Track(0)}, []any{"", 1})
	must(t, "Stop", []any{text(s.Stop(9, 2)), s.State(), due(s), s.Track(0)}, []any{"drop0", 0, "0 false", 0})
	s = make1(t, waits)
	must(t, "it waits", []any{text(s.Start(0)), s.State(), due(s)}, []any{"", 2, "50 true"})
	must(t, "it tries again", []any{text(s.Tick(49)), text(s.Tick(50)), due(s)}, []any{"", "", "100 true"})
	s = up(t, plain)
	must(t, "Stop", []any{text(s.Stop(9, 300)), s.State(), due(s)}, []any{"send0NOTE(6,0) drop0 down0", 0, "0 false"})
	s = make1(t, plain)
	s.Start(0)
	s.Up(0, 1)
	must(t, "both", text(s.Stop(0, 2)), "drop0 send1NOTE(6,2) drop1")
}

// Promise 23.1: Up and Gone.
func TestUpGone(t *testing.T) {
	s := make1(t, waits)
	s.Start(0)
	must(t, "not dialled", []any{text(s.Up(0, 0)), s.Track(0)}, []any{"drop0", 0})
	must(t, "a track that there is not", []any{text(s.Up(60, 2)), text(s.Up(0, -1)), text(s.Gone(0, 7)), text(s.Take(0, 2, keep)), text(s.Fail(0, 2, api.Fault{})), s.Track(2), s.Track(-1)}, []any{"", "", "", "", "", 0, 0})
	must(t, "its time counts", text(s.Up(0, 1))+due(s), "send1OPEN2460 true")
	must(t, "up already", text(s.Up(0, 1)), "")
	must(t, "Gone", []any{text(s.Gone(70, 1)), due(s), s.State(), text(s.Gone(70, 1))}, []any{"", "120 true", 2, ""})
	s = up(t, plain)
	must(t, "the other one is established", []any{text(s.Up(0, 1)), s.Track(1)}, []any{"drop1", 0})
	must(t, "Gone", []any{text(s.Gone(5, 0)), s.State(), due(s), s.Peer()}, []any{"down0gracefully", 2, "55 true", api.Open{}})
	s = make1(t, plain)
	s.Start(0)
	must(t, "dialled, and gone", []any{text(s.Gone(20, 0)), s.State(), due(s)}, []any{"", 2, "70 true"})
	must(t, "it dials again", []any{text(s.Tick(70)), s.State(), due(s)}, []any{"dial0", 1, "120 true"})
	must(t, "and again", []any{text(s.Tick(120)), due(s)}, []any{"drop0 dial0", "170 true"})
}

// Promise 23.1: an OPEN.
func TestOpen(t *testing.T) {
	for i, c := range []struct {
		f    func(o *api.Open)
		want string
	}{
		{func(o *api.Open) { o.AS = 65002 }, "send0NOTE(2,2) drop0"}, {func(o *api.Open) { o.ID = 100 }, "send0NOTE(2,3) drop0"}, {func(o *api.Open) { o.AS, o.ID = 65002, 100 }, "send0NOTE(2,2) drop0"},
		{func(o *api.Open) { o.Hold = 3 }, "send0KEEP"}, {func(o *api.Open) { o.AS, o.Four = 65001, true }, "send0KEEP"},
	} {
		s := make1(t, plain)
		s.Start(0)
		s.Up(0, 0)
		o := theirs
		c.f(&o)
		must(t, fmt.Sprint("OPEN ", i), text(s.Take(0, 0, hello(o))), c.want)
	}
	s := make1(t, plain)
	s.Start(0)
	s.Up(0, 0)
	must(t, "a bad one", []any{text(s.Take(3, 0, mark.Message{Kind: 1, Body: []byte{9}})), due(s), s.State()}, []any{"send0NOTE(2,0) drop0", "53 true", 2})
	for _, c := range []struct {
		mine, peer int
		want       string
	}{{90, 30, "100 true"}, {10, 30, "33 true"}, {0, 30, "0 false"}, {90, 0, "0 false"}} {
		s := make1(t, func(c2 *Config) { c2.Hold = c.mine })
		s.Start(0)
		s.Up(0, 0)
		o := theirs
		o.Hold = c.peer
		s.Take(0, 0, hello(o))
		must(t, fmt.Sprint("the smaller hold ", c), due(s), c.want)
	}
}

// Promise 23.1: two tracks.
func TestCollision(t *testing.T) {
	for _, c := range []struct {
		id    api.Addr
		first int
		want  string
	}{
		{50, 0, "send1NOTE(6,7) drop1 send0KEEP"}, {50, 1, "send1NOTE(6,7) drop1"}, {200, 0, "send0NOTE(6,7) drop0"}, {200, 1, "send0NOTE(6,7) drop0 send1KEEP"},
	} {
		s := make1(t, plain)
		s.Start(0)
		s.Up(0, 0)
		s.Up(0, 1)
		o := theirs
		o.ID = c.id
		must(t, fmt.Sprint(c), text(s.Take(0, c.first, hello(o))), c.want)
	}
	s := make1(t, plain)
	s.Start(0)
	s.Up(0, 1)
	s.Take(0, 1, hello(theirs))
	must(t, "the other one is dialled", []any{text(s.Take(0, 1, keep)), s.Track(0), s.Track(1)}, []any{"drop0 up1", 0, 5})
	s = make1(t, plain)
	s.Start(0)
	s.Up(0, 1)
	s.Take(0, 1, hello(theirs))
	s.Up(0, 0)
	must(t, "the other one is open sent", []any{text(s.Take(0, 1, keep)), s.Track(0)}, []any{"send0NOTE(6,7) drop0 up1", 0})
}

// Promise 23.1: other messages.
func TestOthers(t *testing.T) {
	at := func(state int) *Session {
		if state == 5 {
			return up(t, plain)
		}
		s := make1(t, plain)
		s.Start(0)
		if state >= 3 {
			s.Up(0, 0)
		}
		if state == 4 {
			s.Take(0, 0, hello(theirs))
		}
		return s
	}
	refresh := mark.Message{Kind: 5, Body: note.Refresh()}
	update := mark.Message{Kind: 2, Body: []byte{1, 2}}
	for _, c := range []struct {
		state int
		m     mark.Message
		want  string
	}{
		{0, update, ""}, {1, keep, ""}, {1, mark.Message{Kind: 3}, ""},
		{3, keep, "send0NOTE(5,1) drop0"}, {3, update, "send0NOTE(5,1) drop0"}, {3, refresh, "send0NOTE(5,1) drop0"}, {3, mark.Message{Kind: 3}, "drop0"}, {3, mark.Message{Kind: 9}, "send0NOTE(5,1) drop0"},
		{4, hello(theirs), "send0NOTE(5,2) drop0"}, {4, update, "send0NOTE(5,2) drop0"}, {4, mark.Message{Kind: 3}, "drop0"}, {4, mark.Message{}, "send0NOTE(5,2) drop0"},
		{5, hello(theirs), "send0NOTE(5,3) drop0 down0"}, {5, update, "update0"}, {5, refresh, "refresh0"}, {5, mark.Message{Kind: 5, Body: []byte{0, 2, 0, 1}}, ""}, {5, keep, ""}, {5, mark.Message{Kind: 3}, "drop0 down0"}, {5, mark.Message{Kind: -1}, "send0NOTE(5,3) drop0 down0"},
	} {
		s := at(c.state)
		must(t, fmt.Sprint("in ", c.state, " ", c.m.Kind), text(s.Take(0, 0, c.m)), c.want)
	}
	s := at(5)
	l := s.Take(0, 0, update)
	update.Body[0] = 9
	must(t, "its body", l[0].B, []byte{1, 2})
	s = at(4)
	must(t, "Fail", text(s.Fail(0, 0, api.Fault{Code: 3, Sub: 1})), "send0NOTE(3,1) drop0")
	must(t, "Fail again", text(s.Fail(0, 0, api.Fault{Code: 3, Sub: 1})), "")
	s = at(5)
	must(t, "Fail that can't be built", text(s.Fail(0, 0, api.Fault{Code: 3, Sub: 999})), "send0NOTE(6,0) drop0 down0")
}

// Promises 23.1 and 23.2: what is due.
func TestDue(t *testing.T) {
	s := up(t, plain)
	must(t, "too early", []any{text(s.Tick(99)), due(s)}, []any{"", "100 true"})
	must(t, "a KEEPALIVE", []any{text(s.Tick(100)), due(s), text(s.Tick(100))}, []any{"send0KEEP", "200 true", ""})
	s.Take(150, 0, keep)
	must(t, "a KEEPALIVE", []any{text(s.Tick(200)), text(s.Tick(300)), text(s.Tick(400)), due(s)}, []any{"send0KEEP", "send0KEEP", "send0KEEP", "450 true"})
	s.Take(440, 0, mark.Message{Kind: 2})
	must(t, "an UPDATE holds anew", text(s.Tick(450)), "")
	s.Take(450, 0, mark.Message{Kind: 5, Body: []byte{9, 9, 9, 9}})
	must(t, "so does a ROUTE-REFRESH", []any{text(s.Tick(740)), text(s.Tick(749))}, []any{"send0KEEP", ""})
	must(t, "the hold", []any{text(s.Tick(750)), s.State(), due(s)}, []any{"send0NOTE(4,0) drop0 down0", 2, "800 true"})
	s = make1(t, plain)
	s.Start(0)
	s.Up(10, 0)
	must(t, "240 seconds", []any{text(s.Tick(2409)), text(s.Tick(2410)), s.State()}, []any{"", "send0NOTE(4,0) drop0", 2})
	s = make1(t, plain)
	s.Start(1 << 50)
	must(t, "above MaxTick", due(s), fmt.Sprint(api.MaxTick+50, " true"))
	s = make1(t, plain)
	s.Start(100)
	must(t, "an earlier time counts as the last one", []any{text(s.Gone(3, 0)), due(s)}, []any{"", "150 true"})
}

// Promises 23.3 to 23.5: whatever comes.
func TestWhatever(t *testing.T) {
	for seed := range int64(300) {
		r := rand.New(rand.NewSource(seed))
		s := make1(t, func(c *Config) { c.Waits, c.Hold = r.Intn(2) == 0, 3*r.Intn(4) })
		now, isUp := 0, false
		var noted [2]bool
		for range 400 {
			now += r.Intn(20)
			tr := r.Intn(2)
			o := theirs
			o.ID, o.Hold = api.Addr(50+100*r.Intn(2)), 3*r.Intn(5)
			var l []Act
			switch r.Intn(12) {
			case 0:
				l = s.Start(now)
			case 1:
				if r.Intn(10) == 0 {
					l = s.Stop(now, 2)
				}
			case 2, 3:
				if s.Track(tr) < 3 {
					noted[tr] = false
				}
				l = s.Up(now, tr)
			case 4:
				if r.Intn(8) == 0 {
					l = s.Gone(now, tr)
				}
			case 5, 6:
				l = s.Take(now, tr, hello(o))
			case 7, 8:
				l = s.Take(now, tr, keep)
			case 9:
				l = s.Take(now, tr, mark.Message{Kind: 2 + r.Intn(4), Body: note.Refresh()})
			default:
				l = s.Tick(now)
			}
			for _, a := range l {
				switch a.Kind {
				case actSend:
					m, _, ok := mark.New().Feed(a.B)
					if !ok || len(m) != 1 || noted[a.Track] {
						t.Fatalf("seed %d: %s", seed, text(l))
					}
					noted[a.Track] = m[0].Kind == 3
				case actUp, actDown:
					if isUp == (a.Kind == actUp) {
						t.Fatalf("seed %d: not in turn", seed)
					}
					isUp = !isUp
				case actUpdate:
					if !isUp || s.Track(a.Track) != established {
						t.Fatalf("seed %d: an update of none", seed)
					}
				}
			}
			if s.Track(0) == 5 && s.Track(1) == 5 || isUp != (s.State() == 5) {
				t.Fatalf("seed %d: %d %d", seed, s.Track(0), s.Track(1))
			}
		}
	}
}

// Promise 23.6.
func TestAlive(t *testing.T) {
	for _, first := range []func(*Config){plain, waits} {
		a := make1(t, first)
		b := make1(t, func(c *Config) { c.AS, c.Peer, c.ID = 65001, 65000, 50 })
		sides := [2]*Session{a, b}
		var split [2][2]*mark.Splitter
		type thing struct {
			side int
			a    Act
		}
		var work []thing
		do := func(side int, l []Act) {
			for _, x := range l {
				work = append(work, thing{side, x})
			}
		}
		do(0, a.Start(0))
		do(1, b.Start(0))
		for now := 0; now < 3000; now++ {
			for len(work) > 0 {
				w := work[0]
				work = work[1:]
				other, track := 1-w.side, 1-w.a.Track
				switch w.a.Kind {
				case actDial:
					split[w.side][w.a.Track], split[other][track] = mark.New(), mark.New()
					do(other, sides[other].Up(now, track))
					do(w.side, sides[w.side].Up(now, w.a.Track))
				case actDrop:
					do(other, sides[other].Gone(now, track))
				case actSend:
					m, _, _ := split[other][track].Feed(w.a.B)
					for _, x := range m {
						do(other, sides[other].Take(now, track, x))
					}
				}
			}
			do(0, a.Tick(now))
			do(1, b.Tick(now))
		}
		must(t, "established", []any{a.State(), b.State(), a.Track(0)+a.Track(1) == 5, a.Track(0) == b.Track(1)}, []any{5, 5, true, true})
	}
}

package fsm

import (
	"slices"

	"pointsman/api"
	"pointsman/mark"
	"pointsman/note"
	"pointsman/open"
)

// The kinds of messages.
const (
	kindOpen = 1 + iota
	kindUpdate
	kindNotification
	kindKeepalive
	kindRefresh
)

// The codes of faults, and subcodes.
const (
	codeOpen     = 2
	codeHold     = 4
	codeState    = 5
	cease        = 6
	subSystem    = 2
	subWho       = 3
	subCollision = 7
)

// hear takes a message on a track that is in open sent or further.
func (s *Session) hear(t int, m mark.Message) {
	x := &s.tracks[t]
	switch m.Kind {
	case kindOpen:
		if x.state != openSent {
			goto wrong
		}
		s.hearOpen(t, m.Body)
	case kindKeepalive:
		if x.state == openSent {
			goto wrong
		}
		if x.state == openConfirm {
			s.establish(t)
		}
		s.holds(t, x.hold)
	case kindUpdate:
		if x.state == established {
			s.act(Act{Kind: actUpdate, Track: t, B: slices.Clone(m.Body)})
		}
		fallthrough
	case kindRefresh:
		if x.state != established {
			goto wrong
		}
		s.holds(t, x.hold)
		if m.Kind == kindRefresh && note.Refreshes(m.Body) {
			s.act(Act{Kind: actRefresh, Track: t})
		}
	case kindNotification:
		s.act(Act{Kind: actDrop, Track: t})
		s.lose(t, false)
	default:
		goto wrong
	}
	return
wrong:
	s.fail(t, api.Fault{Code: codeState, Sub: x.state - openSent + 1})
}

// hearOpen takes an OPEN's body in open sent.
func (s *Session) hearOpen(t int, body []byte) {
	x := &s.tracks[t]
	o, f, ok := open.Read(body)
	switch {
	case !ok:
	case o.AS != s.Config.Peer:
		f = api.Fault{Code: codeOpen, Sub: subSystem}
	case o.ID == s.ID:
		f = api.Fault{Code: codeOpen, Sub: subWho}
	case !s.stays(t, o):
		f = api.Fault{Code: cease, Sub: subCollision}
	}
	if f.Code != 0 {
		s.fail(t, f)
		return
	}
	if other := s.other(t).state; other == openSent || other == openConfirm {
		s.end(1-t, cease, subCollision)
	}
	s.send(t, kindKeepalive, nil)
	x.state, x.peer = openConfirm, o
	s.holds(t, min(s.Hold, o.Hold)*api.Second)
	x.each = x.hold / 3
	x.eachAt = s.last + x.each
}

// stays tells whether a track stays, of two: the one that was dialled by the greater of both does.
func (s *Session) stays(t int, o api.Open) bool {
	other := s.other(t).state
	if other != openSent && other != openConfirm {
		return true
	}
	return (s.ID > o.ID) == (t == 0)
}

// establish lets a track be established, alone.
func (s *Session) establish(t int) {
	s.end(1-t, cease, subCollision)
	x := &s.tracks[t]
	x.state = established
	s.act(Act{Kind: actUp, Track: t, Open: x.peer})
}

// end fails a track, if it is in open sent or further, and drops one that is dialled.
func (s *Session) end(t, code, sub int) {
	switch s.tracks[t].state {
	case none:
	case dialled:
		s.tracks[t].state = none
		s.act(Act{Kind: actDrop, Track: t})
	default:
		s.fail(t, api.Fault{Code: code, Sub: sub})
	}
}

// fail sends a fault, drops the track, and loses it.
func (s *Session) fail(t int, f api.Fault) {
	body, e := note.Build(f)
	if e != api.OK {
		body, _ = note.Build(api.Fault{Code: cease})
	}
	s.send(t, kindNotification, body)
	s.act(Act{Kind: actDrop, Track: t})
	s.lose(t, false)
}

// lose lets a track be none; if that leaves no track, it tries again later.
func (s *Session) lose(t int, gracefully bool) {
	was := s.tracks[t].state
	s.tracks[t] = track{}
	if was == established {
		s.act(Act{Kind: actDown, Track: t, Gracefully: gracefully})
	}
	if s.started && s.other(t).state == none {
		s.tryLater()
	}
}

// tryNow dials, if the session does not wait for the peer to do so, and tries again later.
func (s *Session) tryNow() {
	if !s.Waits {
		s.tracks[0].state = dialled
		s.act(Act{Kind: actDial})
	}
	s.tryLater()
}

func (s *Session) tryLater() {
	s.retries, s.retryAt = true, s.last+s.Retry*api.Second
}

// sendOpen sends the session's OPEN.
func (s *Session) sendOpen(t int) {
	o := api.Open{AS: s.AS, Hold: s.Hold, ID: s.ID, Multi: true, Four: true, Refresh: true, Graceful: s.Graceful > 0, Time: s.Graceful}
	body, _ := open.Build(o)
	s.send(t, kindOpen, body)
}

func (s *Session) send(t, kind int, body []byte) {
	b, _ := mark.Build(kind, body)
	s.act(Act{Kind: actSend, Track: t, B: b})
}

// holds lets what a track holds count from now on.
func (s *Session) holds(t, hold int) {
	s.tracks[t].hold, s.tracks[t].holdAt = hold, s.last+hold
}

func (s *Session) other(t int) *track { return &s.tracks[1-t] }

// tell lets the time be now, as far as it may be, and tells whether there is a session.
func (s *Session) tell(now int) bool {
	if s == nil || !s.made {
		return false
	}
	s.last = min(max(now, s.last), api.MaxTick)
	return true
}

func (s *Session) act(a Act) { s.acts = append(s.acts, a) }

// done hands out what the call did.
func (s *Session) done() []Act {
	l := s.acts
	s.acts = nil
	return l
}

func isTrack(t int) bool { return t >= 0 && t < tracks }

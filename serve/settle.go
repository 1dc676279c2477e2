package serve

import (
	"slices"

	"pointsman/api"
	"pointsman/best"
	"pointsman/code"
	"pointsman/fsm"
	"pointsman/pack"
	"pointsman/path"
	"pointsman/run"
	"pointsman/upd"
	"pointsman/view"
)

// What a session does.
const (
	actDial = 1 + iota
	actDrop
	actSend
	actUp
	actDown
	actUpdate
	actRefresh
)

// The fault of a peer that tells more than there is room for.
const (
	codeCease = 6
	subMany   = 1
)

const kindAt = 18 // where a message has its kind

func (s *Server) made() bool { return s != nil && s.changed != nil }

// tell lets the time be now, as far as it may be.
func (s *Server) tell(now int) { s.last = min(max(now, s.last), api.MaxTick) }

// peer gives a peer by its place, if there is one.
func (s *Server) peer(place int) *client {
	if !s.made() || place < 0 || place >= len(s.peers) {
		return nil
	}
	return s.peers[place]
}

// with lets something be done with a peer, does what its session does then, and settles.
func (s *Server) with(now, place int, what func(*client) []fsm.Act) ([]Out, api.Errno) {
	if !s.made() {
		return nil, api.ErrNil
	}
	p := s.peer(place)
	if p == nil {
		return nil, api.ErrNone
	}
	s.tell(now)
	s.do(place, what(p))
	return s.settle(), api.OK
}

// do does what a session does.
func (s *Server) do(place int, acts []fsm.Act) {
	p := s.peers[place]
next:
	if len(acts) == 0 {
		return
	}
	a := acts[0]
	acts = acts[1:]
	switch a.Kind {
	case actDial, actDrop:
		s.outs = append(s.outs, Out{Peer: place, Track: a.Track, Kind: a.Kind})
	case actSend:
		s.send(place, a.Track, a.B)
	case actUp:
		s.up(p, a.Open)
	case actDown:
		s.down(p, a.Gracefully)
	case actUpdate:
		acts = append(s.update(p, a.B), acts...)
	case actRefresh:
		p.view.Again()
	}
	goto next
}

// send sends a message on a peer's track.
func (s *Server) send(place, track int, b []byte) {
	s.tally.Add(place, int(b[kindAt]), 0, 1)
	s.outs = append(s.outs, Out{Peer: place, Track: track, Kind: actSend, B: b})
}

// up keeps what the OPEN of a peer says that is established now. Its routes that are kept are told by who it says it is now.
func (s *Server) up(p *client, o api.Open) {
	p.open = o
	p.view.Reset()
	p.tellEnd, p.fresh = true, true
	if p.hasWindow && !(o.Graceful && o.Keeps) {
		s.sweep(p)
	}
	s.change(p.table.All())
}

// down takes a peer's routes away, or keeps them for a time, if it was down gracefully.
func (s *Server) down(p *client, gracefully bool) {
	p.view.Reset()
	p.tellEnd, p.fresh = false, false
	if gracefully && p.open.Graceful && p.open.Time > 0 {
		p.table.Mark()
		p.hasWindow, p.window = true, s.last+p.open.Time*api.Second
		return
	}
	s.change(p.table.Clear())
	p.hasWindow = false
}

// update takes an update's body.
func (s *Server) update(p *client, body []byte) []fsm.Act {
	u, f, ok := upd.Read(body, p.open.Four)
	if ok && upd.End(u) {
		s.sweep(p)
		return nil
	}
	if ok {
		l, e := p.table.Update(u)
		s.change(l)
		if e == api.OK {
			return nil
		}
		f = api.Fault{Code: codeCease, Sub: subMany}
	}
	return p.Fail(s.last, p.track(), f)
}

// track is the track of a peer that is established.
func (p *client) track() int {
	if p.Track(1) == established {
		return 1
	}
	return 0
}

// sweep takes a peer's stale routes away, and its window.
func (s *Server) sweep(p *client) {
	s.change(p.table.Sweep())
	p.hasWindow = false
}

// change says that routes of prefixes may have changed.
func (s *Server) change(l []api.Prefix) {
	for _, p := range l {
		s.changed[p]++
	}
}

// settle lets each established peer want anew what may have changed, and sends what is due. It hands out all that goes out by the call.
func (s *Server) settle() []Out {
	for p := range s.changed {
		l := s.candidates(p)
		for i, x := range s.peers {
			if x.State() == established && !x.fresh {
				s.want(i, p, l)
			}
		}
	}
	clear(s.changed)
	s.refresh()
	for i, p := range s.peers {
		if p.waits() && p.pacer.Go(s.last) {
			s.sendAll(i, p)
		}
	}
	l := s.outs
	s.outs = nil
	return l
}

// refresh lets those peers that are fresh want each prefix anew.
func (s *Server) refresh() {
	fresh := func(p *client) bool { return p.fresh && p.State() == established }
	if !slices.ContainsFunc(s.peers, fresh) {
		return
	}
	all := map[api.Prefix]int{}
	for _, p := range s.peers {
		for _, q := range append(p.table.All(), p.view.All()...) {
			all[q]++
		}
	}
	for p := range all {
		l := s.candidates(p)
		for i, x := range s.peers {
			if fresh(x) {
				s.want(i, p, l)
			}
		}
	}
	for _, p := range s.peers {
		p.fresh = false
	}
}

// candidates gives the candidates for a prefix.
func (s *Server) candidates(p api.Prefix) []best.Cand {
	var l []best.Cand
	for i, x := range s.peers {
		a, _, has := x.table.Get(p)
		if !has || path.Has(a.Path, s.setup.AS) {
			continue
		}
		if len(x.in) > 0 {
			changed, ok, e := run.Play(x.in, p, a)
			if !ok || e != api.OK {
				continue
			}
			a = changed
		}
		l = append(l, best.Cand{Peer: i + 1, AS: x.conf.AS, ID: x.open.ID, Addr: x.conf.Addr, Attrs: a})
	}
	return l
}

// want lets a peer want what it is told of candidates.
func (s *Server) want(place int, p api.Prefix, l []best.Cand) {
	x := s.peers[place]
	a, from := view.Choose(view.Client{Peer: place + 1, AS: x.conf.AS, Out: x.out}, p, l)
	x.view.Want(p, a, from >= 0)
}

// waits tells whether a peer is to be told something.
func (p *client) waits() bool {
	return p.State() == established && (p.view.Due() > 0 || p.tellEnd)
}

// sendAll sends a peer all that is due, and the end of its table, if it was not told it.
func (s *Server) sendAll(place int, p *client) {
	l, _ := pack.Pack(p.view.Take(p.view.Due()), p.open.Four)
	if p.tellEnd {
		l = append(l, pack.End())
		p.tellEnd = false
	}
	for _, b := range l {
		s.send(place, p.track(), b)
	}
}

// compile makes the policies' tables, by their names; no name is no policy's.
func compile(l []api.Policy) (map[string][]api.Step, api.Errno) {
	tables := map[string][]api.Step{}
	for _, p := range l {
		t, e := code.Make(p)
		if e != api.OK {
			return nil, api.ErrCode
		}
		tables[p.Name] = t
	}
	delete(tables, "")
	return tables, api.OK
}

// give gives the peers their policies' tables.
func (s *Server) give(tables map[string][]api.Step, l []api.Peer) {
	for i, p := range l {
		s.peers[i].in, s.peers[i].out = tables[p.In], tables[p.Out]
	}
}

// alike tells whether a configuration is otherwise in nothing but its policies, and its peers' in and out.
func (s *Server) alike(x api.Setup) bool {
	is := s.setup
	if x.AS != is.AS || x.Router != is.Router || x.Hold != is.Hold || x.Retry != is.Retry || x.Graceful != is.Graceful {
		return false
	}
	return slices.EqualFunc(is.Peers, x.Peers, func(a, b api.Peer) bool {
		a.In, a.Out, b.In, b.Out = "", "", "", ""
		return a == b
	})
}

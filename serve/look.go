package serve

import (
	"slices"
	"strings"

	"pointsman/api"
	"pointsman/ip"
	"pointsman/path"
	"pointsman/upd"
)

// State is the state of a peer's session.
func (s *Server) State(peer int) int {
	p := s.peer(peer)
	if p == nil {
		return 0
	}
	return p.State()
}

// In gives a route of a peer's table: its attributes, whether it is stale, and whether it is there.
func (s *Server) In(peer int, p api.Prefix) (api.Attrs, bool, bool) {
	x := s.peer(peer)
	if x == nil {
		return api.Attrs{}, false, false
	}
	return x.table.Get(p)
}

// Wanted gives what a peer wants by a prefix.
func (s *Server) Wanted(peer int, p api.Prefix) (api.Attrs, bool) {
	x := s.peer(peer)
	if x == nil {
		return api.Attrs{}, false
	}
	return x.view.Wanted(p)
}

// Said gives what was said to a peer by a prefix.
func (s *Server) Said(peer int, p api.Prefix) (api.Attrs, bool) {
	x := s.peer(peer)
	if x == nil {
		return api.Attrs{}, false
	}
	return x.view.Said(p)
}

// Table lists the prefixes of a peer's table.
func (s *Server) Table(peer int) []api.Prefix {
	x := s.peer(peer)
	if x == nil {
		return nil
	}
	return x.table.All()
}

// View lists the prefixes that a peer wants.
func (s *Server) View(peer int) []api.Prefix {
	x := s.peer(peer)
	if x == nil {
		return nil
	}
	return x.view.All()
}

// Counts is how many messages came in, and went out, of a kind.
func (s *Server) Counts(peer, kind int) (int, int) {
	if s.peer(peer) == nil {
		return 0, 0
	}
	return s.tally.Get(peer, kind)
}

// Drained tells whether no view is due.
func (s *Server) Drained() bool {
	return !s.made() || !slices.ContainsFunc(s.peers, func(p *client) bool { return p.view.Due() > 0 })
}

// Due is the earliest time at which something is due.
func (s *Server) Due() (int, bool) {
	first, found := 0, false
	if !s.made() {
		return 0, false
	}
	least := func(at int, is bool) {
		if is && (!found || at < first) {
			first, found = at, true
		}
	}
	for _, p := range s.peers {
		least(p.Due())
		least(p.window, p.hasWindow)
		least(p.pacer.Next(), p.waits())
	}
	return first, found
}

// Dump gives a line for each route of a peer's table, and for each that it wants.
func (s *Server) Dump(peer int) string {
	x := s.peer(peer)
	if x == nil {
		return ""
	}
	var b strings.Builder
	for _, p := range x.table.All() {
		a, stale, _ := x.table.Get(p)
		b.WriteString(line("in", p, a))
		if stale {
			b.WriteString(" stale")
		}
		b.WriteString("\n")
	}
	for _, p := range x.view.All() {
		a, _ := x.view.Wanted(p)
		b.WriteString(line("out", p, a) + "\n")
	}
	return b.String()
}

// line is a line of a dump.
func line(way string, p api.Prefix, a api.Attrs) string {
	s := way + " " + upd.Text(p) + " via " + ip.Text(a.Next) + " path"
	if text, _ := path.Text(a.Path); text != "" {
		s += " " + text
	}
	return s
}

// Find is the place of the peer of an address; -1, if there is none.
func (s *Server) Find(a api.Addr) int {
	if !s.made() {
		return -1
	}
	return slices.IndexFunc(s.peers, func(p *client) bool { return p.conf.Addr == a })
}

package tcp

import (
	"pointsman/api"
	"pointsman/conn"
	"pointsman/seg"
	"pointsman/seq"
)

func (s *Stack) made() bool { return s != nil && s.entries != nil }

func (s *Stack) check(now int) api.Errno {
	switch {
	case !s.made():
		return api.ErrNil
	case now < s.last || now > api.MaxTick:
		return api.ErrArg
	}
	return api.OK
}

// find finds a connection by its number.
func (s *Stack) find(id int) (key, entry, bool) {
	if s.made() {
		for k, e := range s.entries {
			if e.id == id {
				return k, e, true
			}
		}
	}
	return key{}, entry{}, false
}

// pick finds a connection for a call, whose time counts from there on.
func (s *Stack) pick(now, id int) (key, entry, api.Errno) {
	if e := s.check(now); e != api.OK {
		return key{}, entry{}, e
	}
	k, x, has := s.find(id)
	if !has {
		return key{}, entry{}, api.ErrNone
	}
	s.last = now
	return k, x, api.OK
}

// number is the first number of a connection.
func (s *Stack) number(id int) uint32 {
	return seq.Add(s.seed, step*id)
}

// accept lets a connection begin, if there is room for it.
func (s *Stack) accept(now int, k key, x seg.Segment) []Out {
	if len(s.entries) == api.MaxConns {
		return nil
	}
	c, l, e := conn.Accept(now, x, s.number(s.begun+1))
	if e != api.OK {
		return nil
	}
	s.begun++
	s.entries[k] = entry{id: s.begun, conn: c}
	return s.outs(k.addr, l)
}

// watch lets something be done to a connection, and tells what happens to it by that.
func (s *Stack) watch(k key, e entry, do func(*conn.Conn) []seg.Segment) ([]Out, []Event) {
	was, ready := e.conn.State(), e.conn.Ready()
	l := do(e.conn)
	is := e.conn.State()
	var events []Event
	if was < established && is >= established {
		events = append(events, Event{Kind: opened, ID: e.id})
	}
	if e.conn.Ready() > ready {
		events = append(events, Event{Kind: readable, ID: e.id})
	}
	if was < closeWait && (is == closeWait || is == closing || is == timeWait) {
		events = append(events, Event{Kind: finished, ID: e.id})
	}
	if is == closed {
		events = append(events, Event{Kind: gone, ID: e.id})
		delete(s.entries, k)
	}
	return s.outs(k.addr, l), events
}

// outs makes what goes out of segments.
func (s *Stack) outs(to api.Addr, l []seg.Segment) []Out {
	var outs []Out
	for _, x := range l {
		if b, e := seg.Build(s.me, to, x); e == api.OK {
			outs = append(outs, Out{To: to, B: b})
		}
	}
	return outs
}

// begins tells whether a segment is a SYN alone, without data.
func begins(x seg.Segment) bool {
	return x.Flags&(fin|syn|rst|ack) == syn && len(x.Data) == 0
}

func isPort(n int) bool { return n >= 1 && n <= mostPort }

package conn

import (
	"pointsman/api"
	"pointsman/join"
	"pointsman/seg"
	"pointsman/seq"
)

// What a segment's acknowledgement comes to.
const (
	goOn = iota
	refuse
	end
)

// answered takes a segment in syn sent.
func (c *Conn) answered(now int, s seg.Segment) ([]seg.Segment, api.Errno) {
	sure := has(s, ack)
	if sure && s.Ack != seq.Add(c.first, 1) {
		return reset(s), api.OK
	}
	if has(s, rst) && sure {
		c.close()
		return nil, api.ErrReset
	}
	if has(s, rst) || !has(s, syn) {
		return nil, api.OK
	}
	c.in, _ = join.New(seq.Add(s.Seq, 1), room)
	c.renew(s.Greatest)
	if !sure {
		c.state = synReceived
		return []seg.Segment{c.opening()}, api.OK
	}
	c.open(now, s.Window)
	if l := c.flush(now); len(l) > 0 {
		return l, api.OK
	}
	return c.acknowledge(), api.OK
}

// heard takes a segment in the other states.
func (c *Conn) heard(now int, s seg.Segment) ([]seg.Segment, api.Errno) {
	accepted, _ := seq.Accepts(c.wanted(), c.in.Window(), s.Seq, seg.Span(s))
	if has(s, rst) {
		switch {
		case !accepted:
			goto nothing
		case s.Seq == c.wanted():
			c.close()
			return nil, api.ErrReset
		}
		goto acknowledge
	}
	if !accepted || has(s, syn) {
		goto acknowledge
	}
	if !has(s, ack) {
		goto nothing
	}
	switch c.state {
	case synReceived:
		if s.Ack != seq.Add(c.first, 1) {
			return reset(s), api.OK
		}
		c.open(now, s.Window)
		fallthrough
	default:
		switch c.acknowledged(now, s) {
		case refuse:
			goto acknowledge
		case end:
			goto nothing
		}
	}
	c.receive(now, s)
	if l := c.flush(now); len(l) > 0 || seg.Span(s) == 0 {
		return l, api.OK
	}
acknowledge:
	return c.acknowledge(), api.OK
nothing:
	return nil, api.OK
}

// acknowledged takes a segment's acknowledgement.
func (c *Conn) acknowledged(now int, s seg.Segment) int {
	una, next := c.out.Una(), c.out.Next()
	switch {
	case s.Ack == una || seq.Sure(una, next, s.Ack):
		if n, _ := c.out.Ack(now, s.Ack, s.Window); n > 0 {
			c.unset()
		}
	case c.finSent && s.Ack == c.lastNumber():
		if n, _ := c.out.Ack(now, next, s.Window); n > 0 {
			c.unset()
		}
		if c.finished(now) {
			return end
		}
	case seq.Ahead(s.Ack, una):
		return goOn
	default:
		return refuse
	}
	if s.Window == 0 {
		c.out.Good()
	}
	return goOn
}

// finished lets the FIN be acknowledged, and tells whether that is all of the connection.
func (c *Conn) finished(now int) bool {
	if c.finSure {
		return false
	}
	c.finSure = true
	c.unset()
	switch c.state {
	case finWait1:
		c.state = finWait2
	case closing:
		c.linger(now)
	case lastAck:
		c.close()
		return true
	}
	return false
}

// receive takes a segment's data, and its FIN, as long as the other side may send some.
func (c *Conn) receive(now int, s seg.Segment) {
	if !c.hears() {
		return
	}
	c.in.Add(s.Seq, s.Data)
	if !has(s, fin) || seq.Add(s.Seq, len(s.Data)) != c.in.Next() {
		return
	}
	c.finTaken = true
	switch c.state {
	case established:
		c.state = closeWait
	case finWait1:
		c.state = closing
	case finWait2:
		c.linger(now)
	}
}

// repeat does what is to be done when the timer is due; an error says that it can't back off any more.
func (c *Conn) repeat(now int) ([]seg.Segment, api.Errno) {
	var s seg.Segment
	var e api.Errno
	switch {
	case c.state == timeWait:
		c.close()
		return nil, api.OK
	case c.opens():
		s, e = c.opening(), c.out.Back()
	case c.out.Flight() > 0:
		at, b, err := c.out.Again(now)
		s, e = c.segment(at, psh|ack, b), err
	case c.finSent && !c.finSure:
		s, e = c.segment(c.out.Next(), fin|ack, nil), c.out.Back()
	default:
		at, b, err := c.out.Probe(now)
		s, e = c.segment(at, psh|ack, b), err
	}
	return []seg.Segment{s}, e
}

package conn

import (
	"pointsman/api"
	"pointsman/seg"
	"pointsman/send"
	"pointsman/seq"
)

func begin(now, state, from, to int, first uint32) *Conn {
	return &Conn{state: state, from: from, to: to, first: first, last: now}
}

// renew lets the outbox begin anew, with the greatest segment that the other side tells.
func (c *Conn) renew(told int) {
	if told == 0 {
		told = usual
	}
	c.out, _ = send.New(seq.Add(c.first, 1), room, 0, min(told, greatest))
}

func (c *Conn) made() bool { return c != nil && c.out != nil }

func (c *Conn) check(now int) api.Errno {
	switch {
	case !c.made():
		return api.ErrNil
	case now < c.last || !isTime(now):
		return api.ErrArg
	}
	return api.OK
}

// tell lets the time be now, if that may be.
func (c *Conn) tell(now int) api.Errno {
	e := c.check(now)
	if e == api.OK {
		c.last = now
	}
	return e
}

// opens tells whether its SYN is not acknowledged.
func (c *Conn) opens() bool { return c.state == synSent || c.state == synReceived }

// hears tells whether the other side may send data.
func (c *Conn) hears() bool { return c.state >= established && c.state <= finWait2 }

// wanted is the number that the other side is to send next.
func (c *Conn) wanted() uint32 {
	next := c.in.Next()
	if c.finTaken {
		next = seq.Add(next, 1)
	}
	return next
}

// lastNumber is the number behind all that was sent.
func (c *Conn) lastNumber() uint32 {
	next := c.out.Next()
	if c.finSent {
		next = seq.Add(next, 1)
	}
	return next
}

// segment makes a segment of the connection; without a joint there is nothing to acknowledge.
func (c *Conn) segment(at uint32, flags int, data []byte) seg.Segment {
	s := seg.Segment{From: c.from, To: c.to, Seq: at, Flags: flags, Window: room, Data: data}
	if c.in != nil {
		s.Ack, s.Window = c.wanted(), c.in.Window()
	}
	return s
}

// opening is the SYN, with ACK if the other side's is known.
func (c *Conn) opening() seg.Segment {
	flags := syn
	if c.state == synReceived {
		flags |= ack
	}
	s := c.segment(c.first, flags, nil)
	s.Greatest = greatest
	return s
}

func (c *Conn) acknowledge() []seg.Segment {
	return []seg.Segment{c.segment(c.lastNumber(), ack, nil)}
}

// flush sends what may be sent: data, and behind all of them the FIN.
func (c *Conn) flush(now int) []seg.Segment {
	var l []seg.Segment
	if c.state < established || c.state == finWait2 || c.state == timeWait {
		return nil
	}
more:
	at, b, e := c.out.Send(now)
	if e == api.OK {
		l = append(l, c.segment(at, psh|ack, b))
		goto more
	}
	if c.shut && !c.finSent && c.out.Flight() == c.out.Queued() {
		l = append(l, c.segment(c.out.Next(), fin|ack, nil))
		c.finSent = true
	}
	return l
}

// arm sets the timer if something is open, and unsets it if nothing is.
func (c *Conn) arm(now int) {
	if c.state == timeWait {
		return
	}
	open := c.opens() || c.out.Flight() > 0 || c.finSent && !c.finSure || c.out.Window() == 0 && c.out.Queued() > 0
	switch {
	case c.state == closed || !open:
		c.set = false
	case !c.set:
		c.set, c.due = true, now+c.out.Wait()
	}
}

// open lets the connection be established: its SYN is acknowledged.
func (c *Conn) open(now, window int) {
	c.state = established
	c.unset()
	c.out.Ack(now, c.out.Una(), window)
}

// unset unsets the timer, since something new was acknowledged.
func (c *Conn) unset() {
	c.set = false
	c.out.Good()
}

// linger begins time wait.
func (c *Conn) linger(now int) {
	c.state = timeWait
	c.set, c.due = true, now+timeWaitTime
}

func (c *Conn) close() {
	c.state = closed
	c.set = false
}

// reset is what answers a segment that is of no connection.
func reset(s seg.Segment) []seg.Segment {
	if answer, ok := seg.Reset(s); ok {
		return []seg.Segment{answer}
	}
	return nil
}

func has(s seg.Segment, flag int) bool { return s.Flags&flag != 0 }

func isPort(n int) bool { return n >= 1 && n <= mostPort }

func isTime(now int) bool { return now >= 0 && now <= api.MaxTick }

// builds tells whether a segment may be: as between any two addresses.
func builds(s seg.Segment) bool {
	_, e := seg.Build(0, 0, s)
	return e == api.OK
}

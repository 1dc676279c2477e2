package host

import (
	"slices"

	"pointsman/api"
	"pointsman/serve"
	"pointsman/tcp"
)

// What happens to a connection.
const (
	opened = 1 + iota
	readable
	finished
	gone
)

// What the server says.
const (
	sayDial = 1 + iota
	sayDrop
	saySend
)

// spoken lets what the stack says go out, and what happens be dealt with in its turn.
func (h *Host) spoken(outs []tcp.Out, events []tcp.Event) {
	h.segments(outs)
	for _, e := range events {
		h.tasks = append(h.tasks, task{event: e})
	}
}

// queue lets what the server says be dealt with in its turn.
func (h *Host) queue(l []serve.Out) {
	for _, o := range l {
		h.tasks = append(h.tasks, task{out: o})
	}
}

// said deals with what the server says, and with all that comes of it.
func (h *Host) said(l []serve.Out) {
	h.queue(l)
	h.work()
}

// work works off what is to be done.
func (h *Host) work() {
next:
	if len(h.tasks) == 0 {
		return
	}
	x := h.tasks[0]
	h.tasks = h.tasks[1:]
	switch x.event.Kind {
	case opened:
		h.opened(x.event.ID)
	case readable:
		h.readable(x.event.ID)
	case finished:
		outs, _ := h.stack.Shut(h.now, x.event.ID)
		h.segments(outs)
		h.lose(x.event.ID)
	case gone:
		h.lose(x.event.ID)
	default:
		h.obey(x.out)
	}
	goto next
}

// opened lets a connection be a peer's track, or breaks it off.
func (h *Host) opened(id int) {
	peer, track := h.whose(id)
	if peer < 0 {
		from, _, _ := h.stack.Who(id)
		peer, track = h.server.Find(from), 1
		if peer < 0 || h.conns[peer][track] != 0 {
			h.abort(id)
			return
		}
		h.conns[peer][track] = id
	}
	l, _ := h.server.Up(h.now, peer, track)
	h.queue(l)
}

// readable reads all that came on a connection.
func (h *Host) readable(id int) {
	b, outs, e := h.stack.Read(h.now, id, api.MaxBytes)
	h.segments(outs)
	peer, track := h.whose(id)
	if e != api.OK || peer < 0 {
		return
	}
	l, _ := h.server.Bytes(h.now, peer, track, b)
	h.queue(l)
}

// lose lets a connection be no track's any more, and the track be gone.
func (h *Host) lose(id int) {
	peer, track := h.whose(id)
	if peer < 0 {
		return
	}
	h.conns[peer][track] = 0
	l, _ := h.server.Gone(h.now, peer, track)
	h.queue(l)
}

// obey does what the server says.
func (h *Host) obey(o serve.Out) {
	switch o.Kind {
	case sayDial:
		h.dial(o.Peer)
	case sayDrop:
		h.drop(o.Peer, o.Track)
	case saySend:
		h.send(o.Peer, o.Track, o.B)
	}
}

func (h *Host) dial(peer int) {
	id, outs, e := h.stack.Dial(h.now, h.peers[peer], port)
	if e != api.OK {
		l, _ := h.server.Gone(h.now, peer, 0)
		h.queue(l)
		return
	}
	h.conns[peer][0] = id
	h.segments(outs)
}

func (h *Host) drop(peer, track int) {
	id := h.conns[peer][track]
	if id == 0 {
		return
	}
	h.conns[peer][track] = 0
	outs, e := h.stack.Shut(h.now, id)
	h.segments(outs)
	if e != api.OK {
		h.abort(id)
	}
}

func (h *Host) send(peer, track int, b []byte) {
	id := h.conns[peer][track]
	if id == 0 {
		return
	}
	n, outs, _ := h.stack.Write(h.now, id, b)
	h.segments(outs)
	if n < len(b) {
		h.abort(id)
	}
}

func (h *Host) abort(id int) {
	outs, events, _ := h.stack.Abort(h.now, id)
	h.spoken(outs, events)
}

// whose finds the peer and the track that have a connection; the peer is -1, if none has.
func (h *Host) whose(id int) (int, int) {
	for peer, ids := range h.conns {
		if track := slices.Index(ids[:], id); track >= 0 {
			return peer, track
		}
	}
	return -1, 0
}

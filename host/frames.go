package host

import (
	"pointsman/api"
	"pointsman/arp"
	"pointsman/eth"
	"pointsman/icmp"
	"pointsman/ip"
	"pointsman/tcp"
)

// The kinds of frames.
const (
	kindArp = 0x0806
	kindIP  = 0x0800
)

// The kinds of packets.
const (
	kindIcmp = 1
	kindTCP  = 6
)

const (
	question     = 1
	answer       = 2
	codeProtocol = 2 // of a complaint that nobody hears such a packet
	life         = 64
	numbers      = 65536
	everybody    = 0xffffffff
)

func (h *Host) made() bool { return h != nil && h.server != nil }

// post posts an empty buffer for what comes in.
func (h *Host) post() {
	handle, e := h.pool.Lend(nil)
	if e == api.OK {
		h.in.Post(handle)
	}
}

// hear hears a frame.
func (h *Host) hear(b []byte) {
	f, e := eth.Read(b)
	if e != api.OK || !eth.Mine(h.me, f.To) {
		return
	}
	switch f.Kind {
	case kindArp:
		h.hearMessage(f.Data)
	case kindIP:
		h.hearPacket(f.Data)
	}
	h.work()
}

// hearMessage learns who sent a message, and answers a question.
func (h *Host) hearMessage(b []byte) {
	m, e := arp.Read(b)
	if e != api.OK || m.To != h.addr || m.From == 0 {
		return
	}
	waited, _ := h.cache.Learn(h.now, m.From, m.FromMac)
	for _, packet := range waited {
		h.frame(m.FromMac, kindIP, packet)
	}
	if m.Kind == question {
		h.message(m.FromMac, arp.Message{Kind: answer, FromMac: h.me, From: h.addr, ToMac: m.FromMac, To: m.From})
	}
}

// hearPacket puts a packet together, and hands on what is whole.
func (h *Host) hearPacket(b []byte) {
	p, e := ip.Read(b)
	if e != api.OK || p.To != h.addr || p.From == 0 || p.From == everybody {
		return
	}
	p, whole, e := h.pieces.Add(h.now, p)
	if e != api.OK || !whole {
		return
	}
	switch p.Kind {
	case kindIcmp:
		if p, e = icmp.Answer(h.addr, p); e == api.OK {
			h.packet(p)
		}
	case kindTCP:
		outs, events, _ := h.stack.Take(h.now, p.From, p.Data)
		h.spoken(outs, events)
	default:
		if p, e = icmp.Complain(h.addr, codeProtocol, p); e == api.OK {
			h.packet(p)
		}
	}
}

// segments lets what the stack says go out.
func (h *Host) segments(outs []tcp.Out) {
	for _, o := range outs {
		h.numbered++
		h.packet(ip.Packet{ID: h.numbered % numbers, Life: life, Kind: kindTCP, Whole: true, From: h.addr, To: o.To, Data: o.B})
	}
}

// packet lets a packet go out, or wait until its address is known.
func (h *Host) packet(p ip.Packet) {
	b, _ := ip.Build(p)
	if m, known := h.cache.Find(h.now, p.To); known {
		h.frame(m, kindIP, b)
		return
	}
	ask, e := h.cache.Wait(h.now, p.To, b)
	if e != api.OK {
		h.lostOut++
		return
	}
	if ask {
		h.message(eth.Everybody(), arp.Message{Kind: question, FromMac: h.me, From: h.addr, To: p.To})
	}
}

// message lets a message of addresses go out.
func (h *Host) message(to api.Mac, m arp.Message) {
	b, _ := arp.Build(m)
	h.frame(to, kindArp, b)
}

// frame lets a frame go out, if there is a buffer for it, and a slot.
func (h *Host) frame(to api.Mac, kind uint16, data []byte) {
	b, e := eth.Build(eth.Frame{To: to, From: h.me, Kind: kind, Data: data})
	if e != api.OK {
		h.lostOut++
		return
	}
	handle, e := h.pool.Lend(b)
	if e != api.OK {
		h.lostOut++
		return
	}
	if h.out.Post(handle) != api.OK {
		h.pool.Give(handle)
		h.lostOut++
	}
}

package script

import (
	"math/rand"
	"strings"
	"testing"

	"pointsman/api"
	"pointsman/arp"
	"pointsman/attr"
	"pointsman/best"
	"pointsman/code"
	"pointsman/conn"
	"pointsman/eth"
	"pointsman/frag"
	"pointsman/fsm"
	"pointsman/gram"
	"pointsman/icmp"
	"pointsman/ip"
	"pointsman/join"
	"pointsman/lex"
	"pointsman/mark"
	"pointsman/note"
	"pointsman/open"
	"pointsman/path"
	"pointsman/rib"
	"pointsman/run"
	"pointsman/seg"
	"pointsman/seq"
	"pointsman/store"
	"pointsman/sum"
	"pointsman/tcp"
	"pointsman/upd"
	"pointsman/view"
)

// someBytes are bytes that look like something, often.
func someBytes(r *rand.Rand) []byte {
	b := make([]byte, r.Intn(80))
	for i := range b {
		b[i] = byte(r.Intn(256) >> (r.Intn(3) * 3))
	}
	return b
}

func someInt(r *rand.Rand) int {
	switch r.Intn(4) {
	case 0:
		return int(r.Uint64())
	case 1:
		return r.Intn(70000) - 100
	}
	return r.Intn(12) - 2
}

func somePrefix(r *rand.Rand) api.Prefix {
	return api.Prefix{Addr: api.Addr(r.Uint32()), Len: someInt(r)}
}

func somePath(r *rand.Rand) []api.Segment {
	var l []api.Segment
	for range r.Intn(4) {
		s := api.Segment{Set: r.Intn(2) == 0, AS: make([]uint32, r.Intn(40))}
		for i := range s.AS {
			s.AS[i] = uint32(r.Intn(5))
		}
		l = append(l, s)
	}
	return l
}

func someAttrs(r *rand.Rand) api.Attrs {
	a := api.Attrs{Origin: someInt(r), Path: somePath(r), Next: api.Addr(r.Uint32()), HasMaker: r.Intn(2) == 0, Comms: make([]uint32, r.Intn(40))}
	for range r.Intn(3) {
		a.Others = append(a.Others, api.Raw{Kind: someInt(r), Data: someBytes(r)})
	}
	return a
}

func someSegment(r *rand.Rand) seg.Segment {
	return seg.Segment{From: someInt(r), To: someInt(r), Seq: r.Uint32(), Ack: r.Uint32(), Flags: someInt(r), Window: someInt(r), Urgent: someInt(r), Greatest: someInt(r), Data: someBytes(r)}
}

func someStmts(r *rand.Rand, deep int) []api.Stmt {
	var l []api.Stmt
	for range r.Intn(3) {
		s := api.Stmt{Op: someInt(r), N: someInt(r), M: someInt(r), If: api.Cond{Op: someInt(r), N: someInt(r), Prefix: somePrefix(r)}}
		if deep > 0 {
			s.Then, s.Else = someStmts(r, deep-1), someStmts(r, deep-1)
			s.If.L = []api.Cond{{Op: someInt(r)}, {Op: someInt(r)}}
		}
		l = append(l, s)
	}
	return l
}

// Promise P1: no call panics, whatever bytes and texts it is given.
func TestBytes(t *testing.T) {
	r := rand.New(rand.NewSource(1))
	pieces, _ := frag.New(10)
	split := mark.New()
	stack := tcp.New(5, 6)
	stack.Listen(1)
	for i := range 20000 {
		b := someBytes(r)
		sum.Of(b)
		eth.Read(b)
		eth.Parse(string(b))
		arp.Read(b)
		ip.Read(b)
		ip.Parse(string(b))
		icmp.Read(b)
		icmp.Answer(5, ip.Packet{Kind: 1, To: 5, Data: b})
		icmp.Complain(5, someInt(r), ip.Packet{ID: someInt(r), To: 5, From: 1, Data: b})
		ip.Cut(ip.Packet{At: someInt(r), Data: b}, someInt(r))
		pieces.Add(i, ip.Packet{ID: r.Intn(3), At: r.Intn(9), More: r.Intn(2) == 0, Data: b})
		seg.Read(1, 2, b)
		open.Read(b)
		note.Read(b)
		note.Refreshes(b)
		path.Read(b, r.Intn(2) == 0)
		path.Parse(string(b))
		attr.Read(b, r.Intn(2) == 0, r.Intn(2) == 0)
		upd.Read(b, r.Intn(2) == 0)
		upd.Parse(string(b))
		if _, _, ok := split.Feed(b); !ok {
			split = mark.New()
		}
		lex.Split(string(b))
		gram.Parse(string(b))
		Check(string(b))
		x := someSegment(r)
		x.From, x.To = r.Intn(4), 1
		if b, e := seg.Build(9, 5, x); e == api.OK {
			stack.Take(i, 9, b)
		}
		stack.Tick(i)
	}
}

// Promise P1: no call panics, whatever numbers and structs it is given.
func TestStructs(t *testing.T) {
	r := rand.New(rand.NewSource(2))
	kept := store.New()
	table, _ := rib.New(kept, 9)
	seen, _ := view.New(kept)
	for range 5000 {
		a, p := someAttrs(r), somePrefix(r)
		attr.Put(a, r.Intn(2) == 0)
		attr.Same(a, someAttrs(r))
		path.Merge(somePath(r), somePath(r))
		path.Prepend(somePath(r), r.Uint32(), someInt(r))
		path.Text(somePath(r))
		upd.Text(p)
		upd.Within(p, somePrefix(r))
		upd.Build(api.Update{Withdrawn: []api.Prefix{p}, Told: []api.Prefix{p}, Attrs: a}, true)
		table.Update(api.Update{Withdrawn: []api.Prefix{p}, Told: []api.Prefix{p}, Attrs: a})
		seen.Want(p, a, r.Intn(2) == 0)
		best.Pick([]best.Cand{{Peer: someInt(r), Attrs: a}, {Peer: someInt(r), Attrs: someAttrs(r)}})
		l := []api.Step{{Op: someInt(r), N: someInt(r), M: someInt(r), Prefix: p, X: someInt(r), Y: someInt(r)}, {Op: 22}}
		code.Tests(l)
		run.Play(l, p, a)
		view.Choose(view.Client{Peer: someInt(r), Out: l}, p, []best.Cand{{Peer: someInt(r), Attrs: a}})
		body := someStmts(r, 3)
		code.Make(api.Policy{L: body})
		gram.Print(api.Setup{AS: 1, Router: 2, Hold: 90, Retry: someInt(r), Policies: []api.Policy{{Name: "p", L: body}}})
		seq.Accepts(r.Uint32(), someInt(r), r.Uint32(), someInt(r))
		seq.Trim(r.Uint32(), someInt(r), r.Uint32(), someInt(r))
		seg.Flags(someSegment(r))
		seg.Reset(someSegment(r))
		if j, e := join.New(r.Uint32(), r.Intn(50)); e == api.OK {
			j.Add(r.Uint32(), someBytes(r))
			j.Read(someInt(r))
		}
		s, _ := fsm.New(fsm.Config{AS: 1, ID: 2, Hold: someInt(r), Peer: 3, Retry: 5})
		s.Start(someInt(r))
		s.Up(someInt(r), someInt(r))
		s.Take(someInt(r), r.Intn(2), mark.Message{Kind: someInt(r), Body: someBytes(r)})
		s.Fail(someInt(r), someInt(r), api.Fault{Code: someInt(r), Sub: someInt(r)})
		c, _, _ := conn.Dial(r.Intn(5), 1, 2, r.Uint32())
		for range 5 {
			c.Take(someInt(r), someSegment(r))
			c.Write(someInt(r), someBytes(r))
			c.Read(someInt(r), someInt(r))
			c.Shut(someInt(r))
		}
	}
}

// Promise P1: scripts of any commands end, also where frames are made up.
func TestScripts(t *testing.T) {
	r := rand.New(rand.NewSource(3))
	const hexes = "0123456789abcdef"
	for range 60 {
		var l []string
		for range 100 {
			n := string(hexes[r.Intn(4)])
			b := []byte("ffffffffffff020000000005080")
			for len(b) < 2*60 {
				b = append(b, hexes[r.Intn(16)>>(r.Intn(2)*3)])
			}
			if r.Intn(2) == 0 {
				b = []byte("0200000000010200000000050800450000" + string(b[34:]))
			}
			l = append(l, []string{"frame " + string(b), "poll", "tick " + string(hexes[1+r.Intn(9)]), "take", "stop " + n, "again " + n, "load " + waits, "dump " + n, "state " + n, "counts " + n + " " + n, "lost", "now"}[r.Intn(12)])
		}
		if s, line, e := Run(dials, strings.Join(l, "\n")); e != api.OK || line != 0 || len(Lines(s)) < 100 {
			t.Fatalf("%d answers, %d %v", len(Lines(s)), line, e)
		}
	}
}

package host

import (
	"fmt"
	"math/rand"
	"slices"
	"strings"
	"testing"

	"pointsman/api"
	"pointsman/best"
	"pointsman/code"
	"pointsman/gram"
	"pointsman/path"
	"pointsman/run"
	"pointsman/upd"
	"pointsman/view"
)

const (
	policies = "policy p { if path has 9 { reject; } local 50; accept; } policy q { if path has 8 { prepend 77 2; med 3; } accept; } "
	threeOf  = "peer a 10.0.0.2 as 65001 waits%s; peer b 10.0.0.3 as 65002 waits%s; peer c 10.0.0.4 as 65003 waits%s;"
)

// config is one of three peers, each with what is said of its policies.
func config(a, b, c string) string { return head + policies + fmt.Sprintf(threeOf, a, b, c) }

// told is what a peer is to hear, computed from scratch of what each peer tells.
func told(s api.Setup, tells []map[api.Prefix]api.Attrs, peer int) string {
	tables := map[string][]api.Step{}
	for _, p := range s.Policies {
		tables[p.Name], _ = code.Make(p)
	}
	var out []string
	for n := range 12 {
		p := api.Prefix{Addr: api.Addr(11+n) << 24, Len: 8}
		var l []best.Cand
		for i, x := range s.Peers {
			a, ok := tells[i][p]
			if ok && x.In != "" {
				a, ok, _ = run.Play(tables[x.In], p, a)
			}
			if ok && !path.Has(a.Path, s.AS) {
				l = append(l, best.Cand{Peer: i + 1, AS: x.AS, ID: addr(i), Addr: x.Addr, Attrs: a})
			}
		}
		a, from := view.Choose(view.Client{Peer: peer + 1, AS: s.Peers[peer].AS, Out: tables[s.Peers[peer].Out]}, p, l)
		if from >= 0 {
			w, _ := path.Text(a.Path)
			out = append(out, fmt.Sprintf("%s %d [%s]", upd.Text(p), a.Next, w))
		}
	}
	slices.Sort(out)
	return strings.Join(out, "; ")
}

// Promises W1 to W6 of the whole: three peers, policies that change, and a peer that is stopped.
func TestWhole(t *testing.T) {
	setups := []string{config("", "", ""), config(" in p", " out q", ""), config(" out p", " in q", " in p out q")}
	for seed := range int64(3) {
		r := rand.New(rand.NewSource(seed))
		h := make1(t, setups[0])
		s, _, _ := gram.Parse(setups[0])
		var peers []*speaker
		var tells []map[api.Prefix]api.Attrs
		for i := range 3 {
			peers, tells = append(peers, speak(i, nil)), append(tells, map[api.Prefix]api.Attrs{})
			peers[i].dial(h, 0)
		}
		play(t, h, 20, peers...)
		calm := func(what string) {
			play(t, h, 120, peers...)
			must(t, what+": drained", h.Server().Drained(), true)
			for i, x := range peers {
				if h.Server().State(i) == 5 {
					must(t, fmt.Sprint(what, ": what ", i, " has heard, seed ", seed), x.text(), told(s, tells, i))
				}
			}
		}
		for range 4 {
			for range 30 {
				i, n := r.Intn(3), r.Intn(12)
				p := fmt.Sprintf("%d.0.0.0/8", 11+n)
				as := append([]uint32{uint32(65001 + i)}, []uint32{9, 8, 65000, 65001, 65002, 5}[r.Intn(6):][:1]...)
				peers[i].tell(h, h.Now(), api.Addr(70+i), as, p)
				q, _ := upd.Parse(p)
				tells[i][q] = api.Attrs{Path: []api.Segment{{AS: as}}, Next: api.Addr(70 + i)}
				play(t, h, 1+r.Intn(4), peers...)
			}
			calm("told")
			next := setups[r.Intn(3)]
			s, _, _ = gram.Parse(next)
			must(t, "Reload", h.Reload(s), api.OK)
			calm("reloaded")
		}
		for _, x := range peers {
			must(t, "an OPEN, a KEEPALIVE, then updates and KEEPALIVEs, and no complaint", []any{x.kinds[:2], slices.ContainsFunc(x.kinds[2:], func(k int) bool { return k != 2 && k != 4 }), x.faults}, []any{[]int{1, 4}, false, []string{}})
		}
		h.Stop(1)
		clear(tells[1])
		calm("stopped")
		must(t, "it is stopped", h.Server().State(1), 0)
		if t.Failed() {
			return
		}
	}
}

package host

import (
	"fmt"
	"math/rand"
	"testing"

	"pointsman/api"
	"pointsman/gram"
)

// Promise W4: appliances that are each other's peers, and dial each other at once, are established in the end, whatever was lost.
func TestMesh(t *testing.T) {
	for seed := range int64(6) {
		r := rand.New(rand.NewSource(seed))
		var hosts []*Host
		for i := range 3 {
			text := fmt.Sprintf("system %d; router 10.0.0.%d; hold 9; retry %d; graceful 30;", 65000+i, 1+i, 3+r.Intn(5))
			for j := range 3 {
				if j != i {
					waits := []string{"", " waits"}[r.Intn(2)]
					if i < j {
						waits = ""
					}
					text += fmt.Sprintf("peer p%d 10.0.0.%d as %d%s;", j, 1+j, 65000+j, waits)
				}
			}
			s, _, e := gram.Parse(text)
			must(t, "Parse", e, api.OK)
			h, e := New(api.Mac{2, 0, 0, 0, 0, byte(1 + i)}, uint32(i*99999), s)
			must(t, "New", e, api.OK)
			h.Start()
			hosts = append(hosts, h)
		}
		run := func(ticks, lossPercent int) {
			for range ticks {
				for i, h := range hosts {
					h.Tick()
					for b, e := h.Take(); e == api.OK; b, e = h.Take() {
						for j, x := range hosts {
							if j != i && r.Intn(100) >= lossPercent {
								x.Frame(b)
							}
						}
					}
					bounded(t, h)
				}
			}
		}
		run(3000, 30)
		run(50, 100)
		run(4000, 0)
		for i, h := range hosts {
			must(t, fmt.Sprint("seed ", seed, ": established ", i), []any{h.Server().State(0), h.Server().State(1), len(h.Conns()), h.Server().Drained()}, []any{5, 5, 2, true})
		}
	}
}

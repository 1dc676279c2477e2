package own

import (
	"fmt"
	"testing"

	"pointsman/api"
)

func TestAttrs(t *testing.T) {
	make1 := func() api.Attrs {
		return api.Attrs{Path: []api.Segment{{AS: []uint32{1}}}, Comms: []uint32{2}, Others: []api.Raw{{Kind: 9, Data: []byte{3}}}}
	}
	a := make1()
	b := Attrs(a)
	if fmt.Sprint(a) != fmt.Sprint(b) {
		t.Errorf("%v, want %v", b, a)
	}
	b.Path[0].AS[0], b.Comms[0], b.Others[0].Data[0], b.Others[0].Kind = 7, 7, 7, 7
	b.Path[0].Set = true
	if fmt.Sprint(a) != fmt.Sprint(make1()) {
		t.Errorf("shared: %v", a)
	}
}

package alike

import (
	"testing"

	"pointsman/api"
	"pointsman/attr"
)

func TestKey(t *testing.T) {
	if k, e := Key(api.Attrs{}); k != "" || e != api.ErrArg {
		t.Errorf("of what may not be: %q %v", k, e)
	}
	l := []api.Attrs{{Next: 1}, {Next: 1, Med: 5}, {Next: 2}, {Next: 1, HasLocal: true}, {Next: 1, HasLocal: true, Local: 1}, {Next: 1, Local: 1}, {Next: 1, HasMed: true}}
	for _, a := range l {
		for _, b := range l {
			x, _ := Key(a)
			y, _ := Key(b)
			if (x == y) != attr.Same(a, b) {
				t.Errorf("%v and %v", a, b)
			}
		}
	}
}

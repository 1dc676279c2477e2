// Package own makes copies that share nothing with what they are made of.
package own

import (
	"slices"

	"pointsman/api"
)

// Path gives the same path, of its own.
func Path(p []api.Segment) []api.Segment {
	q := slices.Clone(p)
	for i, s := range q {
		q[i].AS = slices.Clone(s.AS)
	}
	return q
}

// Attrs gives the same attributes, of their own.
func Attrs(a api.Attrs) api.Attrs {
	a.Path = Path(a.Path)
	a.Comms = slices.Clone(a.Comms)
	a.Others = slices.Clone(a.Others)
	for i, x := range a.Others {
		a.Others[i].Data = slices.Clone(x.Data)
	}
	return a
}

package attr

import (
	"slices"

	"pointsman/api"
	"pointsman/octet"
	"pointsman/path"
)

// What is found of attributes.
const (
	fine = iota
	dropped
	withdrawn
	broken
)

// The fault of an attribute that nobody knows, and that may not be passed over.
const (
	codeUpdate = 3
	subUnknown = 2
)

// reader has what was read: path4 and maker4 are those that a speaker of two bytes sent beside the others.
type reader struct {
	attrs    api.Attrs
	four     bool
	there    [256]bool
	found    int
	hasPath4 bool
	path4    []api.Segment
	maker4   api.Attrs
}

// Read reads attributes: what they are, what was found of them, and the fault.
func Read(b []byte, four, told bool) (api.Attrs, int, api.Fault) {
	r := reader{four: four}
next:
	if len(b) > 0 {
		head, length, ok := measure(b)
		if !ok {
			r.find(withdrawn)
			goto end
		}
		flags, kind, data := b[0], int(b[1]), b[head:head+length]
		if !known(kind) && !r.there[kind] && flags&flagOptional == 0 {
			return api.Attrs{}, broken, api.Fault{Code: codeUpdate, Sub: subUnknown, Data: slices.Clone(b[:head+length])}
		}
		r.take(flags, kind, data)
		b = b[head+length:]
		goto next
	}
end:
	if told && !(r.there[kindOrigin] && r.there[kindPath] && r.there[kindNext]) {
		r.find(withdrawn)
	}
	if r.found > dropped {
		return api.Attrs{}, r.found, api.Fault{}
	}
	if !four {
		r.join()
	}
	return r.attrs, r.found, api.Fault{}
}

// measure tells how long an attribute's head and its data are, if it fits.
func measure(b []byte) (int, int, bool) {
	head := 3
	if b[0]&flagLong != 0 {
		head = 4
	}
	if len(b) < head {
		return 0, 0, false
	}
	length := int(b[2])
	if head == 4 {
		length = octet.Word(b, 2)
	}
	return head, length, length <= len(b)-head
}

// find lets the worst of all that is found count.
func (r *reader) find(what int) { r.found = max(r.found, what) }

// take takes an attribute.
func (r *reader) take(flags byte, kind int, data []byte) {
	again := r.there[kind]
	r.there[kind] = true
	switch {
	case again:
		r.find(dropped)
	case !known(kind):
		if flags&flagOn != 0 {
			r.other(kind, data)
		}
	case flags&(flagOptional|flagOn) != required(kind):
		r.find(withdrawn)
	case r.known(kind, data):
	case kind == kindAtomic || kind == kindMaker || kind == kindPath4 || kind == kindMaker4:
		r.find(dropped)
	default:
		r.find(withdrawn)
	}
}

// required is which flags a known kind must have.
func required(kind int) byte {
	switch kind {
	case kindMed:
		return flagOptional
	case kindMaker, kindComms, kindPath4, kindMaker4:
		return flagOptional | flagOn
	}
	return flagOn
}

// other keeps an attribute that is handed on, by its kind.
func (r *reader) other(kind int, data []byte) {
	if len(r.attrs.Others) == mostOthers || len(data) > mostShort {
		r.find(dropped)
		return
	}
	i := 0
	for i < len(r.attrs.Others) && r.attrs.Others[i].Kind < kind {
		i++
	}
	r.attrs.Others = slices.Insert(r.attrs.Others, i, api.Raw{Kind: kind, Data: slices.Clone(data)})
}

// known takes an attribute of a known kind, and tells whether its length and bytes may be. What is said in four bytes beside the rest counts for nothing where all is in four.
func (r *reader) known(kind int, data []byte) bool {
	wide, ok := r.four, false
	switch kind {
	case kindOrigin:
		ok = len(data) == 1 && data[0] <= mostOrigin
		if ok {
			r.attrs.Origin = int(data[0])
		}
	case kindNext:
		ok = len(data) == 4 && isNext(api.Addr(octet.Long(data, 0)))
		if ok {
			r.attrs.Next = api.Addr(octet.Long(data, 0))
		}
	case kindMed:
		ok = len(data) == 4
		if ok {
			r.attrs.HasMed, r.attrs.Med = true, octet.Long(data, 0)
		}
	case kindLocal:
		ok = true
	case kindAtomic:
		ok = len(data) == 0
		r.attrs.Atomic = ok
	case kindComms:
		ok = r.communities(data)
	case kindPath4:
		if r.four {
			return true
		}
		wide = true
		fallthrough
	case kindPath:
		p, e := path.Read(data, wide)
		ok = e == api.OK
		r.way(kind, p, ok)
	case kindMaker4:
		if r.four {
			return true
		}
		wide = true
		fallthrough
	case kindMaker:
		ok = r.maker(kind, data, wide)
	}
	return ok
}

// communities takes the communities.
func (r *reader) communities(data []byte) bool {
	if len(data) == 0 || len(data)%4 != 0 || len(data)/4 > api.MaxComms {
		return false
	}
	for i := 0; i < len(data); i += 4 {
		r.attrs.Comms = append(r.attrs.Comms, octet.Long(data, i))
	}
	return true
}

// way takes a path.
func (r *reader) way(kind int, p []api.Segment, ok bool) {
	switch {
	case kind == kindPath:
		r.attrs.Path = p
	case ok:
		r.hasPath4, r.path4 = true, p
	}
}

// maker takes who put it together.
func (r *reader) maker(kind int, data []byte, wide bool) bool {
	size, as := 2, uint32(0)
	if wide {
		size = 4
	}
	if len(data) != size+4 {
		return false
	}
	if wide {
		as = octet.Long(data, 0)
	} else {
		as = uint32(octet.Word(data, 0))
	}
	if as == 0 {
		return false
	}
	to := &r.attrs
	if kind == kindMaker4 {
		to = &r.maker4
	}
	to.HasMaker, to.MakerAS, to.Maker = true, as, api.Addr(octet.Long(data, size))
	return true
}

// join lets what is said in four bytes count, but where somebody on the way put routes together without it.
func (r *reader) join() {
	if r.attrs.HasMaker && r.attrs.MakerAS != standsIn {
		return
	}
	if r.attrs.HasMaker && r.maker4.HasMaker {
		r.attrs.MakerAS, r.attrs.Maker = r.maker4.MakerAS, r.maker4.Maker
	}
	if !r.hasPath4 {
		return
	}
	if merged := path.Merge(r.attrs.Path, r.path4); path.Check(merged) == api.OK {
		r.attrs.Path = merged
	}
}

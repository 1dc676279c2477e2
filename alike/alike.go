// Package alike gives keys by which attributes that are the same are found.
package alike

import (
	"pointsman/api"
	"pointsman/attr"
	"pointsman/octet"
)

// Key is the same of two attributes just if these are: it is their bytes, and the local preference, which is never put.
func Key(a api.Attrs) (string, api.Errno) {
	b, e := attr.Put(a, true)
	if e != api.OK {
		return "", e
	}
	head := []byte{0}
	if a.HasLocal {
		head = octet.AddLong([]byte{1}, a.Local)
	}
	return string(append(head, b...)), api.OK
}

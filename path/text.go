package path

import (
	"math"
	"strconv"
	"strings"

	"pointsman/api"
	"pointsman/octet"
)

// mostDigits is one more than a system has, so that too many are seen.
const mostDigits = 11

// Text is the path's text.
func Text(p []api.Segment) (string, api.Errno) {
	if systems(p) < 0 {
		return "", api.ErrArg
	}
	var b []byte
	for _, s := range p {
		if len(b) > 0 {
			b = append(b, ' ')
		}
		if s.Set {
			b = append(b, '{')
		}
		for i, as := range s.AS {
			if i > 0 {
				b = append(b, ' ')
			}
			b = strconv.AppendUint(b, uint64(as), 10)
		}
		if s.Set {
			b = append(b, '}')
		}
	}
	return string(b), api.OK
}

// Parse reads a path's text: what stands in order side by side is one segment.
func Parse(s string) ([]api.Segment, api.Errno) {
	if s == "" {
		return nil, api.OK
	}
	var p []api.Segment
	total, inside := 0, false
	for _, word := range strings.Split(s, " ") {
		word, opens := strings.CutPrefix(word, "{")
		word, shuts := strings.CutSuffix(word, "}")
		as, digits := octet.Digits(word, mostDigits)
		total++
		if digits == 0 || digits < len(word) || as == 0 || as > math.MaxUint32 || total > api.MaxPath || opens && inside {
			return nil, api.ErrNone
		}
		if opens || !inside && (len(p) == 0 || p[len(p)-1].Set) {
			p = append(p, api.Segment{Set: opens})
		}
		last := &p[len(p)-1]
		last.AS = append(last.AS, uint32(as))
		inside = inside || opens
		if shuts && !inside {
			return nil, api.ErrNone
		}
		inside = inside && !shuts
	}
	if inside {
		return nil, api.ErrNone
	}
	return p, api.OK
}

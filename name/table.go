package name

import (
	"strings"

	"rhyne/api"
)

// Table is where names stand in bytes: each rest of a name that was put, by the first place of it that two bytes can tell.
type Table struct {
	places map[string]int
}

// Put answers b and a name behind it, as short as can be by what stands ahead.
func (t *Table) Put(b []byte, s string) ([]byte, api.Errno) {
	labels, e := Labels(s)
	if e != api.OK {
		return nil, e
	}
	if t == nil {
		return nil, api.ErrArg
	}
	rest := strings.Clone(s)
	for _, label := range labels {
		if place, ok := t.places[rest]; ok {
			return append(b, placeBits|byte(place>>8), byte(place)), api.OK
		}
		t.know(rest, len(b))
		b = appendPart(b, label)
		rest = rest[len(label)+len(dot):]
	}
	return append(b, 0), api.OK
}

// know keeps where the rest of a name begins, if two bytes can tell it.
func (t *Table) know(rest string, place int) {
	if place > maxPlace {
		return
	}
	if t.places == nil {
		t.places = map[string]int{}
	}
	t.places[rest] = place
}

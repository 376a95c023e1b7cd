package msg

import (
	"cmp"
	"slices"
	"strings"

	"rhyne/api"
	"rhyne/name"
)

// How many bytes data has that are of one size, and what a number in data has.
const (
	sizeOfA      = 4
	sizeOfAAAA   = 16
	soaNumbers   = 20
	serialSize   = 4
	mxPreference = 2
)

// layout is how data has names: so many bytes, so many names, so many bytes.
type layout struct {
	ahead, names, behind int
}

// layoutOf is that of a type's data; without names of all types but four.
func layoutOf(kind int) layout {
	switch kind {
	case api.NS, api.CNAME:
		return layout{names: 1}
	case api.MX:
		return layout{ahead: mxPreference, names: 1}
	case api.SOA:
		return layout{names: 2, behind: soaNumbers}
	}
	return layout{}
}

// written is the data in b from at to end with each name of it whole, in small letters; false: it isn't laid out so.
func (l layout) written(b []byte, at, end int) (string, bool) {
	if l.names == 0 {
		return string(b[at:end]), true
	}
	if end-at < l.ahead {
		return "", false
	}
	data := slices.Clone(b[at : at+l.ahead])
	at += l.ahead
	for range l.names {
		s, behind, e := name.Get(b, at)
		if e != api.OK {
			return "", false
		}
		whole, e := name.Wire(s)
		if e != api.OK {
			return "", false
		}
		data = append(data, whole...)
		at = behind
	}
	if end-at != l.behind {
		return "", false
	}
	return string(append(data, b[at:end]...)), true
}

// Check tells whether r is a record whose data is right.
func Check(r api.Record) api.Errno {
	if !isName(r.Name) || !isType(r.Type) || !within(r.TTL, maxTTL) || len(r.Data) > maxData || !dataFits(r.Type, r.Data) {
		return api.ErrForm
	}
	return api.OK
}

// dataFits tells whether a type's data is right.
func dataFits(kind int, data string) bool {
	switch kind {
	case api.A:
		return len(data) == sizeOfA
	case api.AAAA:
		return len(data) == sizeOfAAAA
	case api.TXT:
		return isTexts(data)
	case api.NS, api.CNAME, api.MX, api.SOA:
		// Names that stand whole in small letters stay as they are, and no others do.
		whole, ok := layoutOf(kind).written([]byte(data), 0, len(data))
		return ok && whole == data
	}
	return true
}

// isTexts tells whether data is texts, each behind its count; one at least.
func isTexts(data string) bool {
	at := 0
	for at < len(data) {
		at += 1 + int(data[at])
	}
	return at > 0 && at == len(data)
}

// isName tells whether s is a name.
func isName(s string) bool {
	_, e := name.Labels(s)
	return e == api.OK
}

// isType tells whether n is a type.
func isType(n int) bool {
	return n != 0 && within(n, maxType)
}

// Target answers the name, or the first name, that a record's data has.
func Target(r api.Record) (string, api.Errno) {
	if e := Check(r); e != api.OK {
		return "", e
	}
	l := layoutOf(r.Type)
	if l.names == 0 {
		return "", api.ErrMiss
	}
	s, _, e := name.Get([]byte(r.Data), l.ahead)
	return s, e
}

// Serial answers that of an SOA.
func Serial(r api.Record) (int, api.Errno) {
	if e := Check(r); e != api.OK {
		return 0, e
	}
	if r.Type != api.SOA {
		return 0, api.ErrMiss
	}
	numbers := r.Data[len(r.Data)-soaNumbers:]
	serial := 0
	for i := range serialSize {
		serial = serial<<8 | int(numbers[i])
	}
	return serial, api.OK
}

// Sort answers records in their order, each once.
func Sort(l []api.Record) []api.Record {
	sorted := slices.Clone(l)
	slices.SortFunc(sorted, compare)
	return slices.Compact(sorted)
}

// compare is below 0, if a comes ahead of b, and 0, if they are one.
func compare(a, b api.Record) int {
	return cmp.Or(
		compareNames(a.Name, b.Name),
		cmp.Compare(a.Type, b.Type),
		strings.Compare(a.Data, b.Data),
		cmp.Compare(a.TTL, b.TTL),
	)
}

// compareNames is compare of names. What is no name comes behind all names, so that all texts have one order, and equal ones stand together.
func compareNames(a, b string) int {
	switch {
	case a == b:
		return 0
	case name.Less(a, b):
		return -1
	case name.Less(b, a):
		return 1
	case isName(a):
		return -1
	case isName(b):
		return 1
	}
	return strings.Compare(a, b)
}

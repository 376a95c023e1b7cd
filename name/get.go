package name

import "rhyne/api"

// placeBits are set in the first of two bytes that are a place; what is left of both is 14 bits.
const (
	placeBits = 0xc0
	maxPlace  = 1<<14 - 1
)

// Get answers the name at a place of b, and where what stands behind it begins.
func Get(b []byte, at int) (string, int, api.Errno) {
	if at < 0 || at > len(b) {
		return "", 0, api.ErrArg
	}
	r := &reader{b: b, at: at, below: at}
	for !r.through && r.e == api.OK {
		r.step()
	}
	if r.e != api.OK {
		return "", 0, r.e
	}
	return r.name(), r.behind, api.OK
}

// reader goes through a name's bytes. The first error stays.
type reader struct {
	b       []byte
	at      int    // of the byte that is read next
	below   int    // the next place must be less
	behind  int    // where the name's bytes end, once it is known; else 0
	text    []byte // the parts that were read, each with its dot
	through bool
	e       api.Errno
}

// step reads a part, a place, or the end.
func (r *reader) step() {
	began := r.at
	first := r.next()
	switch {
	case r.e != api.OK:
	case first == 0:
		r.through = true
		r.endAt(r.at)
	case first <= api.MaxLabel:
		r.part(int(first))
		r.below = began
	case first >= placeBits:
		r.place(first)
	default:
		r.e = api.ErrForm
	}
}

// next is the next byte.
func (r *reader) next() byte {
	if r.e == api.OK && r.at >= len(r.b) {
		r.e = api.ErrTail
	}
	if r.e != api.OK {
		return 0
	}
	r.at++
	return r.b[r.at-1]
}

// part reads a part of so many bytes.
func (r *reader) part(count int) {
	for range count {
		c := small(r.next())
		if r.e == api.OK && !allowed(c) {
			r.e = api.ErrName
		}
		r.text = append(r.text, c)
	}
	r.text = append(r.text, dot...)
	// The text has a dot for each count, but nothing for the 0.
	if r.e == api.OK && len(r.text)+1 > api.MaxName {
		r.e = api.ErrName
	}
}

// place goes on at the place that two bytes are, of which first is one.
func (r *reader) place(first byte) {
	place := (int(first)<<8 | int(r.next())) & maxPlace
	if r.e != api.OK {
		return
	}
	if place >= r.below {
		r.e = api.ErrLoop
		return
	}
	r.endAt(r.at)
	r.at, r.below = place, place
}

// endAt keeps where the name's bytes end: only the first place or 0 tells.
func (r *reader) endAt(at int) {
	if r.behind == 0 {
		r.behind = at
	}
}

// name is the name of the parts that were read.
func (r *reader) name() string {
	if len(r.text) == 0 {
		return dot
	}
	return string(r.text)
}

// small is a letter's small one, or the byte itself.
func small(c byte) byte {
	if 'A' <= c && c <= 'Z' {
		return c - 'A' + 'a'
	}
	return c
}

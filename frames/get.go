package frames

import (
	"rhyne/api"
	"rhyne/vlq"
)

// Get answers the frame at the front of b, and how many bytes it has.
func Get(b []byte) (Frame, int, api.Errno) {
	if len(b) == 0 {
		return Frame{}, 0, api.ErrTail
	}
	first := int(b[0])
	parts, ok := partsOf(first)
	if !ok {
		return Frame{}, 0, api.ErrForm
	}
	f := Frame{Kind: first}
	if first&^allBits == Stream {
		f.Kind, f.Fin = Stream, first&finBit != 0
	}
	r := &reader{b: b, at: 1}
	for _, p := range parts {
		r.part(&f, p)
		r.need(f.fits(p))
	}
	r.need(f.endsInTime())
	if r.e != api.OK {
		return Frame{}, 0, r.e
	}
	return f, r.at, api.OK
}

// All answers the frames of b, one behind the other.
func All(b []byte) ([]Frame, api.Errno) {
	if len(b) == 0 {
		return nil, api.ErrForm
	}
	var l []Frame
	for len(b) > 0 {
		f, size, e := Get(b)
		if e != api.OK {
			return nil, e
		}
		l = append(l, f)
		b = b[size:]
	}
	return l, api.OK
}

// reader goes through bytes. The first error stays, and nothing is read behind it.
type reader struct {
	b  []byte
	at int
	e  api.Errno
}

// part reads a part of f.
func (r *reader) part(f *Frame, p part) {
	switch p {
	case streamPart:
		f.Stream = r.number()
	case offPart:
		f.Off = r.number()
	case nPart:
		f.N = r.number()
	case codePart:
		f.Code = r.number()
	case textPart:
		f.Data = r.text(r.atMost(api.MaxBytes))
	case restPart:
		f.Data = r.text(len(r.b) - r.at)
	case idPart:
		f.Data = r.id()
	case pathPart:
		f.Data = r.text(pathSize)
	case proofPart:
		f.Extra = r.text(proofSize)
	case acksPart:
		r.acks(f)
	case noughtsPart:
		f.N = r.noughts()
	}
}

// need keeps that something isn't in form, unless there is an error already.
func (r *reader) need(ok bool) {
	if r.e == api.OK && !ok {
		r.e = api.ErrForm
	}
}

// text is the next n bytes.
func (r *reader) text(n int) string {
	if r.e == api.OK && n > len(r.b)-r.at {
		r.e = api.ErrTail
	}
	if r.e != api.OK {
		return ""
	}
	r.at += n
	return string(r.b[r.at-n : r.at])
}

// number is the next number, of any size.
func (r *reader) number() int {
	if r.e != api.OK {
		return 0
	}
	n, size, e := vlq.Get(r.b[r.at:])
	if e != api.OK {
		r.e = e
		return 0
	}
	r.at += size
	return int(n)
}

// atMost is the next number, which mustn't be above most.
func (r *reader) atMost(most int) int {
	n := r.number()
	r.need(n <= most)
	if r.e != api.OK {
		return 0
	}
	return n
}

// id is a name behind a byte that is its count.
func (r *reader) id() string {
	count := r.text(1)
	if r.e != api.OK {
		return ""
	}
	n := int(count[0])
	r.need(within(n, 1, api.MaxId))
	return r.text(n)
}

// acks reads what an Ack has. A number that leads below 0 is told at once, so that no byte behind it counts.
func (r *reader) acks(f *Frame) {
	to := r.number()
	f.N = r.number()
	others := r.atMost(api.MaxRanges - 1)
	f.Acks = []Span{r.spanTo(to)}
	for range others {
		from := f.Acks[len(f.Acks)-1].From
		gap := r.atMost(from - spansApart)
		f.Acks = append(f.Acks, r.spanTo(from-spansApart-gap))
	}
}

// spanTo is the span up to a number: the next number tells how far back it begins.
func (r *reader) spanTo(to int) Span {
	return Span{From: to - r.atMost(to), To: to}
}

// noughts is how many of them there are, the first byte among them; no more than a Padding may have.
func (r *reader) noughts() int {
	for r.at < len(r.b) && r.at < api.MaxBytes && r.b[r.at] == 0 {
		r.at++
	}
	return r.at
}

package frames

import (
	"rhyne/api"
	"rhyne/vlq"
)

// Put answers a frame's bytes.
func Put(f Frame) ([]byte, api.Errno) {
	first := f.firstByte()
	parts, ok := partsOf(first)
	if !ok || !f.hasJust(parts) || !f.endsInTime() {
		return nil, api.ErrForm
	}
	b := []byte{byte(first)}
	for _, p := range parts {
		b = f.appendPart(b, p)
	}
	return b, api.OK
}

// firstByte is the byte that tells a frame's kind; of a Stream what follows, too.
func (f Frame) firstByte() int {
	if f.Kind != Stream {
		if f.Kind&^allBits == Stream {
			return noByte
		}
		return f.Kind
	}
	first := Stream | countBit
	if f.Off != 0 {
		first |= offBit
	}
	if f.Fin {
		first |= finBit
	}
	return first
}

// hasJust tells whether a frame has those parts, as its kind asks, and no others.
func (f Frame) hasJust(parts []part) bool {
	rest := f
	for _, p := range parts {
		if !f.fits(p) {
			return false
		}
		rest.clear(p)
	}
	if f.Kind == Stream {
		rest.Fin = false
	}
	return rest.Stream == 0 && rest.Off == 0 && rest.N == 0 && rest.Code == 0 && !rest.Fin &&
		rest.Data == "" && rest.Extra == "" && len(rest.Acks) == 0
}

// clear makes a part nought.
func (f *Frame) clear(p part) {
	switch p {
	case streamPart:
		f.Stream = 0
	case offPart:
		f.Off = 0
	case nPart, noughtsPart:
		f.N = 0
	case codePart:
		f.Code = 0
	case textPart, idPart, pathPart:
		f.Data = ""
	case proofPart:
		f.Extra = ""
	case acksPart:
		f.N, f.Acks = 0, nil
	}
}

// appendPart is b with the bytes of a part that fits.
func (f Frame) appendPart(b []byte, p part) []byte {
	switch p {
	case streamPart:
		return appendNumbers(b, f.Stream)
	case offPart:
		return appendNumbers(b, f.Off)
	case nPart:
		return appendNumbers(b, f.N)
	case codePart:
		return appendNumbers(b, f.Code)
	case textPart:
		return append(appendNumbers(b, len(f.Data)), f.Data...)
	case idPart:
		return append(append(b, byte(len(f.Data))), f.Data...)
	case pathPart:
		return append(b, f.Data...)
	case proofPart:
		return append(b, f.Extra...)
	case acksPart:
		return f.appendAcks(b)
	case noughtsPart:
		return append(b, make([]byte, f.N-1)...)
	}
	return b
}

// appendAcks is b with what an Ack has: each span by how far it is from the one ahead.
func (f Frame) appendAcks(b []byte) []byte {
	first := f.Acks[0]
	b = appendNumbers(b, first.To, f.N, len(f.Acks)-1, first.To-first.From)
	ahead := first
	for _, s := range f.Acks[1:] {
		b = appendNumbers(b, ahead.From-s.To-spansApart, s.To-s.From)
		ahead = s
	}
	return b
}

// appendNumbers is b with numbers, none of which is too great.
func appendNumbers(b []byte, l ...int) []byte {
	for _, n := range l {
		number, _ := vlq.Put(n)
		b = append(b, number...)
	}
	return b
}

package packet

import (
	"rhyne/api"
	"rhyne/vlq"
)

// Put answers a header's bytes.
func Put(h Header) ([]byte, api.Errno) {
	if !inBounds(h) || !inForm(h) {
		return nil, api.ErrForm
	}
	b := []byte{firstByte(h)}
	if h.Kind == Short {
		b = append(b, h.Dst...)
		return appendNumber(b, h.Number, h.Size), api.OK
	}
	b = appendNumber(b, h.Version, versionSize)
	b = appendName(b, h.Dst)
	b = appendName(b, h.Src)
	switch h.Kind {
	case Retry:
		return append(b, h.Token...), api.OK
	case Versions:
		for _, v := range h.List {
			b = appendNumber(b, v, versionSize)
		}
		return b, api.OK
	}
	return appendCounted(b, h)
}

// inBounds tells whether each part of a header, whatever its kind is, keeps to its limits.
func inBounds(h Header) bool {
	for _, v := range h.List {
		if !within(v, maxVersion) {
			return false
		}
	}
	return len(h.List) <= maxVersions &&
		len(h.Dst) <= api.MaxId && len(h.Src) <= api.MaxId && len(h.Token) <= maxToken &&
		within(h.Version, maxVersion) && within(h.Length, maxLength) &&
		within(h.Number, maxNumber) && within(h.Size, maxSize)
}

// inForm tells whether a header has the parts of its kind, and no others.
func inForm(h Header) bool {
	uncounted := h.Length == 0 && h.Number == 0 && h.Size == 0
	long := h.Version != 0 && !h.Phase && len(h.List) == 0
	switch h.Kind {
	case Initial:
		return long && h.Size != 0
	case ZeroRTT, Handshake:
		return long && h.Size != 0 && h.Token == ""
	case Retry:
		return long && uncounted
	case Short:
		return h.Size != 0 && h.Version == 0 && h.Length == 0 && h.Src == "" && h.Token == "" && len(h.List) == 0
	case Versions:
		return uncounted && h.Version == 0 && !h.Phase && h.Token == "" && len(h.List) != 0
	}
	return false
}

// firstByte is the byte that tells the kind, and how many bytes the number has.
func firstByte(h Header) byte {
	switch h.Kind {
	case Short:
		first := byte(fixedBit | (h.Size - 1))
		if h.Phase {
			first |= phaseBit
		}
		return first
	case Versions:
		return longBit | fixedBit
	case Retry:
		return longBit | fixedBit | Retry<<kindAt
	}
	return byte(longBit | fixedBit | h.Kind<<kindAt | (h.Size - 1))
}

// appendCounted is b with what an Initial, a ZeroRTT or a Handshake has behind the names.
func appendCounted(b []byte, h Header) ([]byte, api.Errno) {
	if h.Kind == Initial {
		token, e := vlq.Text(h.Token)
		if e != api.OK {
			return nil, e
		}
		b = append(b, token...)
	}
	length, e := vlq.PutIn(h.Length, lengthSize)
	if e != api.OK {
		return nil, e
	}
	b = append(b, length...)
	return appendNumber(b, h.Number, h.Size), api.OK
}

// appendName is b with a name behind its count.
func appendName(b []byte, name string) []byte {
	return append(append(b, byte(len(name))), name...)
}

// appendNumber is b with a number's lowest bytes, so many of them.
func appendNumber(b []byte, n, size int) []byte {
	for i := size - 1; i >= 0; i-- {
		b = append(b, byte(n>>(8*i)))
	}
	return b
}

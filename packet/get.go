package packet

import (
	"rhyne/api"
	"rhyne/vlq"
)

// Get answers the header at the front of b, but for what is hidden without keys; where the packet's number begins, and where the packet ends.
func Get(b []byte, own int) (Header, int, int, api.Errno) {
	if !within(own, api.MaxId) {
		return Header{}, 0, 0, api.ErrArg
	}
	if len(b) == 0 {
		return Header{}, 0, 0, api.ErrTail
	}
	if b[0]&fixedBit == 0 && !saysVersions(b) {
		return Header{}, 0, 0, api.ErrForm
	}
	if b[0]&longBit == 0 {
		return getShort(b, own)
	}
	return getLong(b)
}

// saysVersions tells whether b begins with a long header whose Version is 0.
func saysVersions(b []byte) bool {
	if b[0]&longBit == 0 || len(b) < 1+versionSize {
		return false
	}
	return [versionSize]byte(b[1:]) == [versionSize]byte{}
}

// getShort is Get of a Short, whose Dst has own bytes: it doesn't tell how many these are.
func getShort(b []byte, own int) (Header, int, int, api.Errno) {
	at := 1 + own
	if len(b) < at {
		return Header{}, 0, 0, api.ErrTail
	}
	return Header{Kind: Short, Dst: string(b[1:at])}, at, len(b), api.OK
}

// getLong is Get of all but a Short.
func getLong(b []byte) (Header, int, int, api.Errno) {
	r := &reader{b: b, at: 1}
	var h Header
	h.Version = r.number(versionSize)
	h.Dst = r.name()
	h.Src = r.name()
	h.Kind = int(b[0] >> kindAt & 3)
	if h.Version == 0 {
		h.Kind = Versions
	}
	switch h.Kind {
	case Versions:
		h.List = r.versions()
	case Retry:
		h.Token = r.token(r.left())
	case Initial:
		h.Token = r.token(r.counted(maxToken))
		h.Length = r.counted(maxLength)
	default:
		h.Length = r.counted(maxLength)
	}
	at := r.at
	r.take(h.Length)
	if r.e != api.OK {
		return Header{}, 0, 0, r.e
	}
	return h, at, r.at, api.OK
}

// reader goes through bytes. The first error stays, and nothing is read behind it.
type reader struct {
	b  []byte
	at int
	e  api.Errno
}

// left is how many bytes are still to be read.
func (r *reader) left() int {
	return len(r.b) - r.at
}

// take is the next n bytes, which are b's own.
func (r *reader) take(n int) []byte {
	if r.e == api.OK && n > r.left() {
		r.e = api.ErrTail
	}
	if r.e != api.OK {
		return nil
	}
	r.at += n
	return r.b[r.at-n : r.at]
}

// number is the number of the next n bytes.
func (r *reader) number(n int) int {
	number := 0
	for _, v := range r.take(n) {
		number = number<<8 | int(v)
	}
	return number
}

// counted is the next number, of any size; it may be at most so great.
func (r *reader) counted(most int) int {
	if r.e != api.OK {
		return 0
	}
	n, size, e := vlq.Get(r.b[r.at:])
	if e != api.OK {
		r.e = e
		return 0
	}
	r.at += size
	return r.atMost(int(n), most)
}

// atMost is n, if it isn't above most.
func (r *reader) atMost(n, most int) int {
	if r.e == api.OK && n > most {
		r.e = api.ErrForm
	}
	if r.e != api.OK {
		return 0
	}
	return n
}

// name is a name behind its count.
func (r *reader) name() string {
	return string(r.take(r.atMost(r.number(1), api.MaxId)))
}

// token is a token of n bytes.
func (r *reader) token(n int) string {
	return string(r.take(r.atMost(n, maxToken)))
}

// versions is all that is left, as versions.
func (r *reader) versions() []int {
	count := r.atMost(r.left()/versionSize, maxVersions)
	if r.e == api.OK && (count == 0 || r.left()%versionSize != 0) {
		r.e = api.ErrForm
	}
	if r.e != api.OK {
		return nil
	}
	list := make([]int, count)
	for i := range list {
		list[i] = r.number(versionSize)
	}
	return list
}

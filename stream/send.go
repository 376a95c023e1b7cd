package stream

import (
	"bytes"

	"rhyne/api"
)

// maxBytes is how many bytes may be written in all.
const maxBytes = 1 << 20

// What becomes of a byte, and of a stream's end.
const (
	due byte = iota // it is to be sent
	out             // it was sent, and may come
	came
)

// Send is the end that sends.
type Send struct {
	limit   int
	written []byte
	states  []byte // of each byte one: so many bytes may be cut into more ranges than a set may have
	settled int    // none of so many bytes, from the first on, is due
	fresh   int
	come    int // how many bytes came
	closed  bool
	told    bool // whether the end was ever sent
	fin     byte // the end's state
}

// NewSend answers an end of which nothing was written, and that may send so many bytes.
func NewSend(limit int) (*Send, api.Errno) {
	if !placed(limit) {
		return nil, api.ErrArg
	}
	return &Send{limit: limit}, api.OK
}

// Write puts more bytes behind the others.
func (s *Send) Write(b []byte) api.Errno {
	switch {
	case s == nil:
		return api.ErrArg
	case s.closed:
		return api.ErrOver
	case len(b) > maxBytes-len(s.written):
		return api.ErrFull
	}
	s.written = append(s.written, b...)
	s.states = append(s.states, bytes.Repeat([]byte{due}, len(b))...)
	return api.OK
}

// Close tells that there are no more bytes.
func (s *Send) Close() api.Errno {
	switch {
	case s == nil:
		return api.ErrArg
	case s.closed:
		return api.ErrOver
	}
	s.closed = true
	return api.OK
}

// Allow lets so many bytes be sent.
func (s *Send) Allow(limit int) {
	if s != nil {
		s.limit = max(s.limit, min(limit, maxPlace))
	}
}

// Next answers what is to be sent next, of at most so many bytes; false: nothing.
func (s *Send) Next(most int) (Piece, bool) {
	if s == nil || most < 1 {
		return Piece{}, false
	}
	from, to := s.nextDue(most)
	fin := s.closed && s.fin == due && to == len(s.written)
	if from == to && !fin {
		return Piece{}, false
	}
	s.become(from, to, out)
	s.settled, s.fresh = to, max(s.fresh, to)
	if fin {
		s.fin, s.told = out, true
	}
	return Piece{Off: from, Data: string(s.written[from:to]), Fin: fin}, true
}

// Lost tells that a piece that was sent is lost.
func (s *Send) Lost(p Piece) api.Errno {
	if !s.sent(p) {
		return api.ErrArg
	}
	s.become(p.Off, p.end(), due)
	s.settled = min(s.settled, p.Off)
	if p.Fin && s.fin != came {
		s.fin = due
	}
	return api.OK
}

// Came tells that a piece that was sent came.
func (s *Send) Came(p Piece) api.Errno {
	if !s.sent(p) {
		return api.ErrArg
	}
	s.come += s.become(p.Off, p.end(), came)
	if p.Fin {
		s.fin = came
	}
	return api.OK
}

// Fresh answers how many bytes, from the first on, were sent at least once.
func (s *Send) Fresh() int {
	if s == nil {
		return 0
	}
	return s.fresh
}

// Done tells whether all came, the end too.
func (s *Send) Done() bool {
	return s != nil && s.fin == came && s.come == len(s.written)
}

// nextDue is from where to where the first bytes are due that may be sent, at most so many; if none are, both are where those end that may be.
func (s *Send) nextDue(most int) (int, int) {
	end := min(s.limit, len(s.written))
	n := bytes.IndexByte(s.states[s.settled:end], due)
	if n < 0 {
		return end, end
	}
	from := s.settled + n
	to := from
	for to < end && to-from < most && s.states[to] == due {
		to++
	}
	return from, to
}

// become gives bytes a state, but those that came: they stay so. It answers how many there were that hadn't come.
func (s *Send) become(from, to int, state byte) int {
	n := 0
	for i, v := range s.states[from:to] {
		if v != came {
			s.states[from+i] = state
			n++
		}
	}
	return n
}

// sent tells whether a piece was sent just so, at once or in parts.
func (s *Send) sent(p Piece) bool {
	switch {
	case s == nil || p.Off < 0 || p.Off > s.fresh || len(p.Data) > s.fresh-p.Off:
		return false
	case p.Fin && (!s.told || p.end() != len(s.written)):
		return false
	}
	return p.Data == string(s.written[p.Off:p.end()])
}

package doq

import "rhyne/api"

// maxWaiting is how many bytes may wait to be answered.
const maxWaiting = 1 << 20

// Reader takes messages off a stream.
type Reader struct {
	waiting []byte // what came, behind the last message that was answered
	over    bool
}

// Feed takes more bytes.
func (r *Reader) Feed(s string) api.Errno {
	switch {
	case r == nil:
		return api.ErrArg
	case r.over:
		return api.ErrOver
	case len(s) > maxWaiting-len(r.waiting):
		return api.ErrFull
	}
	r.waiting = append(r.waiting, s...)
	return api.OK
}

// Next answers the next message; false: it isn't there wholly.
func (r *Reader) Next() (string, bool) {
	if r == nil || len(r.waiting) < countSize {
		return "", false
	}
	count := int(r.waiting[0])<<8 | int(r.waiting[1])
	end := countSize + count
	// A frame of no bytes stays where it is, so that nothing behind it is ever answered.
	if count == 0 || end > len(r.waiting) {
		return "", false
	}
	s := string(r.waiting[countSize:end])
	r.waiting = r.waiting[end:]
	return s, true
}

// End tells that no more bytes come. It answers the code: Protocol, if any wait.
func (r *Reader) End() int {
	if r == nil {
		return Protocol
	}
	r.over = true
	if len(r.waiting) > 0 {
		return Protocol
	}
	return NoError
}

package stream

import (
	"rhyne/api"
	"rhyne/ranges"
)

// Recv is the end that takes.
type Recv struct {
	window  int
	limit   int
	came    *ranges.Set[int]
	held    []byte // from the first byte that wasn't read to the farthest that came; noughts for those that didn't
	read    int
	reach   int  // how far any piece went
	ended   bool // whether the size is known: it is the reach then
	dropped bool
}

// NewRecv answers an end to which nothing came; so many bytes may come ahead of what is read.
func NewRecv(window int) (*Recv, api.Errno) {
	if window < 1 || window > api.MaxWindow {
		return nil, api.ErrArg
	}
	// No more than a window's bytes are held, so that no range of them is ever one too many.
	came, e := ranges.New[int](api.MaxWindow)
	if e != api.OK {
		return nil, e
	}
	return &Recv{window: window, limit: window, came: came}, api.OK
}

// Take tells that a piece came. It answers how many bytes farther that is than ever.
func (r *Recv) Take(p Piece) (int, api.Errno) {
	if !r.ready() || !placed(p.Off) {
		return 0, api.ErrArg
	}
	end := p.end()
	switch {
	case r.ended && (end > r.reach || p.Fin && end != r.reach), p.Fin && end < r.reach:
		return 0, api.ErrSize
	case end > r.limit:
		return 0, api.ErrFlow
	}
	farther := max(0, end-r.reach)
	r.reach += farther
	r.ended = r.ended || p.Fin
	if !r.dropped {
		r.hold(p)
	}
	return farther, api.OK
}

// Reset tells that the other end gives up, behind so many bytes. It answers how many bytes farther that is than ever.
func (r *Recv) Reset(size int) (int, api.Errno) {
	farther, e := r.Take(Piece{Off: size, Fin: true})
	if e != api.OK {
		return 0, e
	}
	if r.whole(r.reach) < r.reach {
		r.dropped, r.held, r.came = true, nil, nil
	}
	return farther, api.OK
}

// Read answers the next bytes in their order, and whether the stream ends behind them.
func (r *Recv) Read(most int) (string, bool, api.Errno) {
	switch {
	case !r.ready() || most < 0:
		return "", false, api.ErrArg
	case r.dropped:
		return "", false, api.ErrOver
	}
	n := r.whole(r.read+min(most, r.reach-r.read)) - r.read
	next := string(r.held[:n])
	r.held = r.held[n:]
	r.read += n
	return next, r.ended && r.read == r.reach, api.OK
}

// Grant answers up to which byte the other end may send; true: that is to be told.
func (r *Recv) Grant() (int, bool) {
	if !r.ready() {
		return 0, false
	}
	if r.ended || r.limit-r.read >= r.window/2 {
		return r.limit, false
	}
	r.limit = r.read + r.window
	return r.limit, true
}

// Size answers where the stream ends; false: that isn't known.
func (r *Recv) Size() (int, bool) {
	if r == nil || !r.ended {
		return 0, false
	}
	return r.reach, true
}

// ready tells whether r was made by NewRecv.
func (r *Recv) ready() bool {
	return r != nil && r.window > 0
}

// hold keeps a piece's bytes, but those that had come.
func (r *Recv) hold(p Piece) {
	from, end := max(p.Off, r.read), p.end()
	if from >= end {
		return
	}
	if more := end - r.read - len(r.held); more > 0 {
		r.held = append(r.held, make([]byte, more)...)
	}
	for first, last := range r.came.Gaps(from, end-1) {
		copy(r.held[first-r.read:], p.Data[first-p.Off:last+1-p.Off])
	}
	r.came.Add(from, end-1)
}

// whole is the place up to which, and at most to an end, bytes came without a gap behind those that were read.
func (r *Recv) whole(end int) int {
	// Ranges are copied to be gone through: no more of them are asked for than the bytes may have.
	for ahead := 1; ; ahead *= 2 {
		to := min(end, r.read+ahead)
		for gap := range r.came.Gaps(r.read, to-1) {
			return gap
		}
		if to == end {
			return end
		}
	}
}

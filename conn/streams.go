package conn

import (
	"cmp"
	"slices"

	"rhyne/api"
	"rhyne/frames"
	"rhyne/stream"
)

// maxStream is the greatest number of a stream that layer 14 knows, and apart how far one end's are from each other.
const (
	maxStream = 1 << 42
	apart     = 4
)

// both is both directions of a stream: what is sent, and what comes.
type both struct {
	id      int
	out     *stream.Send
	written int
	granted int // how many bytes the other end lets be sent
	paid    int // for how many of them the purse was spent
	in      *stream.Recv
	reach   int  // how many bytes the purse took
	used    int  // how many of them it used up
	heard   bool // whether it was told that no more comes
	tell    bool // whether the other end is to be told what it may send
}

// Open: a stream of one's own.
func (c *Conn) Open() (int, api.Errno) {
	switch {
	case !c.made():
		return 0, api.ErrArg
	case !c.done:
		return 0, api.ErrState
	case c.end.over:
		return 0, api.ErrOver
	}
	id, e := c.doors.Open()
	if e != api.OK {
		return 0, e
	}
	c.enter(id)
	return id, api.OK
}

// Next: the next stream that the other end opened; false: none.
func (c *Conn) Next() (int, bool) {
	if !c.made() || len(c.news) == 0 {
		return 0, false
	}
	id := c.news[0]
	c.news = c.news[1:]
	return id, true
}

// Write, Finish: more bytes of a stream; there are no more.
func (c *Conn) Write(id int, b []byte) api.Errno {
	s, e := c.usable(id)
	if e != api.OK {
		return e
	}
	if e := s.out.Write(b); e != api.OK {
		return e
	}
	s.written += len(b)
	return api.OK
}

func (c *Conn) Finish(id int) api.Errno {
	s, e := c.usable(id)
	if e != api.OK {
		return e
	}
	return s.out.Close()
}

// Read: the next bytes of a stream, and whether it ends behind them.
func (c *Conn) Read(id, most int) (string, bool, api.Errno) {
	s, e := c.usable(id)
	if e != api.OK {
		return "", false, e
	}
	b, end, e := s.in.Read(most)
	s.heard = s.heard || end || e == api.ErrOver
	c.use(s, len(b))
	c.leave(s)
	return b, end, e
}

// usable is the stream of a number, if it may be used.
func (c *Conn) usable(id int) (*both, api.Errno) {
	if !c.made() {
		return nil, api.ErrArg
	}
	s, ok := c.find(id)
	switch {
	case !ok:
		return nil, api.ErrMiss
	case c.end.over:
		return nil, api.ErrOver
	}
	return s, api.OK
}

// place is where a stream of a number stands among all, or would stand; true: it is there.
func (c *Conn) place(id int) (int, bool) {
	return slices.BinarySearchFunc(c.all, id, func(s *both, id int) int { return cmp.Compare(s.id, id) })
}

// find is the stream of a number; false: it isn't there.
func (c *Conn) find(id int) (*both, bool) {
	i, ok := c.place(id)
	if !ok {
		return nil, false
	}
	return c.all[i], true
}

// enter puts a stream in that is there from now on. The window is within the limits of layer 13.
func (c *Conn) enter(id int) {
	out, _ := stream.NewSend(0)
	in, _ := stream.NewRecv(c.window)
	i, _ := c.place(id)
	c.all = slices.Insert(c.all, i, &both{id: id, out: out, in: in, granted: c.each})
}

// leave takes a stream out if both of its ends are through.
func (c *Conn) leave(s *both) {
	if !s.heard || !s.out.Done() {
		return
	}
	if i, ok := c.place(s.id); ok {
		c.all = slices.Delete(c.all, i, i+1)
		c.doors.Leave(s.id)
	}
}

// use tells the purse that bytes of a stream that came are used up.
func (c *Conn) use(s *both, n int) {
	s.used += n
	c.purse.Use(n)
}

// spokenOf is the stream of which the other end speaks; false: it mustn't, or the stream is there no longer.
func (c *Conn) spokenOf(id int) (*both, bool) {
	if id >= maxStream {
		// Of the same end and kind, and beyond all that may be there as well.
		id = maxStream - apart + id%apart
	}
	l, e := c.doors.Come(id)
	switch e {
	case api.OK:
	case api.ErrState:
		c.fail(State)
		return nil, false
	case api.ErrFlow:
		c.fail(Limit)
		return nil, false
	default:
		c.fail(Protocol)
		return nil, false
	}
	for _, id := range l {
		c.enter(id)
	}
	c.news = append(c.news, l...)
	return c.find(id)
}

// hearStream takes bytes of a stream.
func (c *Conn) hearStream(f frames.Frame) {
	if s, ok := c.spokenOf(f.Stream); ok {
		farther, e := s.in.Take(pieceOf(f))
		c.charge(s, farther, e)
	}
}

// hearReset takes that the other end gives a stream up. What is dropped of it is used up: nobody will read it.
func (c *Conn) hearReset(f frames.Frame) {
	s, ok := c.spokenOf(f.Stream)
	if !ok {
		return
	}
	farther, e := s.in.Reset(min(f.Off, maxPlace))
	c.charge(s, farther, e)
	if _, _, e := s.in.Read(0); e == api.ErrOver {
		c.use(s, s.reach-s.used)
	}
}

// charge lets the purse take what came of a stream, or ends the connection for what mustn't come.
func (c *Conn) charge(s *both, farther int, e api.Errno) {
	switch e {
	case api.OK:
	case api.ErrSize:
		c.fail(FinalSize)
		return
	default:
		c.fail(Flow)
		return
	}
	if c.purse.Take(farther) != api.OK {
		c.fail(Flow)
		return
	}
	s.reach += farther
}

// pay spends of the purse for bytes of a stream that weren't sent yet, so that at most so many may go.
func (c *Conn) pay(s *both, most int) {
	n := min(most-(s.paid-s.out.Fresh()), min(s.written, s.granted)-s.paid, c.purse.Left())
	if n > 0 && c.purse.Spend(n) == api.OK {
		s.paid += n
		s.out.Allow(s.paid)
	}
}

// nextPiece is the next bytes to be sent of any stream, at most so many: each has its turn, lest one holds all others up.
func (c *Conn) nextPiece(most int) (frames.Frame, bool) {
	first, _ := c.place(c.turn)
	for i := range c.all {
		s := c.all[(first+i)%len(c.all)]
		c.pay(s, most)
		if p, ok := s.out.Next(most); ok {
			c.turn = s.id + 1
			return frames.Frame{Kind: frames.Stream, Stream: s.id, Off: p.Off, Data: p.Data, Fin: p.Fin}, true
		}
	}
	return frames.Frame{}, false
}

package conn

import (
	"rhyne/api"
	"rhyne/frames"
	"rhyne/guard"
	"rhyne/loss"
	"rhyne/packet"
	"rhyne/shake"
	"rhyne/stream"
)

// maxPlace is the greatest place of a byte that layer 13 knows: far beyond all that is granted.
const maxPlace = 1 << 40

// Take: a datagram came; was there anything in it that the other end made?
func (c *Conn) Take(b []byte, at int) bool {
	if !c.made() {
		return false
	}
	c.goOn(at)
	taken := false
	for rest := b; len(rest) > 0; {
		h, from, end, e := packet.Get(rest, nameSize)
		if e != api.OK {
			break
		}
		if c.takePacket(h, rest[:end], from) {
			taken = true
		}
		rest = rest[end:]
	}
	if taken {
		c.credit.heard += len(b)
	}
	return taken
}

// takePacket takes a packet whose number begins at from; false: it is none of the other end's, or came already.
func (c *Conn) takePacket(h packet.Header, b []byte, from int) bool {
	level, ok := levelOf(h)
	if !ok || !c.isFor(h) {
		return false
	}
	r := &c.rows[level]
	if !r.keyed {
		return false
	}
	_, number, carries, e := guard.Open(r.open, b, from, r.expected())
	if e != api.OK || r.had(number) {
		return false
	}
	r.note(number, c.now)
	if c.end.over {
		return true
	}
	c.meet(h, level)
	l, e := frames.All(carries)
	if e != api.OK {
		c.fail(Encoding)
		return true
	}
	c.hearAll(level, l)
	return true
}

// levelOf is the level of a packet; false: a packet of that kind, or version, is at none.
func levelOf(h packet.Header) (int, bool) {
	switch {
	case h.Kind == packet.Short:
		return shake.App, true
	case h.Version != version:
		return 0, false
	case h.Kind == packet.Initial:
		return shake.Initial, true
	case h.Kind == packet.Handshake:
		return shake.Handshake, true
	}
	return 0, false
}

// isFor tells whether a packet is for this end: a client calls the server by another name till it knows the right one.
func (c *Conn) isFor(h packet.Header) bool {
	return h.Dst == c.own || c.server && h.Kind != packet.Short && h.Dst == c.first
}

// meet keeps what it tells of the other end that a packet came which none but that could make.
func (c *Conn) meet(h packet.Header, level int) {
	if !c.met {
		c.peer, c.met = h.Src, true
	}
	if c.server && level == shake.Handshake {
		c.credit.free = true
		c.rows[shake.Initial].gone = true
	}
}

// hearAll takes a packet's frames, up to the first one that ends the connection.
func (c *Conn) hearAll(level int, l []frames.Frame) {
	asks := false
	for _, f := range l {
		if !c.mayCome(level, f.Kind) {
			c.fail(Protocol)
			return
		}
		c.hear(level, f)
		if c.end.over {
			return
		}
		asks = asks || frames.Asks(f)
	}
	if !asks {
		return
	}
	c.rows[level].owes = true
	if level != shake.App {
		c.hurry()
	}
}

// mayCome tells whether the other end may send a frame of a kind at a level.
func (c *Conn) mayCome(level, kind int) bool {
	switch kind {
	case frames.Padding, frames.Ping, frames.Ack, frames.Crypto, frames.Close:
		return true
	case frames.Token, frames.Done:
		return level == shake.App && !c.server
	}
	return level == shake.App
}

// hear takes a frame. Those that aren't named tell nothing that counts here.
func (c *Conn) hear(level int, f frames.Frame) {
	switch f.Kind {
	case frames.Ack:
		c.hearAck(level, f)
	case frames.Crypto:
		c.hearTalk(level, f)
	case frames.Stream:
		c.hearStream(f)
	case frames.Reset:
		c.hearReset(f)
	case frames.Stop, frames.StreamStuck:
		c.spokenOf(f.Stream)
	case frames.MaxStream:
		if s, ok := c.spokenOf(f.Stream); ok {
			s.granted = max(s.granted, min(f.N, maxPlace))
		}
	case frames.MaxData:
		c.purse.Allow(f.N)
	case frames.MaxStreams:
		c.doors.Allow(f.N)
	case frames.Done:
		c.settle()
	case frames.Close, frames.AppClose:
		c.end = end{over: true, code: f.Code, byPeer: true}
	}
}

// hearAck takes what the other end says that came to it.
func (c *Conn) hearAck(level int, f frames.Frame) {
	r := &c.rows[level]
	var l []loss.Span
	for _, x := range f.Acks {
		l = append(l, loss.Span{From: x.From, To: x.To})
	}
	came, lost, e := r.lost.Acked(l, min(f.N, latest), c.now)
	if e != api.OK {
		c.fail(Protocol)
		return
	}
	for _, number := range came {
		r.acked = max(r.acked, number)
		c.sure = c.sure || level == shake.Handshake
		if x, ok := r.takeOut(number); ok {
			c.arrived(r, x)
		}
	}
	c.giveUp(r, lost)
}

// arrived keeps that what a packet carried came.
func (c *Conn) arrived(r *row, x record) {
	for _, f := range x.frames {
		switch f.Kind {
		case frames.Crypto:
			r.out.Came(pieceOf(f))
		case frames.Done:
			c.due.doneCame = true
		case frames.Stream:
			if s, ok := c.find(f.Stream); ok {
				s.out.Came(pieceOf(f))
				c.leave(s)
			}
		}
	}
}

// giveUp lets be sent again what packets carried that are lost.
func (c *Conn) giveUp(r *row, lost []int) {
	for _, number := range lost {
		if x, ok := r.takeOut(number); ok && !x.again {
			c.sendAgain(r, x)
		}
	}
}

// sendAgain lets be sent again what a packet carried; of what is granted, as it is by then.
func (c *Conn) sendAgain(r *row, x record) {
	for _, f := range x.frames {
		switch f.Kind {
		case frames.Crypto:
			r.out.Lost(pieceOf(f))
		case frames.Done:
			c.due.done = !c.due.doneCame
		case frames.MaxData:
			c.due.data = true
		case frames.MaxStreams:
			c.due.streams = true
		case frames.MaxStream:
			if s, ok := c.find(f.Stream); ok {
				s.tell = true
			}
		case frames.Stream:
			if s, ok := c.find(f.Stream); ok {
				s.out.Lost(pieceOf(f))
			}
		}
	}
}

// hurry lets be sent again what didn't come of the talk: whoever still asks something of it may lack just that, and the timer may be far off.
func (c *Conn) hurry() {
	for level := range shake.App {
		if r := &c.rows[level]; r.counts() {
			c.sendOldAgain(r, len(r.sent))
		}
	}
	if c.server && c.done && !c.due.doneCame {
		c.due.done = true
	}
}

// sendOldAgain lets be sent again what the oldest packets carried that are on their way, of at most so many; they may still come.
func (c *Conn) sendOldAgain(r *row, most int) {
	for i := range r.sent {
		if x := &r.sent[i]; !x.again && most > 0 {
			x.again = true
			most--
			c.sendAgain(r, *x)
		}
	}
}

// hearTalk takes bytes of the talk.
func (c *Conn) hearTalk(level int, f frames.Frame) {
	r := &c.rows[level]
	if _, e := r.in.Take(pieceOf(f)); e != api.OK {
		c.fail(Flow)
		return
	}
	said, _, e := r.in.Read(api.MaxWindow)
	if e != api.OK || said == "" {
		return
	}
	r.in.Grant()
	if alert := c.talk.Take(level, []byte(said)); alert != 0 {
		c.fail(CryptoErr + alert)
		return
	}
	c.follow()
}

// follow keeps up with the talk: the keys that it made, what it says, what the other end told by it.
func (c *Conn) follow() {
	for level := range c.rows {
		r := &c.rows[level]
		if client, server, ok := c.talk.Secrets(level); ok && !r.keyed {
			c.key(level, client, server)
		}
		r.out.Write(c.talk.Say(level))
	}
	if params, ok := c.talk.Peer(); ok {
		c.agree(params)
	}
	if c.server && c.talk.Done() && !c.done {
		c.settle()
		c.due.done = true
	}
}

// settle keeps that the talk is done: from now on packets go at the last level alone.
func (c *Conn) settle() {
	c.done = true
	c.rows[shake.Handshake].gone = true
	// Whoever saw the first datagram can make packets of the first level.
	c.rows[shake.Initial].keyed = false
}

// key gives a level the keys of both ends' secrets.
func (c *Conn) key(level int, client, server string) {
	// Secrets of the layers below have the size that is asked for.
	a, _ := guard.Of(client)
	b, _ := guard.Of(server)
	r := &c.rows[level]
	r.keyed, r.seal, r.open = true, a, b
	if c.server {
		r.seal, r.open = b, a
	}
}

// agree lets as much be sent as the other end's Params say.
func (c *Conn) agree(params string) {
	by, ok := configOf(params)
	if !ok {
		c.fail(Protocol)
		return
	}
	c.each = by.Window
	c.purse.Allow(by.Window)
	c.doors.Allow(by.Streams)
}

// pieceOf is the bytes of a frame that carries some. A place beyond all that may be granted is as good as any such.
func pieceOf(f frames.Frame) stream.Piece {
	return stream.Piece{Off: min(f.Off, maxPlace), Data: f.Data, Fin: f.Fin}
}

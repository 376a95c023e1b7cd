package conn

import (
	"rhyne/api"
	"rhyne/frames"
	"rhyne/guard"
	"rhyne/packet"
	"rhyne/shake"
	"rhyne/stream"
)

// version is that of all packets.
const version = 1

// maxDatagrams is how many datagrams go in one Send.
const maxDatagrams = 64

// timedProbes is how many packets go when the timer says that one is to ask: were it one, a road that loses every other datagram might lose just these.
const timedProbes = 2

// Sizes of what goes into a packet.
const (
	sealSize   = 16
	leastSize  = 2 // bytes of a packet's number: fewer would not tell it any more if many packets overtake it
	maxSize    = 4
	leastSent  = 100 // a server that may send fewer bytes sends none: any packet that asks goes into so many
	maxAck     = 256 // so that the greatest frame of one's own choice goes into the same packet
	maxAround  = 15  // bytes ahead of those of a stream, within their frame
	leastPiece = 16
)

// credit is how many bytes came from a client, and how many a server sent to it. Till it is known that the client gets them, they may be three times as many: whoever made the client's first datagrams may have told another one's address.
type credit struct {
	heard, said int
	free        bool
}

// packing is a packet that is being made.
type packing struct {
	level  int
	size   int // bytes of its number
	around int // bytes of the packet beside what it carries
	most   int // how many bytes it may carry
	body   []byte
	asks   bool
	kept   []frames.Frame
}

// Send: the datagrams to send.
func (c *Conn) Send(at int) [][]byte {
	if !c.made() {
		return nil
	}
	c.goOn(at)
	if c.end.over {
		return c.farewell()
	}
	c.fire()
	c.keepAsking()
	c.grant()
	var out [][]byte
	for len(out) < maxDatagrams && !c.blocked() {
		c.readyProbes()
		b := c.datagram(c.pack)
		if b == nil {
			break
		}
		out = append(out, b)
	}
	return out
}

// room is how many bytes the next datagram may have.
func (c *Conn) room() int {
	if !c.server || c.credit.free {
		return api.MaxPacket
	}
	return min(api.MaxPacket, 3*c.credit.heard-c.credit.said)
}

// blocked tells whether a server waits till more bytes come from its client.
func (c *Conn) blocked() bool {
	return c.room() < leastSent
}

// fire looks whether the timers' times came.
func (c *Conn) fire() {
	if c.blocked() {
		return
	}
	for level := range c.rows {
		if r := &c.rows[level]; r.counts() {
			c.fireRow(r)
		}
	}
}

// fireRow looks whether the time came of a level's timer.
func (c *Conn) fireRow(r *row) {
	for {
		lost, ask, e := r.lost.Fire(c.now)
		c.giveUp(r, lost)
		if ask || r.beyond(c.now) {
			r.probes = timedProbes
		}
		if ask || e != api.OK || len(lost) == 0 {
			return
		}
	}
}

// readyProbes gives packets that are to ask something to carry: what is on its way for the longest time; of the talk, which has few bytes, all.
func (c *Conn) readyProbes() {
	for level := range c.rows {
		r := &c.rows[level]
		switch {
		case r.probes == 0 || !r.counts():
		case level == shake.App:
			c.sendOldAgain(r, 1)
		default:
			c.sendOldAgain(r, len(r.sent))
		}
	}
}

// keepAsking lets a client ask as long as it doesn't know that the server may send what it will: a server that waits for more bytes has no timer.
func (c *Conn) keepAsking() {
	if c.server || c.done || c.sure {
		return
	}
	last := &c.rows[shake.Initial]
	for level := range shake.App {
		r := &c.rows[level]
		if r.counts() && r.lost.Flight() > 0 {
			return
		}
		if r.counts() {
			last = r
		}
	}
	last.probes = 1
}

// grant looks what more the other end may send.
func (c *Conn) grant() {
	if _, ok := c.purse.Grant(); ok {
		c.due.data = true
	}
	if _, ok := c.doors.Grant(); ok {
		c.due.streams = true
	}
	for _, s := range c.all {
		if _, ok := s.in.Grant(); ok {
			s.tell = true
		}
	}
}

// farewell is the datagram that tells that it is over, once.
func (c *Conn) farewell() [][]byte {
	if !c.end.tell {
		return nil
	}
	b := c.datagram(c.packClose)
	if b == nil {
		return nil
	}
	c.end.tell = false
	return [][]byte{b}
}

// datagram is a packet of each level that counts and has something to carry, as pack makes them; none, if no level has.
func (c *Conn) datagram(pack func(level, room int) packing) []byte {
	room := c.room()
	var l []packing
	for level := range c.rows {
		if !c.rows[level].counts() {
			continue
		}
		if p := pack(level, room); len(p.body) > 0 {
			room -= p.bytes()
			l = append(l, p)
		}
	}
	if len(l) == 0 {
		return nil
	}
	return c.finish(l, room)
}

// packClose is a level's packet that tells that it is over: it goes at each, as it isn't known of which ones the other end has the keys.
func (c *Conn) packClose(level, room int) packing {
	p := c.open(level, room)
	p.add(frames.Frame{Kind: frames.Close, Code: c.end.code})
	return p
}

// pack is a level's packet of at most so many bytes; it carries nothing, if nothing is to be sent.
func (c *Conn) pack(level, room int) packing {
	r := &c.rows[level]
	p := c.open(level, room)
	told := false
	if r.owes || r.fresh {
		f, ok := r.ack(c.now, min(maxAck, p.most/2))
		told = ok && p.add(f)
	}
	bare := len(p.body)
	if r.probes == 0 {
		p.most = min(p.most, c.roomToAsk(level)-p.around)
	}
	c.fill(&p)
	if r.probes > 0 && !p.asks {
		p.add(frames.Frame{Kind: frames.Ping})
	}
	if len(p.body) == bare && !r.owes {
		return packing{}
	}
	if told {
		r.owes, r.fresh = false, false
	}
	if r.probes > 0 && p.asks {
		r.probes--
	}
	return p
}

// open is an empty packet of at most so many bytes.
func (c *Conn) open(level, room int) packing {
	r := &c.rows[level]
	size, e := packet.Bytes(r.next, r.acked)
	if e != api.OK {
		size = maxSize
	}
	p := packing{level: level, size: max(size, leastSize)}
	p.around = len(c.head(level, p.size, 0)) + sealSize
	p.most = room - p.around
	return p
}

// roomToAsk is how many bytes a packet may have that asks. Those of a client's first level are as great as can be.
func (c *Conn) roomToAsk(level int) int {
	n := c.rows[level].lost.Room()
	if !c.server && level == shake.Initial && n < api.MaxPacket {
		return 0
	}
	return n
}

// head is what stands ahead of a level's next packet, which carries so many bytes.
func (c *Conn) head(level, size, carries int) []byte {
	h := packet.Header{Version: version, Dst: c.peer, Src: c.own, Number: c.rows[level].next, Size: size}
	if !c.met {
		h.Dst = c.first
	}
	switch level {
	case shake.Initial:
		h.Kind = packet.Initial
	case shake.Handshake:
		h.Kind = packet.Handshake
	default:
		h.Kind, h.Version, h.Src = packet.Short, 0, ""
	}
	if h.Kind != packet.Short {
		h.Length = size + carries + sealSize
	}
	// All parts keep to the limits of layer 8.
	b, _ := packet.Put(h)
	return b
}

// fill puts in all that asks, as much as goes in.
func (c *Conn) fill(p *packing) {
	if p.level == shake.App {
		c.fillOwn(p)
	}
	out := c.rows[p.level].out
	p.fillPieces(func(most int) (frames.Frame, bool) { return talkPiece(out, most) })
	if p.level != shake.App {
		return
	}
	for len(c.puts) > 0 && p.add(c.puts[0]) {
		c.puts = c.puts[1:]
	}
	p.fillPieces(c.nextPiece)
}

// fillOwn puts in what the connection tells of itself.
func (c *Conn) fillOwn(p *packing) {
	if c.due.done && p.keep(frames.Frame{Kind: frames.Done}) {
		c.due.done = false
	}
	if n, _ := c.purse.Grant(); c.due.data && p.keep(frames.Frame{Kind: frames.MaxData, N: n}) {
		c.due.data = false
	}
	if n, _ := c.doors.Grant(); c.due.streams && p.keep(frames.Frame{Kind: frames.MaxStreams, N: n}) {
		c.due.streams = false
	}
	for _, s := range c.all {
		if n, _ := s.in.Grant(); s.tell && p.keep(frames.Frame{Kind: frames.MaxStream, Stream: s.id, N: n}) {
			s.tell = false
		}
	}
}

// fillPieces puts in bytes as long as next has some, and they go in.
func (p *packing) fillPieces(next func(most int) (frames.Frame, bool)) {
	for {
		most := p.most - len(p.body) - maxAround
		if most < leastPiece {
			return
		}
		f, ok := next(most)
		if !ok || !p.keep(f) {
			return
		}
	}
}

// talkPiece is the next bytes of the talk to be sent, at most so many.
func talkPiece(out *stream.Send, most int) (frames.Frame, bool) {
	piece, ok := out.Next(most)
	return frames.Frame{Kind: frames.Crypto, Off: piece.Off, Data: piece.Data}, ok
}

// add puts a frame in; false: it doesn't go in.
func (p *packing) add(f frames.Frame) bool {
	b, e := frames.Put(f)
	if e != api.OK || p.atLeast(len(p.body)+len(b)) > p.most {
		return false
	}
	p.body = append(p.body, b...)
	p.asks = p.asks || frames.Asks(f)
	return true
}

// keep puts a frame in that is to be sent again if it is lost.
func (p *packing) keep(f frames.Frame) bool {
	ok := p.add(f)
	if ok {
		p.kept = append(p.kept, f)
	}
	return ok
}

// bytes is how many bytes the packet has.
func (p *packing) bytes() int {
	return p.around + p.atLeast(len(p.body))
}

// atLeast is n, or as many bytes as layer 10 asks for behind a short number.
func (p *packing) atLeast(n int) int {
	return max(n, maxSize-p.size)
}

// pad puts so many noughts behind what a packet carries.
func (p *packing) pad(n int) {
	p.body = append(p.body, make([]byte, n)...)
}

// finish is the datagram of packets, which may have so many bytes more.
func (c *Conn) finish(l []packing, room int) []byte {
	for i := range l {
		l[i].pad(l[i].atLeast(len(l[i].body)) - len(l[i].body))
	}
	if !c.server && l[0].level == shake.Initial {
		l[0].pad(room)
	}
	var out []byte
	for _, p := range l {
		out = append(out, c.seal(p)...)
	}
	c.credit.said += len(out)
	if last := l[len(l)-1].level; !c.server && last >= shake.Handshake {
		// Who gets it has all of the first level.
		c.rows[shake.Initial].gone = true
	}
	return out
}

// seal is a packet's bytes; it is sent from now on.
func (c *Conn) seal(p packing) []byte {
	r := &c.rows[p.level]
	// All parts keep to the limits of layers 10 and 12.
	b, _ := guard.Seal(r.seal, c.head(p.level, p.size, len(p.body)), p.size, r.next, p.body)
	r.lost.Sent(r.next, len(b), p.asks, c.now)
	if len(p.kept) > 0 {
		r.sent = append(r.sent, record{number: r.next, frames: p.kept})
	}
	r.next++
	return b
}

package farm

import (
	"rhyne/api"
	"rhyne/conn"
	"rhyne/curve"
	"rhyne/packet"
)

// sealSize is how many bytes the key has by which a server seals tickets.
const sealSize = 16

// node is what all nodes have: connections that they made, and those that others made to them.
type node struct {
	farm   *Farm
	number int
	lines  []*line
	guests []*guest
	host   host             // nil: nobody may be its guest
	own    [curve.Size]byte // a host's key
	seal   string
}

// newNode is a node that may ask those servers.
func newNode(f *Farm, number int, servers ...int) node {
	n := node{farm: f, number: number}
	for _, server := range servers {
		n.lines = append(n.lines, &line{link: link{farm: f, own: number, peer: server}})
	}
	return n
}

// open lets the node have guests, and shows its key.
func (n *node) open(h host) {
	n.host = h
	n.own, n.seal = n.farm.random.block(), string(n.farm.random.bytes(sealSize))
	n.farm.public[n.number] = curve.Public(n.own)
}

// base is the node itself, of all that are nodes.
func (n *node) base() *node {
	return n
}

// take takes a datagram on the connection that it names, or on a new one.
func (n *node) take(d datagram, h packet.Header) {
	for _, l := range n.lines {
		if l.c != nil && l.name == h.Dst {
			l.take(d.bytes)
			return
		}
	}
	for _, g := range n.guests {
		if g.name == h.Dst || g.first == h.Dst {
			g.take(d.bytes)
			return
		}
	}
	if h.Kind == packet.Initial && n.host != nil {
		n.welcome(d, h)
	}
}

// welcome makes a connection, if the datagram is one by which a client calls first.
func (n *node) welcome(d datagram, h packet.Header) {
	by := n.farm.config()
	by.Shake.Own, by.Shake.Seal = n.own, n.seal
	c, e := conn.Accept(by, h.Dst, h.Src, 0)
	if e != api.OK {
		return
	}
	g := &guest{link: link{farm: n.farm, own: n.number, peer: d.from}, first: h.Dst}
	g.start(c, by.Name)
	if g.take(d.bytes) {
		n.guests = append(n.guests, g)
	}
}

// listen hears all that came: answers first, as guests may wait for them.
func (n *node) listen() {
	for _, l := range n.lines {
		l.listen()
	}
	for _, g := range n.guests {
		g.listen(n.host)
	}
}

// send asks what is to be asked, and sends all that is to go. Guests that nobody needs any more are forgotten.
func (n *node) send() {
	for _, l := range n.lines {
		l.tend()
		l.send()
	}
	for _, g := range n.guests {
		g.send()
	}
	var left []*guest
	for i, g := range n.guests {
		if !g.useless(n.guests[i+1:]) {
			left = append(left, g)
		}
	}
	n.guests = left
}

// forget forgets all connections, without a word, and what was asked there.
func (n *node) forget() {
	n.guests = nil
	for _, l := range n.lines {
		l.drop()
		l.asked = nil
	}
}

// alarms are the times at which a connection has something to do, if nothing comes.
func (n *node) alarms() []int {
	var all []int
	for _, l := range n.lines {
		all = append(all, l.alarms()...)
	}
	for _, g := range n.guests {
		all = append(all, g.alarms()...)
	}
	return all
}

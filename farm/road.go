package farm

import (
	"slices"

	"rhyne/api"
	"rhyne/packet"
)

// maxWay is how many datagrams may be on their way.
const maxWay = 2000

// The limits of how time goes on: by what is told, and behind a round, when something is on its way or nothing is.
const (
	maxTick   = 10000
	maxRounds = 1000
	busyTick  = 40
	quietTick = 1000
)

// What may happen to a datagram; else it comes.
const (
	fateLost    = 1
	fateTwice   = 2
	fateLast    = 3
	fateChanged = 4
	fateMadeUp  = 5
	fates       = 8
)

// maxFront is how many bytes of a datagram those may begin with that nobody made, so that somebody takes them for his.
const maxFront = 40

// datagram is bytes on their way from a node to another one.
type datagram struct {
	from, to int
	bytes    []byte
}

// actor is a node, as time and the road know it.
type actor interface {
	base() *node
	act()          // it does what it has to do now
	alarms() []int // when it has something to do, if nothing comes
}

// actors are all nodes, by their numbers.
func (f *Farm) actors() [nodes]actor {
	return [nodes]actor{&f.stub, &f.primary, &f.secondary, &f.forwarder}
}

// Deliver: something happens to the first datagram that is on its way.
func (f *Farm) Deliver(fate, at int) {
	if !f.made() || len(f.way) == 0 {
		return
	}
	d := f.way[0]
	f.way = f.way[1:]
	switch modulo(fate, fates) {
	case fateLost:
	case fateTwice:
		f.come(d)
		f.come(d)
	case fateLast:
		f.way = append(f.way, d)
	case fateChanged:
		d.bytes[modulo(at, len(d.bytes))] += byte(1 + f.random.below(255))
		f.come(d)
	case fateMadeUp:
		f.come(f.madeUp(d))
		f.come(d)
	default:
		f.come(d)
	}
	f.act()
}

// Tick: time goes on.
func (f *Farm) Tick(n int) {
	if !f.made() {
		return
	}
	f.now += min(max(n, 1), maxTick)
	f.act()
}

// Run: rounds in which all that is on its way comes.
func (f *Farm) Run(rounds int) {
	if !f.made() {
		return
	}
	for range min(rounds, maxRounds) {
		f.round()
	}
}

// round lets all come that is on its way, and time go on.
func (f *Farm) round() {
	way := f.way
	f.way = nil
	for _, d := range way {
		f.come(d)
	}
	f.act()
	if len(f.way) > 0 {
		f.now += busyTick
	} else {
		f.now += f.quiet()
	}
	f.act()
}

// quiet is how long it is, if nothing comes, till a node has something to do.
func (f *Farm) quiet() int {
	least := quietTick
	for _, n := range f.actors() {
		for _, at := range n.alarms() {
			least = min(least, at-f.now)
		}
	}
	return max(least, 1)
}

// act lets all nodes do what they have to do now.
func (f *Farm) act() {
	for _, n := range f.actors() {
		n.act()
	}
	f.way = f.way[max(0, len(f.way)-maxWay):]
}

// post sends a datagram on its way.
func (f *Farm) post(from, to int, b []byte) {
	f.way = append(f.way, datagram{from: from, to: to, bytes: b})
}

// come lets a datagram come to the node that it is for.
func (f *Farm) come(d datagram) {
	h, _, _, e := packet.Get(d.bytes, nameSize)
	if e != api.OK {
		return
	}
	f.actors()[d.to].base().take(d, h)
}

// madeUp is a datagram that nobody made, though it may begin as another one does.
func (f *Farm) madeUp(d datagram) datagram {
	front := d.bytes[:min(f.random.below(maxFront), len(d.bytes))]
	d.bytes = slices.Concat(front, f.random.bytes(f.random.below(api.MaxPacket)))
	return d
}

// modulo is what is left over of n by m, 0 or above.
func modulo(n, m int) int {
	return (n%m + m) % m
}

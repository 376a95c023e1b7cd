package farm

import (
	"rhyne/conn"
	"rhyne/shake"
)

// What all ends bring.
const (
	protocol = "doq"
	window   = 20000
	streams  = 16
)

// nameSize is how many bytes the names have that ends give to themselves.
const nameSize = 8

// patience is how long one waits till a connection is ready, or something comes on it.
const patience = 5000

// readSize is how many bytes of a stream are read at one time: more than may wait.
const readSize = 1 << 20

// link is an end of a connection. Its own time begins with 0, so that a new one may be made at any time.
type link struct {
	farm      *Farm
	own, peer int // the nodes of both ends
	c         *conn.Conn
	name      string
	begun     int
	heard     int // when something came the last time, or else when it was made
}

// at is the link's own time.
func (k *link) at() int {
	return k.farm.now - k.begun
}

// silence is how long nothing came.
func (k *link) silence() int {
	return k.farm.now - k.heard
}

// over tells whether there is no connection, or none any more.
func (k *link) over() bool {
	_, _, over := k.c.Closed()
	return over
}

// late tells whether the connection should be ready, and isn't.
func (k *link) late() bool {
	return !k.c.Ready() && k.at() >= patience
}

// start begins with a connection that was made just now.
func (k *link) start(c *conn.Conn, name string) {
	k.c, k.name, k.begun, k.heard = c, name, k.farm.now, k.farm.now
}

// take takes a datagram; false: there was nothing in it that the other end made.
func (k *link) take(b []byte) bool {
	ok := k.c.Take(b, k.at())
	if ok {
		k.heard = k.farm.now
	}
	return ok
}

// send sends what is to go now.
func (k *link) send() {
	for _, b := range k.c.Send(k.at()) {
		k.farm.post(k.own, k.peer, b)
	}
}

// alarms is when the connection has something to do, if nothing comes.
func (k *link) alarms() []int {
	if at, ok := k.c.Timer(); ok {
		return []int{k.begun + at}
	}
	return nil
}

// config is what an end brings, but for the server's key.
func (f *Farm) config() conn.Config {
	talk := shake.Config{Protocol: protocol, Random: f.random.block(), Key: f.random.block()}
	return conn.Config{Shake: talk, Name: string(f.random.bytes(nameSize)), Window: window, Streams: streams}
}

package shake

import (
	"slices"

	"rhyne/api"
	"rhyne/curve"
	"rhyne/vlq"
)

// step is a place in the order in which both ends speak.
type step int

// The steps, in their order.
const (
	over step = iota // nothing is to come
	hello
	answer
	speech
	name
	proof
	serverSeal
	clientSeal
	ticket
)

// place is what tells a step's message from others.
type place struct {
	kind  byte
	level int
}

// places are the steps' ones; over has none.
var places = [...]place{
	hello:      {1, Initial},
	answer:     {2, Initial},
	speech:     {8, Handshake},
	name:       {11, Handshake},
	proof:      {15, Handshake},
	serverSeal: {20, Handshake},
	clientSeal: {20, Handshake},
	ticket:     {4, App},
}

// The sizes of what stands ahead of a message's bytes, of these at the most, and of parts of them.
const (
	headSize   = 4
	maxBody    = 2000
	randomSize = 32
	openSize   = randomSize + curve.Size // what a hello and an answer begin with
)

// greeting is what a hello tells, but for its random bytes.
type greeting struct {
	public                   [curve.Size]byte
	protocol, params, ticket string
}

// message is a step's message of some bytes.
func message(s step, body []byte) []byte {
	n := len(body)
	return append([]byte{places[s].kind, byte(n >> 16), byte(n >> 8), byte(n)}, body...)
}

// countOf is how many bytes a message's head promises behind it.
func countOf(head []byte) int {
	return int(head[1])<<16 | int(head[2])<<8 | int(head[3])
}

// opening is what a hello and an answer begin with.
func (c Config) opening() []byte {
	public := curve.Public(c.Key)
	return slices.Concat(c.Random[:], public[:])
}

// hello is the bytes of a client's hello.
func (c Config) hello() []byte {
	return slices.Concat(c.opening(), text(c.Protocol), text(c.Params), text(c.Ticket))
}

// answer is the bytes of a server's answer.
func (c Config) answer(resumed bool) []byte {
	if resumed {
		return append(c.opening(), 1)
	}
	return append(c.opening(), 0)
}

// speech is the bytes of a server's speech.
func (c Config) speech() []byte {
	return slices.Concat(text(c.Protocol), text(c.Params))
}

// readHello is what a hello's bytes tell; false: they are none.
func readHello(body []byte) (greeting, bool) {
	if len(body) < openSize {
		return greeting{}, false
	}
	l, ok := texts(body[openSize:], 3)
	if !ok {
		return greeting{}, false
	}
	public := [curve.Size]byte(body[randomSize:openSize])
	return greeting{public: public, protocol: l[0], params: l[1], ticket: l[2]}, true
}

// text is a text's bytes. None is too long for them, as each end's are measured when it is made.
func text(s string) []byte {
	b, _ := vlq.Text(s)
	return b
}

// texts are so many texts, if b is just these.
func texts(b []byte, count int) ([]string, bool) {
	l := make([]string, 0, count)
	for range count {
		s, size, e := vlq.GetText(b)
		if e != api.OK {
			return nil, false
		}
		l = append(l, s)
		b = b[size:]
	}
	return l, len(b) == 0
}

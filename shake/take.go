package shake

import (
	"slices"

	"rhyne/api"
	"rhyne/curve"
	"rhyne/gcm"
)

// Take takes bytes that the other end said, at a level, in their order. It answers 0, or the alert for which it gave up.
func (m *Machine) Take(level int, b []byte) int {
	if !m.ready() {
		return Unexpected
	}
	if m.alert == 0 && len(b) > 0 {
		if alert := m.take(level, b); alert != 0 {
			m.giveUp(alert)
		}
	}
	return m.alert
}

// take hears each message that is there wholly, and holds the front of the next one.
func (m *Machine) take(level int, b []byte) int {
	if !m.awaits(level) {
		return Unexpected
	}
	rest := append(m.held, b...)
	for m.awaits(level) {
		said, alert := m.first(rest)
		if alert != 0 {
			return alert
		}
		if len(said) == 0 {
			m.held = slices.Clone(rest)
			return 0
		}
		if alert := m.hear(said); alert != 0 {
			return alert
		}
		rest = rest[len(said):]
	}
	if len(rest) > 0 {
		return Unexpected
	}
	m.held = nil
	return 0
}

// awaits tells whether something is to come at a level.
func (m *Machine) awaits(level int) bool {
	return m.next != over && places[m.next].level == level
}

// first is the message with which b begins, or none, if it isn't there wholly. What its head tells is looked at ahead of waiting for more.
func (m *Machine) first(b []byte) ([]byte, int) {
	if len(b) < headSize {
		return nil, 0
	}
	n := countOf(b)
	if b[0] != places[m.next].kind || n > maxBody {
		return nil, Unexpected
	}
	if len(b)-headSize < n {
		return nil, 0
	}
	return b[:headSize+n], 0
}

// hear takes the message that was to come.
func (m *Machine) hear(said []byte) int {
	switch m.next {
	case hello:
		return m.hearHello(said)
	case answer:
		return m.hearAnswer(said)
	case speech:
		return m.hearSpeech(said)
	case name:
		return m.hearName(said)
	case proof:
		return m.hearProof(said)
	case serverSeal:
		return m.hearServerSeal(said)
	case clientSeal:
		return m.hearClientSeal(said)
	}
	return m.hearTicket(said)
}

// hearHello takes a client's hello, and says all that a server says ahead of the client's seal.
func (m *Machine) hearHello(said []byte) int {
	g, ok := readHello(said[headSize:])
	if !ok {
		return Undecoded
	}
	if g.protocol != m.c.Protocol {
		return NoProtocol
	}
	shared, e := curve.Shared(m.c.Key, g.public)
	if e != api.OK {
		return Illegal
	}
	m.words = append(m.words, said...)
	m.params, m.known = g.params, true
	secret, taken := m.openTicket(g.ticket)
	m.resumed = taken
	m.say(answer, m.c.answer(taken))
	m.agree(secret, shared)
	m.present(g.public)
	m.next = clientSeal
	return 0
}

// present says what a server says of itself, and proves it to whoever has shown a public key: with a ticket, whose secret just that server knows, by its seal alone.
func (m *Machine) present(public [curve.Size]byte) {
	m.say(speech, m.c.speech())
	if !m.resumed {
		own := curve.Public(m.c.Own)
		m.say(name, own[:])
		m.say(proof, m.proof(m.c.Own, public))
	}
	m.say(serverSeal, m.seal(m.secrets[Handshake].server))
	m.open()
}

// hearAnswer takes a server's answer.
func (m *Machine) hearAnswer(said []byte) int {
	body := said[headSize:]
	if len(body) != openSize+1 {
		return Undecoded
	}
	shared, e := curve.Shared(m.c.Key, [curve.Size]byte(body[randomSize:openSize]))
	taken := body[openSize]
	if e != api.OK || taken > 1 || taken == 1 && m.c.Ticket == "" {
		return Illegal
	}
	m.words = append(m.words, said...)
	secret := ""
	if taken == 1 {
		m.resumed = true
		secret = m.c.Secret
	}
	m.agree(secret, shared)
	m.next = speech
	return 0
}

// hearSpeech takes what a server says of itself. It is told to nobody ahead of the seal.
func (m *Machine) hearSpeech(said []byte) int {
	l, ok := texts(said[headSize:], 2)
	if !ok {
		return Undecoded
	}
	if l[0] != m.c.Protocol {
		return NoProtocol
	}
	m.words = append(m.words, said...)
	m.params = l[1]
	m.next = name
	if m.resumed {
		m.next = serverSeal
	}
	return 0
}

// hearName takes a server's public key.
func (m *Machine) hearName(said []byte) int {
	body := said[headSize:]
	if len(body) != curve.Size {
		return Undecoded
	}
	if [curve.Size]byte(body) != m.c.Own {
		return BadProof
	}
	m.words = append(m.words, said...)
	m.next = proof
	return 0
}

// hearProof takes the proof that a server has the key whose public one it showed.
func (m *Machine) hearProof(said []byte) int {
	alert := m.holds(said, m.proof(m.c.Key, m.c.Own), BadProof)
	if alert == 0 {
		m.next = serverSeal
	}
	return alert
}

// hearServerSeal takes a server's seal, and says the client's.
func (m *Machine) hearServerSeal(said []byte) int {
	if alert := m.holds(said, m.seal(m.secrets[Handshake].server), Undecrypt); alert != 0 {
		return alert
	}
	m.open()
	m.say(clientSeal, m.seal(m.secrets[Handshake].client))
	m.settle()
	m.next = ticket
	return 0
}

// hearClientSeal takes a client's seal, and says a ticket.
func (m *Machine) hearClientSeal(said []byte) int {
	if alert := m.holds(said, m.seal(m.secrets[Handshake].client), Undecrypt); alert != 0 {
		return alert
	}
	m.settle()
	m.say(ticket, text(m.newTicket()))
	m.next = over
	return 0
}

// hearTicket takes a ticket; there may be more.
func (m *Machine) hearTicket(said []byte) int {
	l, ok := texts(said[headSize:], 1)
	if !ok {
		return Undecoded
	}
	m.ticket, m.came = l[0], true
	return 0
}

// holds takes a message that is to be just some bytes: a proof, or a seal, of the words ahead of it.
func (m *Machine) holds(said, want []byte, alert int) int {
	body := said[headSize:]
	if len(body) != len(want) {
		return Undecoded
	}
	if !gcm.Same(body, want) {
		return alert
	}
	m.words = append(m.words, said...)
	return 0
}

// say says a step's message; it is one of the words as long as something is made of them.
func (m *Machine) say(s step, body []byte) {
	b := message(s, body)
	if !m.done {
		m.words = append(m.words, b...)
	}
	level := places[s].level
	m.said[level] = append(m.said[level], b...)
}

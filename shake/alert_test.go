package shake_test

import (
	"bytes"
	"math"
	"slices"
	"strings"
	"testing"

	"rhyne/shake"
)

// few are points of which no secret is made.
func few() [][]byte {
	one, top := make([]byte, 32), make([]byte, 32)
	one[0], top[31] = 1, 128
	p := bytes.Repeat([]byte{255}, 32)
	p[0], p[31] = 0xed, 127
	return [][]byte{make([]byte, 32), one, top, p}
}

// put is b with other bytes at a place.
func put(b []byte, at int, other ...byte) []byte {
	b = bytes.Clone(b)
	copy(b[at:], other)
	return b
}

// P15.1: the chapter's example.
func TestKnownTalk(t *testing.T) {
	c, s := clientConfig(), serverConfig()
	s.Protocol = "dot"
	m := newClient(t, c)
	hello := m.Say(0)
	n := len(hello) - 4
	if !bytes.Equal(hello[:4], []byte{1, 0, 0, byte(n)}) || !bytes.Equal(hello[4:36], c.Random[:]) {
		t.Errorf("%x", hello)
	}
	refuses(t, "another Protocol", newServer(t, s), 0, hello, 120)
}

// P15.1: hellos that aren't right, in the order in which that is told.
func TestWrongHellos(t *testing.T) {
	c, s := clientConfig(), serverConfig()
	text := countIn(0)
	key, name, params, none := public(t, c.Key), text("doq"), text("p"), text("")
	for _, x := range []struct {
		what  string
		b     []byte
		alert int
	}{
		{"an answer", talked(t, c, s, "").answer, shake.Unexpected},
		{"type 0", message(0, c.Random[:], key, name, params, none), shake.Unexpected},
		{"no bytes", message(1), shake.Undecoded},
		{"Random alone", message(1, c.Random[:]), shake.Undecoded},
		{"a key that is too short", message(1, c.Random[:], key[:31]), shake.Undecoded},
		{"no texts", message(1, c.Random[:], key), shake.Undecoded},
		{"one text", message(1, c.Random[:], key, name), shake.Undecoded},
		{"two texts", message(1, c.Random[:], key, name, params), shake.Undecoded},
		{"four texts", message(1, c.Random[:], key, name, params, none, none), shake.Undecoded},
		{"a byte left", message(1, c.Random[:], key, name, params, none, []byte{7}), shake.Undecoded},
		{"a text that ends too soon", message(1, c.Random[:], key, name, params, []byte{3, 1, 2}), shake.Undecoded},
		{"a count that ends too soon", message(1, c.Random[:], key, name, params, []byte{0x40}), shake.Undecoded},
		{"a count of 65536", message(1, c.Random[:], key, []byte{0x80, 1, 0, 0}), shake.Undecoded},
		{"the greatest count", message(1, c.Random[:], key, bytes.Repeat([]byte{255}, 8)), shake.Undecoded},
		{"another Protocol, and a byte left", message(1, c.Random[:], key, text("dop"), params, none, none), shake.Undecoded},
		{"no key, and no texts", message(1, c.Random[:], few()[0]), shake.Undecoded},
		{"another Protocol", message(1, c.Random[:], key, text("dop"), params, none), shake.NoProtocol},
		{"no Protocol", message(1, c.Random[:], key, none, params, none), shake.NoProtocol},
		{"a longer Protocol", message(1, c.Random[:], key, text("doq "), params, none), shake.NoProtocol},
		{"a Protocol beyond the limit", message(1, c.Random[:], key, text(strings.Repeat("d", 256)), params, none), shake.NoProtocol},
		{"another Protocol, and no key", message(1, c.Random[:], few()[0], text("dop"), params, none), shake.NoProtocol},
		{"no key", message(1, c.Random[:], few()[0], name, params, none), shake.Illegal},
		{"a key of few", message(1, c.Random[:], few()[1], name, params, none), shake.Illegal},
		{"a key of few with the highest bit", message(1, c.Random[:], few()[2], name, params, none), shake.Illegal},
		{"a key of few, as p", message(1, c.Random[:], few()[3], name, params, none), shake.Illegal},
	} {
		refuses(t, x.what, newServer(t, s), 0, x.b, x.alert)
		m := newServer(t, s)
		for _, v := range x.b[:len(x.b)-1] {
			if m.Take(0, []byte{v}) != 0 {
				break
			}
		}
		if a := m.Take(0, x.b[len(x.b)-1:]); a != x.alert {
			t.Error(x.what, "byte by byte:", a)
		}
	}
	// What a client may not bring, but a hello may say.
	m := newServer(t, s)
	takes(t, m, 0, message(1, c.Random[:], key, name, text(strings.Repeat("p", 1500)), text(strings.Repeat("t", 300))))
	if p, ok := m.Peer(); len(p) != 1500 || !ok || m.Resumed() {
		t.Error("long texts", len(p), ok)
	}
}

// P15.1: a type and a count are told as soon as the 4 bytes ahead of a message are there, and not ahead of that.
func TestHeads(t *testing.T) {
	c, s := clientConfig(), serverConfig()
	w := talked(t, c, s, "")
	for _, x := range []struct {
		what  string
		at    func() *shake.Machine
		level int
		kind  byte
	}{
		{"a hello", func() *shake.Machine { return newServer(t, s) }, 0, 1},
		{"a client's seal", func() *shake.Machine { return behind(t, s, true, w.hello) }, 1, 20},
		{"an answer", func() *shake.Machine { return newClient(t, c) }, 0, 2},
		{"a speech", func() *shake.Machine { return behind(t, c, false, w.answer) }, 1, 8},
		{"a name", func() *shake.Machine { return behind(t, c, false, w.answer, w.speech) }, 1, 11},
		{"a proof", func() *shake.Machine { return behind(t, c, false, w.answer, w.speech, w.name) }, 1, 15},
		{"a server's seal", func() *shake.Machine { return behind(t, c, false, w.answer, w.speech, w.name, w.proof) }, 1, 20},
		{"a ticket", func() *shake.Machine { return behind(t, c, false, w.answer, w.flight()) }, 2, 4},
		{"a second ticket", func() *shake.Machine {
			m := behind(t, c, false, w.answer, w.flight())
			takes(t, m, 2, w.ticket)
			return m
		}, 2, 4},
	} {
		for kind := range 256 {
			m := x.at()
			takes(t, m, x.level, []byte{byte(kind), 0, 0})
			want := shake.Unexpected
			if byte(kind) == x.kind {
				want = 0
			}
			if a := m.Take(x.level, []byte{1}); a != want {
				t.Error(x.what, "of type", kind, a)
			}
		}
		for _, count := range []int{2001, 2002, 2048, 65535, 65536, 1<<24 - 1} {
			m := x.at()
			takes(t, m, x.level, []byte{x.kind, byte(count >> 16), byte(count >> 8)})
			refuses(t, x.what, m, x.level, []byte{byte(count)}, shake.Unexpected)
		}
		m := x.at()
		takes(t, m, x.level, []byte{x.kind, 0, 2000 >> 8, 2000 & 255})
		takes(t, m, x.level, make([]byte, 1999))
		refuses(t, x.what, m, x.level, []byte{255}, shake.Undecoded)
		// With no bytes a message is there at once.
		refuses(t, x.what, x.at(), x.level, message(x.kind), shake.Undecoded)
	}
}

// behind is an end that took some messages: the first one of level 0, the others of level 1.
func behind(t *testing.T, c shake.Config, server bool, l ...[]byte) *shake.Machine {
	t.Helper()
	var m *shake.Machine
	if server {
		m = newServer(t, c)
	} else {
		m = newClient(t, c)
	}
	for i, b := range l {
		takes(t, m, min(i, 1), b)
	}
	return m
}

// P15.1: answers that aren't right.
func TestWrongAnswers(t *testing.T) {
	s := serverConfig()
	key := public(t, s.Key)
	plain, resuming := clientConfig(), withTicket(t)
	for _, x := range []struct {
		what            string
		b               []byte
		plain, resuming int
	}{
		{"right without a ticket", message(2, s.Random[:], key, []byte{0}), 0, 0},
		{"right with a ticket", message(2, s.Random[:], key, []byte{1}), shake.Illegal, 0},
		{"a byte 2", message(2, s.Random[:], key, []byte{2}), shake.Illegal, shake.Illegal},
		{"a byte 255", message(2, s.Random[:], key, []byte{255}), shake.Illegal, shake.Illegal},
		{"no byte", message(2, s.Random[:], key), shake.Undecoded, shake.Undecoded},
		{"a byte more", message(2, s.Random[:], key, []byte{0, 0}), shake.Undecoded, shake.Undecoded},
		{"a byte 2, and one more", message(2, s.Random[:], key, []byte{2, 0}), shake.Undecoded, shake.Undecoded},
		{"no bytes", message(2), shake.Undecoded, shake.Undecoded},
		{"no key", message(2, s.Random[:], few()[0], []byte{0}), shake.Illegal, shake.Illegal},
		{"a key of few", message(2, s.Random[:], few()[1], []byte{0}), shake.Illegal, shake.Illegal},
		{"a key of few, with the highest bit", message(2, s.Random[:], few()[2], []byte{1}), shake.Illegal, shake.Illegal},
		{"a key of few, as p", message(2, s.Random[:], few()[3], []byte{0}), shake.Illegal, shake.Illegal},
		{"no key, and a byte more", message(2, s.Random[:], few()[0], []byte{0, 0}), shake.Undecoded, shake.Undecoded},
		{"a hello", message(1, s.Random[:], key, []byte{0}), shake.Unexpected, shake.Unexpected},
	} {
		for i, c := range []shake.Config{plain, resuming} {
			want := []int{x.plain, x.resuming}[i]
			m := newClient(t, c)
			if want != 0 {
				refuses(t, x.what, m, 0, x.b, want)
				continue
			}
			takes(t, m, 0, x.b)
			if m.Resumed() != (x.b[len(x.b)-1] == 1) {
				t.Error(x.what, m.Resumed())
			}
		}
	}
}

// P15.1: speeches, names, proofs and seals of a server that aren't right.
func TestWrongFlights(t *testing.T) {
	c, s := clientConfig(), serverConfig()
	w := talked(t, c, s, "")
	text := countIn(0)
	other := public(t, row(9))
	high := bytes.Clone(w.name[4:])
	high[31] |= 128
	a, b, d := [][]byte{w.answer}, [][]byte{w.answer, w.speech}, [][]byte{w.answer, w.speech, w.name}
	e := append(slices.Clone(d), w.proof)
	for _, x := range []struct {
		what   string
		behind [][]byte
		b      []byte
		alert  int
	}{
		{"a speech without texts", a, message(8), shake.Undecoded},
		{"a speech of one text", a, message(8, text("doq")), shake.Undecoded},
		{"a speech of three", a, message(8, text("doq"), text("p"), text("")), shake.Undecoded},
		{"a speech that ends too soon", a, message(8, text("doq"), []byte{4, 1, 2, 3}), shake.Undecoded},
		{"a speech with a count of 65536", a, message(8, []byte{0x80, 1, 0, 0}), shake.Undecoded},
		{"another Protocol, and a byte left", a, message(8, text("dop"), text("p"), []byte{0}), shake.Undecoded},
		{"another Protocol", a, message(8, text("dop"), text("p")), shake.NoProtocol},
		{"no Protocol", a, message(8, text(""), text("p")), shake.NoProtocol},
		{"a name ahead of the speech", a, w.name, shake.Unexpected},
		{"a seal ahead of the speech", a, w.seal, shake.Unexpected},
		{"a speech twice", b, w.speech, shake.Unexpected},
		{"a proof ahead of the name", b, w.proof, shake.Unexpected},
		{"a seal without a name", b, w.seal, shake.Unexpected},
		{"a name that is short", b, message(11, w.name[4:35]), shake.Undecoded},
		{"a name that is long", b, message(11, w.name[4:], []byte{0}), shake.Undecoded},
		{"another's name", b, message(11, other), shake.BadProof},
		{"the name with the highest bit", b, message(11, high), shake.BadProof},
		{"another's name that is long", b, message(11, other, other), shake.Undecoded},
		{"a name twice", d, w.name, shake.Unexpected},
		{"a seal without a proof", d, w.seal, shake.Unexpected},
		{"a proof that is short", d, message(15, w.proof[4:35]), shake.Undecoded},
		{"a proof that is long", d, message(15, w.proof[4:], []byte{0}), shake.Undecoded},
		{"a proof with another first byte", d, put(w.proof, 4, w.proof[4]^1), shake.BadProof},
		{"a proof with another last byte", d, put(w.proof, 35, w.proof[35]^128), shake.BadProof},
		{"the seal as a proof", d, message(15, w.seal[4:]), shake.BadProof},
		{"noughts as a proof", d, message(15, make([]byte, 32)), shake.BadProof},
		{"a proof twice", e, w.proof, shake.Unexpected},
		{"a seal that is short", e, message(20, w.seal[4:35]), shake.Undecoded},
		{"a seal that is long", e, message(20, w.seal[4:], []byte{0}), shake.Undecoded},
		{"a seal with another first byte", e, put(w.seal, 4, w.seal[4]^1), shake.Undecrypt},
		{"a seal with another last byte", e, put(w.seal, 35, w.seal[35]^128), shake.Undecrypt},
		{"the client's seal as the server's", e, w.reply, shake.Undecrypt},
		{"the proof as a seal", e, message(20, w.proof[4:]), shake.Undecrypt},
		{"a ticket as a seal", e, message(4, text("t")), shake.Unexpected},
	} {
		refuses(t, x.what, behind(t, c, false, x.behind...), 1, x.b, x.alert)
	}
}

// P15.1: a client whose ticket is taken waits for no name and no proof; one whose ticket isn't waits for both.
func TestFlightsWithTickets(t *testing.T) {
	c, s := withTicket(t), serverConfig()
	w := talked(t, c, s, c.Secret)
	full := talked(t, c, s, "")
	refuses(t, "a name beside a ticket", behind(t, c, false, w.answer, w.speech), 1, full.name, shake.Unexpected)
	refuses(t, "no name without a ticket", behind(t, c, false, full.answer, full.speech), 1, w.seal, shake.Unexpected)
	// A seal by the secrets of a talk without the ticket.
	refuses(t, "another seal", behind(t, c, false, w.answer, w.speech), 1, full.seal, shake.Undecrypt)
	m := behind(t, c, false, full.answer, full.flight())
	if !m.Done() || m.Resumed() {
		t.Error("a ticket that isn't taken")
	}
}

// P15.1: a client's seal that isn't right.
func TestWrongReplies(t *testing.T) {
	for _, c := range []shake.Config{clientConfig(), withTicket(t)} {
		s := serverConfig()
		w := talked(t, c, s, c.Secret)
		for _, x := range []struct {
			what  string
			b     []byte
			alert int
		}{
			{"short", message(20, w.reply[4:35]), shake.Undecoded},
			{"long", message(20, w.reply[4:], []byte{0}), shake.Undecoded},
			{"another first byte", put(w.reply, 4, w.reply[4]^1), shake.Undecrypt},
			{"another last byte", put(w.reply, 35, w.reply[35]^128), shake.Undecrypt},
			{"the server's own", w.seal, shake.Undecrypt},
			{"a hello", w.hello, shake.Unexpected},
			{"a ticket", w.ticket, shake.Unexpected},
		} {
			m := behind(t, s, true, w.hello)
			refuses(t, x.what, m, 1, x.b, x.alert)
		}
	}
}

// P15.1: tickets that aren't right.
func TestWrongTickets(t *testing.T) {
	c, s := clientConfig(), serverConfig()
	w := talked(t, c, s, "")
	for _, x := range []struct {
		what  string
		b     []byte
		alert int
	}{
		{"no text", message(4), shake.Undecoded},
		{"a text that ends too soon", message(4, []byte{3, 1, 2}), shake.Undecoded},
		{"a byte left", message(4, []byte{1, 1, 2}), shake.Undecoded},
		{"a seal", w.seal, shake.Unexpected},
		{"a name", w.name, shake.Unexpected},
	} {
		refuses(t, x.what, behind(t, c, false, w.answer, w.flight()), 2, x.b, x.alert)
		m := behind(t, c, false, w.answer, w.flight())
		takes(t, m, 2, w.ticket)
		refuses(t, x.what+" behind a ticket", m, 2, x.b, x.alert)
	}
}

// P15.1: bytes at a level at which nothing is to come; none are no harm.
func TestLevels(t *testing.T) {
	c, s := clientConfig(), serverConfig()
	w := talked(t, c, s, "")
	r := withTicket(t)
	v := talked(t, r, s, r.Secret)
	half := w.answer[:20]
	for _, x := range []struct {
		what  string
		at    func() *shake.Machine
		level int // at which something is to come; 9: none
	}{
		{"a new server", func() *shake.Machine { return newServer(t, s) }, 0},
		{"a server behind the hello", func() *shake.Machine { return behind(t, s, true, w.hello) }, 1},
		{"a server that takes a ticket", func() *shake.Machine { return behind(t, s, true, v.hello) }, 1},
		{"a server that is done", func() *shake.Machine { return behind(t, s, true, w.hello, w.reply) }, 9},
		{"a new client", func() *shake.Machine { return newClient(t, c) }, 0},
		{"a client within the answer", func() *shake.Machine { return behind(t, c, false, half) }, 0},
		{"a client behind the answer", func() *shake.Machine { return behind(t, c, false, w.answer) }, 1},
		{"a client behind the speech", func() *shake.Machine { return behind(t, c, false, w.answer, w.speech) }, 1},
		{"a client behind the name", func() *shake.Machine { return behind(t, c, false, w.answer, w.speech, w.name) }, 1},
		{"a client behind the proof", func() *shake.Machine { return behind(t, c, false, w.answer, w.speech, w.name, w.proof) }, 1},
		{"a client that is done", func() *shake.Machine { return behind(t, c, false, w.answer, w.flight()) }, 2},
		{"a client with a ticket", func() *shake.Machine {
			m := behind(t, r, false, v.answer, v.flight())
			takes(t, m, 2, v.ticket)
			return m
		}, 2},
	} {
		for _, level := range []int{-1, 0, 1, 2, 3, math.MinInt, math.MaxInt} {
			m := x.at()
			was := of(m)
			takes(t, m, level, nil)
			takes(t, m, level, []byte{})
			if of(m) != was {
				t.Error(x.what, "changed by no bytes at", level)
			}
			if level == x.level {
				takes(t, m, level, []byte{1})
				continue
			}
			refuses(t, x.what, m, level, []byte{1}, shake.Unexpected)
		}
	}
}

// P15.1: bytes behind the last message of a level: the message is taken, and then the end gives up, as if they had come alone.
func TestLeftBehind(t *testing.T) {
	c, s := clientConfig(), serverConfig()
	w := talked(t, c, s, "")
	for _, x := range []struct {
		what   string
		at     func() *shake.Machine
		level  int
		b      []byte
		behind []byte
	}{
		{"the hello", func() *shake.Machine { return newServer(t, s) }, 0, w.hello, w.reply},
		{"the client's seal", func() *shake.Machine { return behind(t, s, true, w.hello) }, 1, w.reply, w.reply},
		{"the answer", func() *shake.Machine { return newClient(t, c) }, 0, w.answer, w.speech},
		{"the server's seal", func() *shake.Machine { return behind(t, c, false, w.answer) }, 1, w.flight(), w.ticket},
	} {
		for _, n := range []int{1, 4, len(x.behind)} {
			at, alone := x.at(), x.at()
			if a := at.Take(x.level, append(bytes.Clone(x.b), x.behind[:n]...)); a != shake.Unexpected {
				t.Error(x.what, n, a)
			}
			takes(t, alone, x.level, x.b)
			if a := alone.Take(x.level, x.behind[:n]); a != shake.Unexpected {
				t.Error(x.what, n, a)
			}
			if of(at) != of(alone) {
				t.Errorf("%s: it knows %#v, not %#v", x.what, of(at), of(alone))
			}
			gone(t, x.what, at, shake.Unexpected)
			gone(t, x.what, alone, shake.Unexpected)
		}
	}
	// What the message itself does wrong is told ahead of that.
	s.Protocol = "dot"
	refuses(t, "another Protocol, and a byte behind it", newServer(t, s), 0, append(bytes.Clone(w.hello), 1), shake.NoProtocol)
}

// P15.1: messages ahead of a wrong one, in the same bytes, are taken; none behind it is.
func TestAheadOfWrong(t *testing.T) {
	c, s := clientConfig(), serverConfig()
	w := talked(t, c, s, "")
	m := behind(t, c, false, w.answer)
	b := slices.Concat(w.speech, w.name, put(w.proof, 4, w.proof[4]^1), w.seal)
	refuses(t, "a wrong proof", m, 1, b, shake.BadProof)
	m = behind(t, c, false, w.answer)
	b = slices.Concat(w.speech, w.name, w.proof, w.seal, w.ticket)
	if a := m.Take(1, b); a != shake.Unexpected || !m.Done() {
		t.Error(a)
	}
	if _, _, ok := m.Ticket(); ok {
		t.Error("a ticket of level 1")
	}
}

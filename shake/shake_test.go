package shake_test

import (
	"bytes"
	"math"
	"math/rand"
	"strings"
	"testing"

	"rhyne/api"
	"rhyne/curve"
	"rhyne/shake"
)

// ownKey is the server's key.
var ownKey = [32]byte{5, 4, 3, 2, 1}

// row is 32 bytes, each another one than its neighbours.
func row(from byte) [32]byte {
	var b [32]byte
	for i := range b {
		b[i] = from + byte(i*7)
	}
	return b
}

// clientConfig is what a client brings that trusts the server.
func clientConfig() shake.Config {
	return shake.Config{Protocol: "doq", Params: "of the client", Random: row(1), Key: row(2), Own: curve.Public(ownKey)}
}

// serverConfig is what a server brings.
func serverConfig() shake.Config {
	return shake.Config{Protocol: "doq", Params: "of the server", Random: row(3), Key: row(4), Own: ownKey, Seal: "the seal's bytes"}
}

// withTicket is what a client brings that has a ticket of the server's.
func withTicket(t *testing.T) shake.Config {
	t.Helper()
	c, s := clientConfig(), serverConfig()
	c.Secret = "a secret that has thirty-two 1.."
	c.Ticket = sealedTicket(t, s.Seal, s.Protocol, []byte("nonce of 12."), c.Secret)
	return c
}

func newClient(t *testing.T, c shake.Config) *shake.Machine {
	t.Helper()
	m, e := shake.NewClient(c)
	if m == nil || e != api.OK {
		t.Fatal("NewClient", e)
	}
	return m
}

func newServer(t *testing.T, c shake.Config) *shake.Machine {
	t.Helper()
	m, e := shake.NewServer(c)
	if m == nil || e != api.OK {
		t.Fatal("NewServer", e)
	}
	return m
}

// says tells whether an end says some bytes at a level, once, and nothing at the others.
func says(t *testing.T, m *shake.Machine, level int, want []byte) {
	t.Helper()
	for _, l := range []int{-1, 3, math.MinInt, math.MaxInt} {
		if b := m.Say(l); len(b) != 0 {
			t.Errorf("Say(%d): %x", l, b)
		}
	}
	for l := range 3 {
		b := m.Say(l)
		if l == level && !bytes.Equal(b, want) {
			t.Errorf("Say(%d): %x, not %x", l, b, want)
		}
		if l != level && len(b) != 0 {
			t.Errorf("Say(%d): %x", l, b)
		}
		if b := m.Say(l); len(b) != 0 {
			t.Errorf("Say(%d) once more: %x", l, b)
		}
	}
}

// silent tells whether an end says nothing.
func silent(t *testing.T, m *shake.Machine) {
	t.Helper()
	says(t, m, 0, nil)
}

// takes tells whether bytes are taken.
func takes(t *testing.T, m *shake.Machine, level int, b []byte) {
	t.Helper()
	if a := m.Take(level, b); a != 0 {
		t.Errorf("Take(%d, %x): %d", level, b, a)
	}
}

// refuses tells whether an end gives up by an alert, for good, and knows no more than ahead of its last bytes.
func refuses(t *testing.T, what string, m *shake.Machine, level int, b []byte, alert int) {
	t.Helper()
	was := of(m)
	if a := m.Take(level, b); a != alert {
		t.Errorf("%s: %d, not %d", what, a, alert)
		return
	}
	if is := of(m); is != was {
		t.Errorf("%s: it knows %#v, not %#v", what, is, was)
	}
	gone(t, what, m, alert)
}

// gone tells whether an end gave up: it answers the alert whatever comes, and says nothing.
func gone(t *testing.T, what string, m *shake.Machine, alert int) {
	t.Helper()
	was := of(m)
	w := talked(t, clientConfig(), serverConfig(), "")
	for level := -1; level < 4; level++ {
		for _, b := range [][]byte{nil, {1}, w.hello, w.answer, w.flight(), w.reply, w.ticket} {
			if a := m.Take(level, b); a != alert {
				t.Errorf("%s, then Take(%d, %x): %d, not %d", what, level, b, a, alert)
			}
		}
	}
	silent(t, m)
	if is := of(m); is != was {
		t.Errorf("%s, then more: it knows %#v, not %#v", what, is, was)
	}
}

// known is all that an end answers of the talk.
type known struct {
	secrets       [3][2]string
	there         [3]bool
	done, resumed bool
	params        string
	peer          bool
	token, next   string
	came          bool
}

// of is what an end knows.
func of(m *shake.Machine) known {
	var k known
	for l := range 3 {
		k.secrets[l][0], k.secrets[l][1], k.there[l] = m.Secrets(l)
	}
	k.done, k.resumed = m.Done(), m.Resumed()
	k.params, k.peer = m.Peer()
	k.token, k.next, k.came = m.Ticket()
	return k
}

// knows tells whether an end knows just that.
func knows(t *testing.T, what string, m *shake.Machine, want known) {
	t.Helper()
	if got := of(m); got != want {
		t.Errorf("%s: it knows %#v, not %#v", what, got, want)
	}
	for _, l := range []int{-1, 3, math.MinInt, math.MaxInt} {
		if a, b, ok := m.Secrets(l); a != "" || b != "" || ok {
			t.Errorf("%s: Secrets(%d)", what, l)
		}
	}
}

// hand hands over all that two ends say, in pieces of a size, till they have nothing to say; the first alert. A size of 0 is drawn anew for each piece.
func hand(c, s *shake.Machine, size int) int {
	draw := rand.New(rand.NewSource(1))
	for range 4 {
		for level := range 3 {
			for _, x := range [][2]*shake.Machine{{c, s}, {s, c}} {
				for b := x[0].Say(level); len(b) > 0; {
					n := min(size, len(b))
					if size == 0 {
						n = draw.Intn(len(b) + 1)
					}
					if a := x[1].Take(level, b[:n]); a != 0 {
						return a
					}
					b = b[n:]
				}
			}
		}
	}
	return 0
}

// P15.1: what each end says and knows, step by step, without a ticket and with one that is taken, whatever size the texts' counts have.
func TestStepByStep(t *testing.T) {
	for _, c := range []shake.Config{clientConfig(), withTicket(t)} {
		for _, size := range []int{0, 1, 2, 4, 8} {
			s := serverConfig()
			stepClient(t, c, s, talkedIn(t, c, s, c.Secret, 0, size))
			stepServer(t, c, s, talkedIn(t, c, s, c.Secret, size, 0))
		}
	}
}

// stepServer is a server's talk with the words that are to be said.
func stepServer(t *testing.T, c, s shake.Config, w words) {
	t.Helper()
	m := newServer(t, s)
	knows(t, "a new server", m, known{})
	silent(t, m)
	takes(t, m, 0, w.hello)
	k := known{resumed: c.Secret != "", params: c.Params, peer: true}
	k.secrets[1], k.secrets[2] = w.level1, w.level2
	k.there[1], k.there[2] = true, true
	knows(t, "a server behind the hello", m, k)
	if b := m.Say(0); !bytes.Equal(b, w.answer) {
		t.Errorf("the answer: %x, not %x", b, w.answer)
	}
	says(t, m, 1, w.flight())
	takes(t, m, 1, w.reply)
	k.done = true
	knows(t, "a server behind the client's seal", m, k)
	says(t, m, 2, w.ticket)
}

// stepClient is a client's talk with the words that are to be said.
func stepClient(t *testing.T, c, s shake.Config, w words) {
	t.Helper()
	m := newClient(t, c)
	knows(t, "a new client", m, known{})
	says(t, m, 0, w.hello)
	takes(t, m, 0, w.answer)
	k := known{resumed: c.Secret != ""}
	k.secrets[1], k.there[1] = w.level1, true
	knows(t, "a client behind the answer", m, k)
	for _, b := range [][]byte{w.speech, w.name, w.proof} {
		takes(t, m, 1, b)
		knows(t, "a client ahead of the server's seal", m, k)
		silent(t, m)
	}
	takes(t, m, 1, w.seal)
	k.secrets[2], k.there[2] = w.level2, true
	k.done, k.params, k.peer = true, s.Params, true
	knows(t, "a client behind the server's seal", m, k)
	says(t, m, 1, w.reply)
	takes(t, m, 2, w.ticket)
	k.token, k.next, k.came = w.token, w.next, true
	knows(t, "a client behind the ticket", m, k)
	silent(t, m)
}

// P15.1: what an end may bring, in limits, and what doesn't count.
func TestConfigs(t *testing.T) {
	long := func(n int) string { return strings.Repeat("x", n) }
	for _, x := range []struct {
		what           string
		change         func(*shake.Config)
		client, server api.Errno
	}{
		{"nothing changed", func(c *shake.Config) {}, api.OK, api.OK},
		{"no Protocol", func(c *shake.Config) { c.Protocol = "" }, api.ErrForm, api.ErrForm},
		{"the least Protocol", func(c *shake.Config) { c.Protocol = "x" }, api.OK, api.OK},
		{"the longest Protocol", func(c *shake.Config) { c.Protocol = long(255) }, api.OK, api.OK},
		{"a longer Protocol", func(c *shake.Config) { c.Protocol = long(256) }, api.ErrForm, api.ErrForm},
		{"no Params", func(c *shake.Config) { c.Params = "" }, api.OK, api.OK},
		{"the longest Params", func(c *shake.Config) { c.Params = long(1000) }, api.OK, api.OK},
		{"longer Params", func(c *shake.Config) { c.Params = long(1001) }, api.ErrForm, api.ErrForm},
		{"the shortest Ticket", func(c *shake.Config) { c.Ticket, c.Secret = "x", long(32) }, api.OK, api.OK},
		{"the longest Ticket", func(c *shake.Config) { c.Ticket, c.Secret = long(200), long(32) }, api.OK, api.OK},
		{"a longer Ticket", func(c *shake.Config) { c.Ticket, c.Secret = long(201), long(32) }, api.ErrForm, api.OK},
		{"a Ticket alone", func(c *shake.Config) { c.Ticket = "x" }, api.ErrForm, api.OK},
		{"a Secret alone", func(c *shake.Config) { c.Secret = long(32) }, api.ErrForm, api.OK},
		{"a Secret of 31", func(c *shake.Config) { c.Ticket, c.Secret = "x", long(31) }, api.ErrForm, api.OK},
		{"a Secret of 33", func(c *shake.Config) { c.Ticket, c.Secret = "x", long(33) }, api.ErrForm, api.OK},
		{"a Secret of 64", func(c *shake.Config) { c.Ticket, c.Secret = "x", long(64) }, api.ErrForm, api.OK},
		{"no Seal", func(c *shake.Config) { c.Seal = "" }, api.OK, api.ErrForm},
		{"a Seal of 15", func(c *shake.Config) { c.Seal = long(15) }, api.OK, api.ErrForm},
		{"a Seal of 17", func(c *shake.Config) { c.Seal = long(17) }, api.OK, api.ErrForm},
		{"a Seal of 32", func(c *shake.Config) { c.Seal = long(32) }, api.OK, api.ErrForm},
		{"keys of noughts", func(c *shake.Config) { c.Key, c.Own, c.Random = [32]byte{}, [32]byte{}, [32]byte{} }, api.OK, api.OK},
	} {
		c := serverConfig()
		x.change(&c)
		if m, e := shake.NewClient(c); e != x.client || (m == nil) != (e != api.OK) {
			t.Error("a client:", x.what, e)
		}
		if m, e := shake.NewServer(c); e != x.server || (m == nil) != (e != api.OK) {
			t.Error("a server:", x.what, e)
		}
	}
	// A server's Ticket and Secret change nothing that it says.
	one, two := serverConfig(), serverConfig()
	two.Ticket, two.Secret = withTicket(t).Ticket, withTicket(t).Secret
	w := talked(t, clientConfig(), serverConfig(), "")
	for _, s := range []shake.Config{one, two} {
		m := newServer(t, s)
		takes(t, m, 0, w.hello)
		if a, b := m.Say(0), m.Say(1); !bytes.Equal(a, w.answer) || !bytes.Equal(b, w.flight()) {
			t.Errorf("%x, %x", a, b)
		}
	}
	// Nor does a client's Seal.
	sealed := clientConfig()
	sealed.Seal = "x"
	says(t, newClient(t, sealed), 0, w.hello)
}

// P15.2, P2: in pieces of any size both ends are done, and have the same secrets; by each talk's ticket the next one is resumed.
func TestPieces(t *testing.T) {
	long := strings.Repeat("x", 1000)
	for _, texts := range [][3]string{{"doq", "a", "b"}, {"x", "", ""}, {long[:255], long, long}} {
		for _, size := range []int{0, 1, 2, 3, 4, 5, 7, 36, 64, 1000, 100000} {
			c, s := clientConfig(), serverConfig()
			c.Protocol, s.Protocol, c.Params, s.Params = texts[0], texts[0], texts[1], texts[2]
			for turn := range 4 {
				c.Random[0], s.Random[0] = byte(turn), byte(turn+100)
				c.Key[3], s.Key[3] = byte(turn), byte(turn+50)
				a, b := newClient(t, c), newServer(t, s)
				if alert := hand(a, b, size); alert != 0 {
					t.Fatal(size, turn, alert)
				}
				c.Ticket, c.Secret = both(t, a, b, texts, turn > 0)
			}
		}
	}
}

// both tells whether two ends are done and know the same; the ticket, and its secret.
func both(t *testing.T, a, b *shake.Machine, texts [3]string, resumed bool) (string, string) {
	t.Helper()
	j, k := of(a), of(b)
	if j.secrets != k.secrets || j.there != [3]bool{false, true, true} || k.there != j.there {
		t.Error("the secrets:", j, k)
	}
	seen := map[string]struct{}{}
	for _, p := range [][2]string{j.secrets[1], j.secrets[2], {j.next}} {
		for _, s := range p {
			seen[s] = struct{}{}
		}
	}
	if len(seen) != 6 || len(j.secrets[1][0]) != 32 || len(j.next) != 32 {
		t.Error("the secrets aren't five of 32 bytes:", seen)
	}
	if !j.done || !k.done || j.resumed != resumed || k.resumed != resumed {
		t.Error(j, k)
	}
	if !j.peer || !k.peer || j.params != texts[2] || k.params != texts[1] {
		t.Error("Peer:", j, k)
	}
	if !j.came || k.came || len(j.token) != 60 {
		t.Error("Ticket:", j, k)
	}
	return j.token, j.next
}

// P15.1: tickets that are taken, and those that aren't: the talk goes on without them.
func TestTickets(t *testing.T) {
	good, s := withTicket(t), serverConfig()
	nonce := []byte("nonce of 12.")
	secret := func(n int) string { return strings.Repeat("s", n) }
	for _, x := range []struct {
		what, ticket string
		taken        bool
	}{
		{"the server's", good.Ticket, true},
		{"another nonce", sealedTicket(t, s.Seal, s.Protocol, make([]byte, 12), good.Secret), true},
		{"another key", sealedTicket(t, "the seal's bytez", s.Protocol, nonce, good.Secret), false},
		{"another Protocol", sealedTicket(t, s.Seal, "dop", nonce, good.Secret), false},
		{"no Protocol", sealedTicket(t, s.Seal, "", nonce, good.Secret), false},
		{"no secret", sealedTicket(t, s.Seal, s.Protocol, nonce, ""), false},
		{"a secret of 31", sealedTicket(t, s.Seal, s.Protocol, nonce, secret(31)), false},
		{"a secret of 33", sealedTicket(t, s.Seal, s.Protocol, nonce, secret(33)), false},
		{"one byte less", good.Ticket[:59], false},
		{"one byte more", good.Ticket + "x", false},
		{"a nonce alone", good.Ticket[:12], false},
		{"a nonce and a seal's bytes", good.Ticket[:28], false},
		{"less than a nonce", good.Ticket[:11], false},
		{"a byte", "x", false},
		{"the longest", strings.Repeat("x", 200), false},
	} {
		c := good
		c.Ticket = x.ticket
		a, b := newClient(t, c), newServer(t, s)
		if alert := hand(a, b, 99); alert != 0 || !a.Done() || !b.Done() {
			t.Error(x.what, alert)
		}
		if a.Resumed() != x.taken || b.Resumed() != x.taken {
			t.Error(x.what, a.Resumed())
		}
		if x.taken {
			continue
		}
		w := talked(t, c, s, "")
		b = newServer(t, s)
		takes(t, b, 0, w.hello)
		if one, two := b.Say(0), b.Say(1); !bytes.Equal(one, w.answer) || !bytes.Equal(two, w.flight()) {
			t.Errorf("%s: %x, %x", x.what, one, two)
		}
	}
	for i := range good.Ticket {
		b := []byte(good.Ticket)
		b[i] ^= 1
		c := good
		c.Ticket = string(b)
		m := newServer(t, s)
		takes(t, m, 0, newClient(t, c).Say(0))
		if m.Resumed() {
			t.Error("a ticket with another byte", i)
		}
	}
}

// P15.1: a ticket whose secret isn't the client's: the server's seal doesn't fit.
func TestTicketOfAnotherSecret(t *testing.T) {
	c := withTicket(t)
	c.Secret = strings.Repeat("z", 32)
	a, b := newClient(t, c), newServer(t, serverConfig())
	if alert := hand(a, b, 99); alert != shake.Undecrypt || a.Done() || b.Done() {
		t.Error(alert)
	}
}

// P15.1: several tickets: the last one counts, whatever bytes it has.
func TestSeveralTickets(t *testing.T) {
	c, s := clientConfig(), serverConfig()
	w := talked(t, c, s, "")
	m := newClient(t, c)
	takes(t, m, 0, w.answer)
	takes(t, m, 1, w.flight())
	if _, _, ok := m.Ticket(); ok {
		t.Error("a ticket ahead of any")
	}
	longest := strings.Repeat("y", 1998)
	var b []byte
	for _, ticket := range []string{"one", "", longest, "x"} {
		b = message(4, countIn(0)(ticket))
		takes(t, m, 2, b)
		if got, secret, ok := m.Ticket(); got != ticket || secret != w.next || !ok {
			t.Errorf("%q: %q, %x", ticket, got, secret)
		}
	}
	for _, size := range []int{1, 2, 4, 8} {
		b = append(b, message(4, countIn(size)("a ticket"))...)
	}
	for i := range b {
		takes(t, m, 2, b[i:i+1])
	}
	if got, _, ok := m.Ticket(); got != "a ticket" || !ok {
		t.Errorf("%q", got)
	}
	// Those ahead of a wrong one in the same bytes are taken.
	b = append(message(4, countIn(0)("the last")), message(4, countIn(0)("left"), []byte{1})...)
	b = append(b, message(4, countIn(0)("behind it"))...)
	if a := m.Take(2, b); a != shake.Undecoded {
		t.Error(a)
	}
	if got, secret, ok := m.Ticket(); got != "the last" || secret != w.next || !ok || !m.Done() {
		t.Errorf("%q, %x", got, secret)
	}
	gone(t, "a wrong ticket", m, shake.Undecoded)
}

// P15.3: with another byte in what the server says of level 1, a client is never done, with a ticket and without.
func TestChangedBytes(t *testing.T) {
	draw := rand.New(rand.NewSource(15))
	for _, c := range []shake.Config{clientConfig(), withTicket(t)} {
		w := talked(t, c, serverConfig(), c.Secret)
		flight := w.flight()
		for i := range flight {
			for _, by := range []byte{1, 2, 4, 8, 16, 32, 64, 128, 255, byte(1 + draw.Intn(255))} {
				b := bytes.Clone(flight)
				b[i] ^= by
				m := newClient(t, c)
				takes(t, m, 0, w.answer)
				m.Take(1, b)
				if m.Take(2, w.ticket); m.Done() {
					t.Fatal("done, with byte", i, "changed by", by)
				}
			}
		}
		for i := range w.answer {
			b := bytes.Clone(w.answer)
			b[i] ^= 1
			m := newClient(t, c)
			m.Take(0, b)
			if m.Take(1, flight); m.Done() {
				t.Error("done, with the answer's byte", i, "changed")
			}
		}
	}
}

// P15.1, P2: with another byte in what the client says, or another key, the ends aren't both done.
func TestChangedClient(t *testing.T) {
	c, s := clientConfig(), serverConfig()
	w := talked(t, c, s, "")
	for i := range w.hello {
		b := bytes.Clone(w.hello)
		b[i] ^= 1
		m, a := newServer(t, s), newClient(t, c)
		m.Take(0, b)
		a.Take(0, m.Say(0))
		a.Take(1, m.Say(1))
		if a.Done() {
			t.Error("done, with the hello's byte", i, "changed")
		}
	}
	for i := range w.reply {
		b := bytes.Clone(w.reply)
		b[i] ^= 1
		m := newServer(t, s)
		takes(t, m, 0, w.hello)
		if m.Take(1, b); m.Done() || len(m.Say(2)) != 0 {
			t.Error("done, with the seal's byte", i, "changed")
		}
	}
	s.Own[5] ^= 1
	a, b := newClient(t, c), newServer(t, s)
	if alert := hand(a, b, 99); alert != shake.BadProof || a.Done() || b.Done() {
		t.Error(alert)
	}
}

// P15.4: what is handed in isn't kept or changed, nor its spare room; what is answered is new memory.
func TestMemory(t *testing.T) {
	c, s := clientConfig(), serverConfig()
	w := talked(t, c, s, "")
	used := func(m *shake.Machine, level int, b []byte) {
		t.Helper()
		for _, part := range [][]byte{b[:len(b)/2], b[len(b)/2:]} {
			full := append(bytes.Clone(part), strings.Repeat("\xee", 100)...)
			was := string(full)
			takes(t, m, level, full[:len(part)])
			if string(full) != was {
				t.Errorf("Take(%d) changes what it is given", level)
			}
			for i := range full {
				full[i] = 0xdd
			}
		}
	}
	spoiled := func(m *shake.Machine, level int, want []byte) {
		t.Helper()
		b := m.Say(level)
		if !bytes.Equal(b, want) {
			t.Errorf("Say(%d): %x", level, b)
		}
		b = b[:cap(b)]
		for i := range b {
			b[i] = 0xcc
		}
	}
	a, b := newClient(t, c), newServer(t, s)
	spoiled(a, 0, w.hello)
	used(b, 0, w.hello)
	spoiled(b, 0, w.answer)
	used(a, 0, w.answer)
	spoiled(b, 1, w.flight())
	used(a, 1, w.flight())
	spoiled(a, 1, w.reply)
	used(b, 1, w.reply)
	spoiled(b, 2, w.ticket)
	used(a, 2, w.ticket)
	if token, next, ok := a.Ticket(); token != w.token || next != w.next || !ok {
		t.Errorf("%x, %x", token, next)
	}
	if !a.Done() || !b.Done() {
		t.Error("not done")
	}
}

// P15.1: Say's bytes may be asked for at any time: what wasn't answered yet stands ahead of what is said next.
func TestSayLate(t *testing.T) {
	c, s := clientConfig(), serverConfig()
	w := talked(t, c, s, "")
	a, b := newClient(t, c), newServer(t, s)
	takes(t, a, 0, w.answer)
	takes(t, a, 1, w.flight())
	takes(t, a, 2, w.ticket)
	takes(t, b, 0, w.hello)
	takes(t, b, 1, w.reply)
	for _, x := range []struct {
		m     *shake.Machine
		level int
		want  []byte
	}{{a, 1, w.reply}, {a, 0, w.hello}, {b, 2, w.ticket}, {b, 1, w.flight()}, {b, 0, w.answer}} {
		if got := x.m.Say(x.level); !bytes.Equal(got, x.want) {
			t.Errorf("Say(%d): %x", x.level, got)
		}
	}
	silent(t, a)
	silent(t, b)
}

// P1: a nil machine, and one that is none.
func TestNilMachine(t *testing.T) {
	for _, m := range []*shake.Machine{nil, {}} {
		for level := -1; level < 4; level++ {
			for _, b := range [][]byte{nil, {}, {1}, message(1)} {
				if a := m.Take(level, b); a != shake.Unexpected {
					t.Error("Take", a)
				}
			}
			if b := m.Say(level); len(b) != 0 {
				t.Errorf("Say: %x", b)
			}
		}
		knows(t, "no machine", m, known{})
	}
}

// P1: whatever comes, in whatever order, each call ends, and a wrong word is told for good.
func TestAnyBytes(t *testing.T) {
	c, s := clientConfig(), serverConfig()
	w := talked(t, c, s, "")
	real := [][]byte{w.hello, w.answer, w.speech, w.name, w.proof, w.seal, w.reply, w.ticket, w.flight()}
	for seed := range 3000 {
		draw := rand.New(rand.NewSource(int64(seed)))
		m := newServer(t, s)
		if seed%2 == 0 {
			m = newClient(t, c)
		}
		alert := 0
		for range 12 {
			b := bytes.Clone(real[draw.Intn(len(real))])
			switch draw.Intn(4) {
			case 0:
				b[draw.Intn(len(b))] = byte(draw.Intn(256))
			case 1:
				b = b[draw.Intn(len(b)):]
			case 2:
				b = make([]byte, draw.Intn(50))
				draw.Read(b)
			}
			a := m.Take(draw.Intn(5)-1, b)
			if alert != 0 && a != alert {
				t.Fatal("another alert:", a, "behind", alert)
			}
			alert = a
			if b := m.Say(draw.Intn(3)); alert != 0 && len(b) != 0 {
				t.Fatal("it says, though it gave up")
			}
			of(m)
		}
	}
}

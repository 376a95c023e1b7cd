package conn_test

import (
	"slices"
	"testing"

	"rhyne/api"
	"rhyne/conn"
	"rhyne/curve"
	"rhyne/frames"
	"rhyne/guard"
	"rhyne/packet"
	"rhyne/ranges"
	"rhyne/shake"
	"rhyne/stream"
	"rhyne/vlq"
)

const first = "firstcall"

// own is the server's key.
var own = [32]byte{9}

// clientConfig and serverConfig are two ends that trust each other.
func clientConfig(window, streams int) conn.Config {
	talk := shake.Config{Protocol: "doq", Params: "no matter", Random: [32]byte{1}, Key: [32]byte{2}, Own: curve.Public(own)}
	return conn.Config{Shake: talk, Name: "client-1", Window: window, Streams: streams}
}

func serverConfig(window, streams int) conn.Config {
	talk := shake.Config{Protocol: "doq", Params: "no matter", Random: [32]byte{3}, Key: [32]byte{4}, Own: own, Seal: "0123456789abcdef"}
	return conn.Config{Shake: talk, Name: "server-1", Window: window, Streams: streams}
}

func dial(t *testing.T, c conn.Config) *conn.Conn {
	t.Helper()
	a, e := conn.Dial(c, first, 0)
	if e != api.OK {
		t.Fatal("Dial", e)
	}
	return a
}

func accept(t *testing.T, c conn.Config) *conn.Conn {
	t.Helper()
	b, e := conn.Accept(c, first, "client-1", 0)
	if e != api.OK {
		t.Fatal("Accept", e)
	}
	return b
}

// params are what an end tells of its window and its streams.
func params(t *testing.T, l ...int) string {
	t.Helper()
	b, e := vlq.List(slices.Values(l))
	if e != api.OK {
		t.Fatal(e)
	}
	return string(b)
}

// hand is an end that is made by hand of the layers below: it says whatever a test wants, and looks at the form of all that it hears.
type hand struct {
	t          *testing.T
	server     bool
	talk       *shake.Machine
	own, peer  string
	open, seal [3]guard.Keys
	keyed      [3]bool
	next, off  [3]int
	best       [3]int
	came       [3]*ranges.Set[int]
	in         [3]*stream.Recv
	heard      [3][]frames.Frame
	alert      int
}

// newHand is such an end, that tells those params.
func newHand(t *testing.T, server bool, says string) *hand {
	t.Helper()
	h := &hand{t: t, server: server, own: "client-1", peer: first, best: [3]int{-1, -1, -1}}
	var e api.Errno
	if server {
		c := serverConfig(2000, 3).Shake
		c.Params = says
		h.own, h.peer = "server-1", "client-1"
		h.talk, e = shake.NewServer(c)
	} else {
		c := clientConfig(2000, 3).Shake
		c.Params = says
		h.talk, e = shake.NewClient(c)
	}
	if e != api.OK {
		t.Fatal(e)
	}
	for level := range 3 {
		h.in[level], _ = stream.NewRecv(api.MaxWindow)
		h.came[level], _ = ranges.New[int](api.MaxRanges)
	}
	client, srv, _ := guard.First(first)
	h.key(0, client, srv)
	return h
}

func (h *hand) key(level int, client, server string) {
	a, e := guard.Of(client)
	b, f := guard.Of(server)
	if e != api.OK || f != api.OK {
		h.t.Fatal(e, f)
	}
	h.keyed[level], h.seal[level], h.open[level] = true, a, b
	if h.server {
		h.seal[level], h.open[level] = b, a
	}
}

// levelOf is the level of packets of a kind.
func levelOf(t *testing.T, kind int) int {
	t.Helper()
	switch kind {
	case packet.Initial:
		return 0
	case packet.Handshake:
		return 1
	case packet.Short:
		return 2
	}
	t.Fatal("kind", kind)
	return 0
}

// hear takes datagrams, and tells what they carried that is new.
func (h *hand) hear(l ...[]byte) []frames.Frame {
	h.t.Helper()
	var out []frames.Frame
	for _, d := range l {
		if len(d) == 0 || len(d) > 1200 {
			h.t.Error("a datagram of", len(d))
		}
		last, whole := -1, len(d)
		for len(d) > 0 {
			x, at, end, e := packet.Get(d, 8)
			if e != api.OK {
				h.t.Fatal("Get", e)
			}
			level := levelOf(h.t, x.Kind)
			called := x.Dst == h.own || h.server && h.next[0] == 0 && x.Dst == first // a client knows the server's name by its first answer
			if level <= last || !called || x.Kind != packet.Short && (x.Src == "" || x.Version != 1) || x.Token != "" {
				h.t.Error("head", x, last)
			}
			if level == 0 && h.server && whole != 1200 {
				h.t.Error("a first datagram of", whole)
			}
			last = level
			if x.Kind != packet.Short {
				h.peer = x.Src
			}
			out = append(out, h.hearPacket(level, d[:end], at)...)
			d = d[end:]
		}
	}
	return out
}

func (h *hand) hearPacket(level int, b []byte, at int) []frames.Frame {
	h.t.Helper()
	if !h.keyed[level] {
		return nil
	}
	head, n, carries, e := guard.Open(h.open[level], b, at, h.best[level]+1)
	if e != api.OK {
		h.t.Error("Open", level, e)
		return nil
	}
	if head[0]&0x0c != 0 {
		h.t.Errorf("head %x", head)
	}
	if h.came[level].Has(n) {
		return nil
	}
	h.came[level].Add(n, n)
	h.best[level] = max(h.best[level], n)
	l, e := frames.All(carries)
	if e != api.OK {
		h.t.Error("All", e)
	}
	h.heard[level] = append(h.heard[level], l...)
	for _, f := range l {
		if f.Kind == frames.Crypto {
			h.in[level].Take(stream.Piece{Off: f.Off, Data: f.Data})
		}
	}
	if said, _, _ := h.in[level].Read(1 << 20); said != "" {
		h.alert = h.talk.Take(level, []byte(said))
	}
	for level := 1; level < 3; level++ {
		if client, server, ok := h.talk.Secrets(level); ok && !h.keyed[level] {
			h.key(level, client, server)
		}
	}
	return l
}

// raw is a packet that carries any bytes.
func (h *hand) raw(level int, carries []byte) []byte {
	h.t.Helper()
	return h.rawAs(level, h.next[level], carries)
}

// rawAs is raw, by a number.
func (h *hand) rawAs(level, number int, carries []byte) []byte {
	h.t.Helper()
	x := packet.Header{Kind: packet.Initial, Version: 1, Dst: h.peer, Src: h.own, Length: 4 + len(carries) + 16, Number: number, Size: 4}
	switch level {
	case 1:
		x.Kind = packet.Handshake
	case 2:
		x.Kind, x.Version, x.Src, x.Length = packet.Short, 0, "", 0
	}
	head, e := packet.Put(x)
	if e != api.OK {
		h.t.Fatal("Put", e)
	}
	b, e := guard.Seal(h.seal[level], head, 4, number, carries)
	if e != api.OK {
		h.t.Fatal("Seal", e)
	}
	h.next[level] = max(h.next[level], number+1)
	return b
}

// says is a packet of frames.
func (h *hand) says(level int, l ...frames.Frame) []byte {
	h.t.Helper()
	var carries []byte
	for _, f := range l {
		b, e := frames.Put(f)
		if e != api.OK {
			h.t.Fatal("Put", e)
		}
		carries = append(carries, b...)
	}
	return h.raw(level, carries)
}

// ack tells all that came at a level.
func (h *hand) ack(level int) frames.Frame {
	f := frames.Frame{Kind: frames.Ack}
	for from, to := range h.came[level].Down() {
		f.Acks = append(f.Acks, frames.Span{From: from, To: to})
	}
	return f
}

// flight is a datagram of what the talk says now, and of what came, at each level.
func (h *hand) flight() []byte {
	h.t.Helper()
	var out []byte
	for level := range 3 {
		var l []frames.Frame
		if h.best[level] >= 0 {
			l = append(l, h.ack(level))
		}
		if b := h.talk.Say(level); len(b) > 0 {
			l = append(l, frames.Frame{Kind: frames.Crypto, Off: h.off[level], Data: string(b)})
			h.off[level] += len(b)
		}
		if len(l) > 0 && level == 0 && !h.server {
			l = append(l, frames.Frame{Kind: frames.Padding, N: 800})
		}
		if len(l) > 0 && h.keyed[level] {
			out = append(out, h.says(level, l...)...)
		}
	}
	return out
}

// asking are the kinds of frames that ask for an answer.
func asking(l []frames.Frame) []int {
	var out []int
	for _, f := range l {
		if frames.Asks(f) {
			out = append(out, f.Kind)
		}
	}
	return out
}

// only are the frames of a kind.
func only(l []frames.Frame, kind int) []frames.Frame {
	return slices.DeleteFunc(slices.Clone(l), func(f frames.Frame) bool { return f.Kind != kind })
}

// toServer is a server and a client made by hand, whose talk is done.
func toServer(t *testing.T, window, streams int) (*conn.Conn, *hand) {
	t.Helper()
	b, h := accept(t, serverConfig(window, streams)), newHand(t, false, params(t, window, window, streams))
	if !b.Take(h.flight(), 0) {
		t.Fatal("hello")
	}
	h.hear(b.Send(0)...)
	if !b.Take(h.flight(), 0) || !b.Ready() {
		t.Fatal("seal")
	}
	h.hear(b.Send(0)...)
	b.Take(h.flight(), 0)
	if l := b.Send(0); len(l) != 0 {
		t.Fatal("not quiet", len(l))
	}
	return b, h
}

// toClient is a client and a server made by hand, whose talk is done.
func toClient(t *testing.T, window, streams int) (*conn.Conn, *hand) {
	t.Helper()
	a, h := dial(t, clientConfig(window, streams)), newHand(t, true, params(t, window, window, streams))
	h.hear(a.Send(0)...)
	if !a.Take(h.flight(), 0) {
		t.Fatal("answer")
	}
	h.hear(a.Send(0)...)
	if !a.Take(h.flight(), 0) || a.Ready() {
		t.Fatal("ticket")
	}
	if !a.Take(h.says(2, frames.Frame{Kind: frames.Done}), 0) || !a.Ready() {
		t.Fatal("Done")
	}
	h.hear(a.Send(0)...)
	a.Take(h.flight(), 0)
	if l := a.Send(0); len(l) != 0 {
		t.Fatal("not quiet", len(l))
	}
	return a, h
}

// sealHead is a packet of a head that ends in four noughts, its number, by the keys of level 0.
func (h *hand) sealHead(head, carries []byte) ([]byte, api.Errno) {
	return guard.Seal(h.seal[0], head, 4, 0, carries)
}

package conn_test

import (
	"math/rand"
	"slices"
	"strings"
	"testing"

	"rhyne/api"
	"rhyne/conn"
	"rhyne/frames"
	"rhyne/packet"
	"rhyne/shake"
)

// piece is a Stream frame.
func piece(id, off int, data string, fin bool) frames.Frame {
	return frames.Frame{Kind: frames.Stream, Stream: id, Off: off, Data: data, Fin: fin}
}

// told tells whether an end is over for what the other end did, and says so once, at each of some levels.
func told(t *testing.T, what string, c *conn.Conn, h *hand, code int, levels ...int) {
	t.Helper()
	if got, byPeer, over := c.Closed(); got != code || byPeer || !over {
		t.Error(what, got, byPeer, over)
		return
	}
	for level := range h.heard {
		h.heard[level] = nil
	}
	l := c.Send(0)
	if len(l) != 1 || len(c.Send(9999)) != 0 {
		t.Error(what, "told", len(l))
		return
	}
	h.hear(l...)
	for level := range h.heard {
		closes := only(h.heard[level], frames.Close)
		if !slices.Contains(levels, level) {
			if len(h.heard[level]) != 0 {
				t.Error(what, level, h.heard[level])
			}
			continue
		}
		if len(closes) != 1 || closes[0].Code != code {
			t.Error(what, level, h.heard[level])
		}
	}
}

// fresh tells whether an end is not over.
func fresh(t *testing.T, what string, c *conn.Conn) {
	t.Helper()
	if code, byPeer, over := c.Closed(); code != 0 || byPeer || over {
		t.Error(what, code, byPeer, over)
	}
}

// P16.5: wrong frames at level 2, of a client and of a server: the code of each.
func TestWrongFrames(t *testing.T) {
	long := strings.Repeat("x", 800)
	for what, x := range map[string]struct {
		l      []frames.Frame
		code   int
		server bool // whether it is a server that does so
	}{
		"more than a stream's":         {l: []frames.Frame{piece(0, 1999, "xx", false)}, code: conn.Flow},
		"much more than a stream's":    {l: []frames.Frame{piece(0, 1<<61, "x", false)}, code: conn.Flow},
		"an end beyond a stream's":     {l: []frames.Frame{piece(0, 2001, "", true)}, code: conn.Flow},
		"no bytes beyond a stream's":   {l: []frames.Frame{piece(0, 1<<50, "", false)}, code: conn.Flow},
		"more than all may have":       {l: []frames.Frame{piece(0, 1200, "x", false), piece(4, 790, long[:10], false)}, code: conn.Flow},
		"a reset beyond a stream's":    {l: []frames.Frame{{Kind: frames.Reset, Stream: 0, Off: 2001}}, code: conn.Flow},
		"a reset far beyond":           {l: []frames.Frame{{Kind: frames.Reset, Stream: 0, Off: 1<<62 - 1}}, code: conn.Flow},
		"a reset, and all may have":    {l: []frames.Frame{piece(0, 1200, "x", false), {Kind: frames.Reset, Stream: 4, Off: 800}}, code: conn.Flow},
		"a fourth stream":              {l: []frames.Frame{piece(12, 0, "", false)}, code: conn.Limit},
		"a far stream":                 {l: []frames.Frame{piece(1<<62-4, 0, "x", false)}, code: conn.Limit},
		"a fourth stream's reset":      {l: []frames.Frame{{Kind: frames.Reset, Stream: 12}}, code: conn.Limit},
		"a fourth stream's stop":       {l: []frames.Frame{{Kind: frames.Stop, Stream: 12}}, code: conn.Limit},
		"a fourth stream's limit":      {l: []frames.Frame{{Kind: frames.MaxStream, Stream: 12, N: 1}}, code: conn.Limit},
		"a fourth stream that's stuck": {l: []frames.Frame{{Kind: frames.StreamStuck, Stream: 12}}, code: conn.Limit},
		"bytes beyond the end":         {l: []frames.Frame{piece(0, 0, "abc", true), piece(0, 3, "d", false)}, code: conn.FinalSize},
		"bytes far beyond the end":     {l: []frames.Frame{piece(0, 0, "abc", true), piece(0, 1<<60, "d", false)}, code: conn.FinalSize},
		"an end ahead of bytes":        {l: []frames.Frame{piece(0, 5, "abc", false), piece(0, 0, "abc", true)}, code: conn.FinalSize},
		"another end":                  {l: []frames.Frame{piece(0, 0, "abc", true), piece(0, 0, "ab", true)}, code: conn.FinalSize},
		"a reset at another end":       {l: []frames.Frame{piece(0, 0, "abc", true), {Kind: frames.Reset, Stream: 0, Off: 4}}, code: conn.FinalSize},
		"a reset ahead of bytes":       {l: []frames.Frame{piece(0, 0, "abc", false), {Kind: frames.Reset, Stream: 0, Off: 2}}, code: conn.FinalSize},
		"a stream that wasn't opened":  {l: []frames.Frame{piece(1, 0, "x", false)}, code: conn.State},
		"one far off":                  {l: []frames.Frame{piece(1<<62-3, 0, "x", false)}, code: conn.State},
		"its reset":                    {l: []frames.Frame{{Kind: frames.Reset, Stream: 1}}, code: conn.State},
		"its stop":                     {l: []frames.Frame{{Kind: frames.Stop, Stream: 1}}, code: conn.State},
		"its limit":                    {l: []frames.Frame{{Kind: frames.MaxStream, Stream: 5, N: 9}}, code: conn.State},
		"it is stuck":                  {l: []frames.Frame{{Kind: frames.StreamStuck, Stream: 1, N: 9}}, code: conn.State},
		"one direction":                {l: []frames.Frame{piece(2, 0, "x", false)}, code: conn.Protocol},
		"one direction, back":          {l: []frames.Frame{{Kind: frames.MaxStream, Stream: 3}}, code: conn.Protocol},
		"one direction, far off":       {l: []frames.Frame{{Kind: frames.Stop, Stream: 1<<62 - 1}}, code: conn.Protocol},
		"an Ack of nothing":            {l: []frames.Frame{{Kind: frames.Ack, Acks: []frames.Span{{From: 9, To: 9}}}}, code: conn.Protocol},
		"an Ack of all":                {l: []frames.Frame{{Kind: frames.Ack, Acks: []frames.Span{{From: 0, To: 1<<62 - 1}}}}, code: conn.Protocol},
		"Done of a client":             {l: []frames.Frame{{Kind: frames.Done}}, code: conn.Protocol},
		"Token of a client":            {l: []frames.Frame{{Kind: frames.Token, Data: "x"}}, code: conn.Protocol},
		"the talk goes on":             {l: []frames.Frame{{Kind: frames.Crypto, Data: "x"}}, code: conn.CryptoErr + shake.Unexpected},
		"the talk goes far":            {l: []frames.Frame{{Kind: frames.Crypto, Off: 65536, Data: "x"}}, code: conn.Flow},
		"the talk goes on far":         {l: []frames.Frame{{Kind: frames.Crypto, Off: 1 << 61, Data: "x"}}, code: conn.Flow},
		"the first fault counts":       {l: []frames.Frame{piece(1, 0, "x", false), piece(2, 0, "x", false), piece(0, 9999, "x", false)}, code: conn.State},
		"what is behind a wrong one":   {l: []frames.Frame{{Kind: frames.Done}, {Kind: frames.Close, Code: 9}}, code: conn.Protocol},
		"not more than all may have":   {l: []frames.Frame{piece(0, 1199, "x", false), piece(4, 790, long[:10], false)}},
		"not more than a stream's":     {l: []frames.Frame{piece(0, 1999, "x", true), piece(0, 0, "x", false)}},
		"a reset, and its stream":      {l: []frames.Frame{{Kind: frames.Reset, Stream: 0, Off: 2000}, piece(0, 1999, "x", true), piece(0, 0, "x", false)}},
		"the third stream":             {l: []frames.Frame{piece(8, 0, "", false)}},
		"what tells nothing here":      {l: []frames.Frame{{Kind: frames.Ping}, {Kind: frames.Padding, N: 9}, {Kind: frames.Blocked, N: 1}, {Kind: frames.StreamsFull, N: 1}, {Kind: frames.StreamStuck, Stream: 4}, {Kind: frames.Stop, Stream: 0}, {Kind: frames.NewId, Data: "x", Extra: "0123456789abcdef"}, {Kind: frames.Retire, N: 7}, {Kind: frames.Challenge, Data: "12345678"}, {Kind: frames.Response, Data: "12345678"}, {Kind: frames.MaxStreams, N: 1 << 60}, {Kind: frames.MaxData, N: 1<<62 - 1}, {Kind: frames.MaxStream, Stream: 0, N: 1<<62 - 1}}},
		"Done of a server":             {l: []frames.Frame{{Kind: frames.Done}, {Kind: frames.Token, Data: "x"}}, server: true},
		"a server's stream":            {l: []frames.Frame{piece(1, 0, "x", false)}, server: true},
		"a server's fourth stream":     {l: []frames.Frame{piece(13, 0, "x", false)}, code: conn.Limit, server: true},
		"a client's that isn't there":  {l: []frames.Frame{piece(0, 0, "x", false)}, code: conn.State, server: true},
		"a ticket that is none":        {l: []frames.Frame{{Kind: frames.Crypto, Off: 10, Data: "\x05"}, {Kind: frames.Crypto, Off: 0, Data: "\x04\x00\x00\x02\x01a\x04\x00\x00\x01"}}, code: conn.CryptoErr + shake.Undecoded, server: true},
	} {
		c, h := toServer(t, 2000, 3)
		if x.server {
			c, h = toClient(t, 2000, 3)
		}
		for i := range x.l {
			if x.server && x.l[i].Kind == frames.Crypto {
				x.l[i].Off += h.off[2] // behind the ticket that it said
			}
		}
		if d := h.says(2, x.l...); !c.Take(d, 0) {
			t.Error(what, "Take")
		}
		if x.code == 0 {
			fresh(t, what, c)
			continue
		}
		told(t, what, c, h, x.code, 2)
	}
}

// P16.5: wrong packets at level 0: a server that has no other keys tells by these, a client too.
func TestWrongFirsts(t *testing.T) {
	for what, x := range map[string]struct {
		carries []byte
		code    int
	}{
		"a Stream":          {[]byte{0x0a, 0, 1, 'x'}, conn.Protocol},
		"MaxData":           {[]byte{0x10, 1, 0, 0}, conn.Protocol},
		"Done":              {[]byte{0x1e, 0, 0}, conn.Protocol},
		"Token":             {[]byte{0x07, 1, 'x'}, conn.Protocol},
		"AppClose":          {[]byte{0x1d, 1, 0}, conn.Protocol},
		"Stop behind Ping":  {[]byte{1, 0, 5, 0, 0}, conn.Protocol},
		"an Ack of nothing": {[]byte{2, 40, 0, 0, 0}, conn.Protocol},
		"no frame":          {nil, conn.Encoding},
		"no such frame":     {[]byte{1, 0, 0x20}, conn.Encoding},
		"half a frame":      {[]byte{1, 0, 6, 0}, conn.Encoding},
		"wrong and no form": {[]byte{0x1e, 0x20, 0, 0}, conn.Encoding},
		"a wrong type":      {append([]byte{6, 0x40, 0, 4}, 3, 0, 0, 1), conn.CryptoErr + shake.Unexpected},
		"far talk":          {[]byte{6, 0x80, 1, 0, 0, 1, 'x'}, conn.Flow},
	} {
		b, h := accept(t, serverConfig(2000, 3)), newHand(t, false, params(t, 2000, 2000, 3))
		if !b.Take(append(h.raw(0, x.carries), h.raw(0, []byte{1, 0, 0})...), 0) {
			t.Error(what, "Take")
		}
		told(t, "to a server: "+what, b, h, x.code, 0)
		if b.Ready() {
			t.Error("Ready")
		}
		a, h := dial(t, clientConfig(2000, 3)), newHand(t, true, params(t, 2000, 2000, 3))
		h.hear(a.Send(0)...)
		if !a.Take(h.raw(0, x.carries), 0) {
			t.Error(what, "Take")
		}
		told(t, "to a client: "+what, a, h, x.code, 0)
	}
}

// P16.5: wrong packets at level 1, ahead of the talk's end, and behind it; and at level 0 as long as that counts.
func TestWrongSeconds(t *testing.T) {
	for what, x := range map[string]struct {
		carries []byte
		code    int
	}{
		"a Stream":          {[]byte{0x0a, 0, 1, 'x'}, conn.Protocol},
		"Done":              {[]byte{0x1e, 0, 0}, conn.Protocol},
		"AppClose":          {[]byte{0x1d, 1, 0}, conn.Protocol},
		"an Ack of nothing": {[]byte{2, 40, 0, 0, 0}, conn.Protocol},
		"no frame":          {nil, conn.Encoding},
		"a wrong type":      {append([]byte{6, 0x40, 0, 4}, 9, 0, 0, 1), conn.CryptoErr + shake.Unexpected},
		"a wrong seal":      {append([]byte{6, 0x40, 0, 0x40, 36, 20, 0, 0, 32}, make([]byte, 32)...), conn.CryptoErr + shake.Undecrypt},
	} {
		b, h := accept(t, serverConfig(2000, 3)), newHand(t, false, params(t, 2000, 2000, 3))
		b.Take(h.flight(), 0)
		h.hear(b.Send(0)...)
		b.Take(h.raw(1, x.carries), 0)
		told(t, "to a server: "+what, b, h, x.code, 1, 2)
		a, h := dial(t, clientConfig(2000, 3)), newHand(t, true, params(t, 2000, 2000, 3))
		h.hear(a.Send(0)...)
		h.talk.Say(1) // its own words come instead
		flight := h.flight()
		h.talk.Say(1)
		a.Take(flight, 0)
		a.Take(h.raw(1, x.carries), 0)
		if what == "a wrong seal" {
			x.code = conn.CryptoErr + shake.Unexpected // its turn is the speech's
		}
		told(t, "to a client: "+what, a, h, x.code, 0, 1)
	}
	b, h := toServer(t, 2000, 3)
	b.Take(h.raw(1, []byte{0x1e, 0, 0}), 0)
	told(t, "behind the talk's end", b, h, conn.Protocol, 2)
	b, h = toServer(t, 2000, 3)
	if b.Take(h.raw(0, []byte{0x1e, 0, 0}), 0) {
		t.Error("whoever saw the first datagram can make it")
	}
	fresh(t, "level 0 behind the talk's end", b)
}

// P16.5: Params that aren't as an end makes them.
func TestWrongParams(t *testing.T) {
	for what, says := range map[string]string{
		"none":              "",
		"text":              "no numbers",
		"two":               params(t, 2000, 2000),
		"four":              params(t, 2000, 2000, 3, 3),
		"a byte behind":     params(t, 2000, 2000, 3) + "\x80",
		"a small window":    params(t, 63, 63, 3),
		"a great window":    params(t, 65537, 65537, 3),
		"no streams":        params(t, 2000, 2000, 0),
		"many streams":      params(t, 2000, 2000, 33),
		"different windows": params(t, 2000, 2001, 3),
		"more bytes":        params(t, 2000, 2000) + "\x40\x03",
		"huge":              "\xff\xff\xff\xff\xff\xff\xff\xff\xff\xff\xff\xff\xff\xff\xff\xff\x03",
	} {
		b, h := accept(t, serverConfig(2000, 3)), newHand(t, false, says)
		b.Take(h.flight(), 0)
		told(t, "to a server: "+what, b, h, conn.Protocol, 0)
		a, h := dial(t, clientConfig(2000, 3)), newHand(t, true, says)
		h.hear(a.Send(0)...)
		a.Take(h.flight(), 0)
		told(t, "to a client: "+what, a, h, conn.Protocol, 0, 1, 2)
	}
}

// P16.5: what the other end says that is over, by either frame, at each level; nothing is sent then.
func TestToldByPeer(t *testing.T) {
	for _, f := range []frames.Frame{{Kind: frames.Close, Code: 1<<62 - 1, N: 7, Data: "why"}, {Kind: frames.AppClose, Code: 0, Data: "why"}} {
		c, h := toServer(t, 2000, 3)
		if !c.Take(h.says(2, frames.Frame{Kind: frames.Ping}, f, frames.Frame{Kind: frames.Done}), 0) {
			t.Error("Take")
		}
		if code, byPeer, over := c.Closed(); code != f.Code || !byPeer || !over {
			t.Error(code, byPeer, over)
		}
		if len(c.Send(0)) != 0 || len(c.Send(100000)) != 0 {
			t.Error("Send")
		}
	}
	for level := range 2 {
		b, h := accept(t, serverConfig(2000, 3)), newHand(t, false, params(t, 2000, 2000, 3))
		b.Take(h.flight(), 0)
		h.hear(b.Send(0)...)
		b.Take(h.says(level, frames.Frame{Kind: frames.Close, Code: 5}), 0)
		if code, byPeer, over := b.Closed(); code != 5 || !byPeer || !over {
			t.Error(level, code, byPeer, over)
		}
	}
}

// Packets that are for another end, of another version, or of kinds that don't count here.
func TestOtherPackets(t *testing.T) {
	for what, change := range map[string]func(x *packet.Header){
		"another Dst": func(x *packet.Header) { x.Dst = "server-2" },
		"no Dst":      func(x *packet.Header) { x.Dst = "" },
		"Version 2":   func(x *packet.Header) { x.Version = 2 },
		"ZeroRTT":     func(x *packet.Header) { x.Kind = packet.ZeroRTT },
	} {
		b, h := accept(t, serverConfig(2000, 3)), newHand(t, false, params(t, 2000, 2000, 3))
		for _, right := range []bool{false, true} {
			x := packet.Header{Kind: packet.Initial, Version: 1, Dst: first, Src: "client-1", Length: 4 + 20 + 16, Size: 4}
			if !right {
				change(&x)
			}
			head, _ := packet.Put(x)
			d := sealed(t, h, head)
			if b.Take(d, 0) != right {
				t.Error(what, right)
			}
		}
		if l := b.Send(0); len(l) != 1 {
			t.Error(what, len(l))
		}
	}
	b, _ := toServer(t, 2000, 3)
	for _, x := range []packet.Header{{Kind: packet.Versions, Dst: "server-1", Src: "client-1", List: []int{1}}, {Kind: packet.Retry, Version: 1, Dst: "server-1", Src: "client-1", Token: "t"}} {
		d, e := packet.Put(x)
		if e != api.OK || b.Take(d, 0) {
			t.Error(x.Kind, e)
		}
	}
}

// sealed is a packet of 20 bytes by the first keys: a Ping.
func sealed(t *testing.T, h *hand, head []byte) []byte {
	t.Helper()
	d, e := h.sealHead(head, append([]byte{1}, make([]byte, 19)...))
	if e != api.OK {
		t.Fatal(e)
	}
	return d
}

// P16.1, P1: an end that seals anything: no call panics, and all end.
func TestAnythingSealed(t *testing.T) {
	rnd := rand.New(rand.NewSource(3))
	for round := range 400 {
		server := round%2 == 0
		c, h := toServer(t, 2000, 3)
		if server {
			c, h = toClient(t, 2000, 3)
		}
		for at := range 30 {
			level := 2 - rnd.Intn(10)/9
			d := h.raw(level, anyFrames(rnd))
			if _, _, over := c.Closed(); !c.Take(d, at*50) && !over && level == 2 {
				t.Error("Take")
			}
			if id, e := c.Open(); e == api.OK {
				c.Write(id, make([]byte, rnd.Intn(3000)))
			}
			id, _ := c.Next()
			c.Write(id, []byte("back"))
			c.Read(rnd.Intn(12), rnd.Intn(2000))
			c.Finish(rnd.Intn(12))
			for _, d := range c.Send(at * 50) {
				if len(d) > 1200 {
					t.Error(len(d))
				}
			}
			c.Timer()
		}
	}
}

// anyFrames are bytes of frames, mostly in form, of small numbers and some great ones.
func anyFrames(rnd *rand.Rand) []byte {
	number := func() int {
		return []int{rnd.Intn(4), rnd.Intn(16), rnd.Intn(3000), 1<<62 - 1 - rnd.Intn(9)}[rnd.Intn(16)*rnd.Intn(4)/12]
	}
	var out []byte
	for range 1 + rnd.Intn(4) {
		f := frames.Frame{Kind: rnd.Intn(0x1f)}
		switch f.Kind {
		case frames.Padding:
			f.N = 5
		case frames.Ack:
			to := rnd.Intn(8)
			f.Acks, f.N = []frames.Span{{From: to - rnd.Intn(to+1), To: to}}, number()
		case frames.Reset:
			f.Stream, f.Code, f.Off = number(), number(), number()
		case frames.Stop:
			f.Stream, f.Code = number(), number()
		case frames.Crypto:
			f.Off, f.Data = number(), "talk"
		case frames.Stream:
			f.Stream, f.Off, f.Fin = number(), number(), rnd.Intn(4) == 0
			f.Data = strings.Repeat("s", rnd.Intn(300))
		case frames.MaxData, frames.Blocked, frames.MaxStreams, frames.StreamsFull, frames.Retire:
			f.N = number()
		case frames.MaxStream, frames.StreamStuck:
			f.Stream, f.N = number(), number()
		case frames.Challenge, frames.Response:
			f.Data = "12345678"
		}
		b, e := frames.Put(f)
		if e != api.OK && rnd.Intn(9) > 0 {
			b = []byte{1}
		}
		if rnd.Intn(200) == 0 {
			b = append(b, byte(rnd.Intn(256)))
		}
		out = append(out, b...)
	}
	return out
}

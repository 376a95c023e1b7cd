package conn_test

import (
	"bytes"
	"math"
	"slices"
	"strings"
	"testing"

	"rhyne/api"
	"rhyne/conn"
	"rhyne/curve"
	"rhyne/frames"
	"rhyne/packet"
	"rhyne/shake"
)

// The chapter's example: one datagram of 1200 bytes; both are ready behind the flights of the talk, and then all is quiet.
func TestKnownConnection(t *testing.T) {
	a := dial(t, clientConfig(2000, 3))
	l := a.Send(0)
	if len(l) != 1 || len(l[0]) != 1200 {
		t.Fatal(len(l))
	}
	x, _, end, e := packet.Get(l[0], 8)
	if e != api.OK || x.Kind != packet.Initial || x.Version != 1 || x.Dst != first || x.Src != "client-1" || end != 1200 {
		t.Fatal(x, end, e)
	}
	b, e := conn.Accept(serverConfig(2000, 3), x.Dst, x.Src, 0)
	if e != api.OK || !b.Take(l[0], 0) {
		t.Fatal(e)
	}
	for i, p := range [][2]*conn.Conn{{b, a}, {a, b}, {b, a}, {a, b}} {
		if a.Ready() != (i > 2) || b.Ready() != (i > 1) {
			t.Error(i, a.Ready(), b.Ready())
		}
		l := p[0].Send(0)
		if len(l) != 1 || !p[1].Take(l[0], 0) {
			t.Fatal(i, len(l))
		}
		if p[0] == b && len(l[0]) >= 1200 {
			t.Error("a server's are as short as can be", len(l[0]))
		}
	}
	for _, c := range []*conn.Conn{a, b} {
		if l := c.Send(9); len(l) != 0 || !c.Ready() {
			t.Error(len(l))
		}
		if at, ok := c.Timer(); at != 0 || ok {
			t.Error(at, ok)
		}
		if code, byPeer, over := c.Closed(); code != 0 || byPeer || over {
			t.Error(code, byPeer, over)
		}
	}
}

// The codes, as they are told.
func TestCodes(t *testing.T) {
	got := []int{conn.None, conn.Internal, conn.Flow, conn.Limit, conn.State, conn.FinalSize, conn.Encoding, conn.Protocol, conn.CryptoErr}
	if !slices.Equal(got, []int{0, 1, 3, 4, 5, 6, 7, 10, 256}) {
		t.Error(got)
	}
}

// Which ends can't be, and the limits of those that can.
func TestWrongConfigs(t *testing.T) {
	right, server := clientConfig(2000, 3), serverConfig(2000, 3)
	with := func(change func(c *conn.Config)) func(c conn.Config) conn.Config {
		return func(c conn.Config) conn.Config {
			change(&c)
			return c
		}
	}
	for what, x := range map[string]struct {
		change func(c conn.Config) conn.Config
		first  string
		at     int
		want   api.Errno
	}{
		"as it is":           {with(func(c *conn.Config) {}), first, 0, api.OK},
		"the least":          {with(func(c *conn.Config) { c.Window, c.Streams = 64, 1 }), "12345678", 0, api.OK},
		"the most":           {with(func(c *conn.Config) { c.Window, c.Streams = 65536, 32 }), strings.Repeat("x", 20), 1 << 39, api.OK},
		"long Params":        {with(func(c *conn.Config) { c.Shake.Params = strings.Repeat("x", 1001) }), first, 0, api.OK},
		"a short name":       {with(func(c *conn.Config) { c.Name = "1234567" }), first, 0, api.ErrForm},
		"a long name":        {with(func(c *conn.Config) { c.Name = "123456789" }), first, 0, api.ErrForm},
		"no name":            {with(func(c *conn.Config) { c.Name = "" }), first, 0, api.ErrForm},
		"a short first":      {with(func(c *conn.Config) {}), "1234567", 0, api.ErrForm},
		"a long first":       {with(func(c *conn.Config) {}), strings.Repeat("x", 21), 0, api.ErrForm},
		"no first":           {with(func(c *conn.Config) {}), "", 0, api.ErrForm},
		"a small window":     {with(func(c *conn.Config) { c.Window = 63 }), first, 0, api.ErrForm},
		"a great window":     {with(func(c *conn.Config) { c.Window = 65537 }), first, 0, api.ErrForm},
		"a window below 0":   {with(func(c *conn.Config) { c.Window = math.MinInt }), first, 0, api.ErrForm},
		"no streams":         {with(func(c *conn.Config) { c.Streams = 0 }), first, 0, api.ErrForm},
		"many streams":       {with(func(c *conn.Config) { c.Streams = 33 }), first, 0, api.ErrForm},
		"streams below 0":    {with(func(c *conn.Config) { c.Streams = -1 }), first, 0, api.ErrForm},
		"no Protocol":        {with(func(c *conn.Config) { c.Shake.Protocol = "" }), first, 0, api.ErrForm},
		"a long Protocol":    {with(func(c *conn.Config) { c.Shake.Protocol = strings.Repeat("x", 256) }), first, 0, api.ErrForm},
		"a time below 0":     {with(func(c *conn.Config) {}), first, -1, api.ErrArg},
		"a late time":        {with(func(c *conn.Config) {}), first, 1<<39 + 1, api.ErrArg},
		"the latest time":    {with(func(c *conn.Config) {}), first, math.MaxInt, api.ErrArg},
		"form ahead of time": {with(func(c *conn.Config) { c.Shake.Protocol = "" }), first, -1, api.ErrForm},
		"name ahead of time": {with(func(c *conn.Config) { c.Name = "" }), first, -1, api.ErrForm},
	} {
		a, e := conn.Dial(x.change(right), x.first, x.at)
		if e != x.want || (a != nil) != (e == api.OK) {
			t.Error("Dial", what, e)
		}
		b, e := conn.Accept(x.change(server), x.first, "client-1", x.at)
		if e != x.want || (b != nil) != (e == api.OK) {
			t.Error("Accept", what, e)
		}
	}
	for _, peer := range []string{"", "1234567", "123456789"} {
		if b, e := conn.Accept(server, first, peer, -1); e != api.ErrForm || b != nil {
			t.Error("peer", peer, e)
		}
	}
	server.Shake.Seal = "short"
	if b, e := conn.Accept(server, first, "client-1", 0); e != api.ErrForm || b != nil {
		t.Error("Seal", e)
	}
	right.Shake.Ticket = "without its secret"
	if a, e := conn.Dial(right, first, 0); e != api.ErrForm || a != nil {
		t.Error("Ticket", e)
	}
}

// P1: a nil connection, and one that neither Dial nor Accept made.
func TestNoConnection(t *testing.T) {
	for _, c := range []*conn.Conn{nil, {}} {
		if c.Take([]byte("any"), 0) || len(c.Send(0)) != 0 || c.Ready() {
			t.Error("Take, Send, Ready")
		}
		if at, ok := c.Timer(); at != 0 || ok {
			t.Error("Timer", at, ok)
		}
		if id, ok := c.Next(); id != 0 || ok {
			t.Error("Next", id, ok)
		}
		if id, e := c.Open(); id != 0 || e != api.ErrArg {
			t.Error("Open", id, e)
		}
		if s, fin, e := c.Read(0, 1); s != "" || fin || e != api.ErrArg {
			t.Error("Read", s, fin, e)
		}
		for what, e := range map[string]api.Errno{"Write": c.Write(0, nil), "Finish": c.Finish(0), "Put": c.Put(frames.Frame{Kind: frames.Ping}), "Close": c.Close(0)} {
			if e != api.ErrArg {
				t.Error(what, e)
			}
		}
		if code, byPeer, over := c.Closed(); code != 0 || byPeer || !over {
			t.Error("Closed", code, byPeer, over)
		}
		if a, b, ok := c.Ticket(); a != "" || b != "" || ok {
			t.Error("Ticket", a, b, ok)
		}
	}
}

// What is answered ahead of the talk's end, and of streams that aren't there.
func TestNotYet(t *testing.T) {
	for _, c := range []*conn.Conn{dial(t, clientConfig(2000, 3)), accept(t, serverConfig(2000, 3))} {
		if _, e := c.Open(); e != api.ErrState {
			t.Error("Open", e)
		}
		if e := c.Put(frames.Frame{Kind: frames.Ping}); e != api.ErrState {
			t.Error("Put", e)
		}
		for _, id := range []int{0, 1, 4, -1, math.MaxInt, math.MinInt} {
			if _, _, e := c.Read(id, 1); e != api.ErrMiss {
				t.Error("Read", id, e)
			}
			if e := c.Write(id, nil); e != api.ErrMiss {
				t.Error("Write", id, e)
			}
			if e := c.Finish(id); e != api.ErrMiss {
				t.Error("Finish", id, e)
			}
		}
		if _, ok := c.Next(); ok {
			t.Error("Next")
		}
		if _, _, ok := c.Ticket(); ok {
			t.Error("Ticket")
		}
		if e := c.Close(7); e != api.OK {
			t.Error("Close", e)
		}
		if _, e := c.Open(); e != api.ErrState {
			t.Error("Open of one that is over, ahead of the talk's end", e)
		}
	}
}

// Streams of both ends: as many as granted; Next tells each once, rising; more, when some are through.
func TestStreams(t *testing.T) {
	r := ready(t, 2000, 3)
	a, b := r.ends[0], r.ends[1]
	for i, c := range r.ends {
		for j := range 3 {
			if id, e := c.Open(); id != 4*j+i || e != api.OK {
				t.Error("Open", id, e)
			}
		}
		if id, e := c.Open(); id != 0 || e != api.ErrFull {
			t.Error("Open", id, e)
		}
	}
	if e := a.Write(8, []byte("on the third")); e != api.OK {
		t.Error(e)
	}
	r.rounds(2)
	for _, want := range []int{0, 4, 8} {
		if id, ok := b.Next(); id != want || !ok {
			t.Error("Next", id, ok)
		}
	}
	if id, ok := b.Next(); id != 0 || ok {
		t.Error("Next", id, ok)
	}
	if s, fin, e := b.Read(8, 6); s != "on the" || fin || e != api.OK {
		t.Error(s, fin, e)
	}
	if s, fin, e := b.Read(8, 0); s != "" || fin || e != api.OK {
		t.Error(s, fin, e)
	}
	if s, fin, e := b.Read(8, -1); s != "" || fin || e != api.ErrArg {
		t.Error(s, fin, e)
	}
	if a.Finish(8) != api.OK || a.Finish(8) != api.ErrOver || a.Write(8, nil) != api.ErrOver {
		t.Error("Finish")
	}
	r.rounds(2)
	if s, fin, e := b.Read(8, 600); s != " third" || !fin || e != api.OK {
		t.Error(s, fin, e)
	}
	if s, fin, e := b.Read(8, 600); s != "" || !fin || e != api.OK {
		t.Error("once more", s, fin, e)
	}
	if e := b.Write(8, []byte("back")); e != api.OK {
		t.Error(e)
	}
	b.Finish(8)
	r.rounds(2)
	if _, _, e := b.Read(8, 1); e != api.ErrMiss {
		t.Error("both ends of the server's are through", e)
	}
	if s, fin, e := a.Read(8, 4); s != "back" || !fin || e != api.OK {
		t.Error(s, fin, e)
	}
	for what, e := range map[string]api.Errno{"Write": a.Write(8, nil), "Finish": a.Finish(8)} {
		if e != api.ErrMiss {
			t.Error(what, "of a stream that is through", e)
		}
	}
	r.rounds(2)
	if id, e := a.Open(); id != 12 || e != api.OK {
		t.Error("a fourth, as one is through", id, e)
	}
	if _, e := a.Open(); e != api.ErrFull {
		t.Error(e)
	}
	if _, e := b.Open(); e != api.ErrFull {
		t.Error(e)
	}
}

// A stream that ends at once; one whose end is told late; many one behind the other, in both directions.
func TestManyStreams(t *testing.T) {
	r := ready(t, 500, 2)
	for i := range 40 {
		from, to := r.ends[i%2], r.ends[1-i%2]
		id, e := from.Open()
		if want := i/2*4 + i%2; id != want || e != api.OK {
			t.Fatal(i, id, e)
		}
		text := strings.Repeat("x", i%3*700)
		from.Write(id, []byte(text))
		if i%4 == 0 {
			r.rounds(1)
		}
		from.Finish(id)
		got, fin := "", false
		for range 12 {
			r.rounds(1)
			if s, f, e := to.Read(id, 10000); e == api.OK {
				got, fin = got+s, f
			}
		}
		if got != text || !fin {
			t.Fatal(i, len(got), fin)
		}
		if n, ok := to.Next(); n != id || !ok {
			t.Error(i, n, ok)
		}
		to.Finish(id)
		r.rounds(2)
		if s, fin, e := from.Read(id, 1); s != "" || !fin || e != api.OK {
			t.Error(i, s, fin, e)
		}
		r.rounds(2)
		for _, c := range r.ends {
			if _, _, e := c.Read(id, 1); e != api.ErrMiss {
				t.Error(i, e)
			}
		}
	}
	if !r.quiet() {
		t.Error("not quiet")
	}
}

// Layer 13's limit of what may be written in all.
func TestFullStream(t *testing.T) {
	r := ready(t, 2000, 3)
	id, _ := r.ends[0].Open()
	if e := r.ends[0].Write(id, make([]byte, 1<<20+1)); e != api.ErrFull {
		t.Error(e)
	}
	if e := r.ends[0].Write(id, make([]byte, 1<<20)); e != api.OK {
		t.Error(e)
	}
	if e := r.ends[0].Write(id, []byte{1}); e != api.ErrFull {
		t.Error(e)
	}
	if e := r.ends[0].Write(id, nil); e != api.OK {
		t.Error(e)
	}
}

// Put: what is refused, in its order.
func TestPut(t *testing.T) {
	ping, form, big := frames.Frame{Kind: frames.Ping}, frames.Frame{Kind: frames.Padding}, frames.Frame{Kind: frames.AppClose, Data: strings.Repeat("x", 900)}
	r := newRoad(t, 2000, 3)
	a := r.ends[0]
	for f, want := range map[*frames.Frame]api.Errno{&ping: api.ErrState, &form: api.ErrForm, &big: api.ErrFull} {
		if e := a.Put(*f); e != want {
			t.Error(f.Kind, e)
		}
	}
	r.rounds(4)
	for range 16 {
		if e := a.Put(ping); e != api.OK {
			t.Fatal(e)
		}
	}
	for f, want := range map[*frames.Frame]api.Errno{&ping: api.ErrFull, &form: api.ErrForm, &big: api.ErrFull} {
		if e := a.Put(*f); e != want {
			t.Error(f.Kind, e)
		}
	}
	r.rounds(1)
	most := frames.Frame{Kind: frames.Token, Data: strings.Repeat("x", 897)}
	if e := a.Put(most); e != api.OK {
		t.Error(e)
	}
	most.Data += "x"
	if e := a.Put(most); e != api.ErrFull {
		t.Error(e)
	}
	a.Close(1)
	for f, want := range map[*frames.Frame]api.Errno{&ping: api.ErrOver, &form: api.ErrForm, &big: api.ErrFull} {
		if e := a.Put(*f); e != want {
			t.Error(f.Kind, e)
		}
	}
}

// Put: the frame goes once, in a packet of level 2, whatever it says, and as it was.
func TestPutGoesOnce(t *testing.T) {
	a, h := toClient(t, 2000, 3)
	list := []frames.Frame{
		{Kind: frames.Padding, N: 3},
		{Kind: frames.Ping},
		{Kind: frames.Ack, Acks: []frames.Span{{From: 70, To: 90}, {From: 3, To: 5}}, N: 7},
		{Kind: frames.Reset, Stream: 99, Code: 1, Off: 1 << 60},
		{Kind: frames.Stop, Stream: 2, Code: 1},
		{Kind: frames.Crypto, Off: 900, Data: "abc"},
		{Kind: frames.Token, Data: strings.Repeat("y", 880)},
		{Kind: frames.Stream, Stream: 1 << 50, Off: 9, Data: "q", Fin: true},
		{Kind: frames.MaxData, N: 1<<62 - 1},
		{Kind: frames.NewId, N: 1, Data: "abcd", Extra: "0123456789abcdef"},
		{Kind: frames.Close, Code: 5, Data: "why"},
		{Kind: frames.AppClose, Code: 5, Data: "why"},
		{Kind: frames.Done},
	}
	for _, f := range list {
		if e := a.Put(f); e != api.OK {
			t.Fatal(f.Kind, e)
		}
		if f.Kind == frames.Ack {
			f.Acks[0] = frames.Span{From: 1, To: 1} // what was handed in isn't kept
		}
	}
	list[2].Acks = []frames.Span{{From: 70, To: 90}, {From: 3, To: 5}}
	got := h.hear(a.Send(0)...)
	if len(h.heard[0])+len(h.heard[1]) == 0 {
		t.Error("no talk")
	}
	for _, want := range list {
		found := 0
		for _, f := range got {
			if f.Kind == want.Kind && f.Stream == want.Stream && f.Off == want.Off && f.N == want.N && f.Code == want.Code && f.Data == want.Data && f.Extra == want.Extra && f.Fin == want.Fin && slices.Equal(f.Acks, want.Acks) {
				found++
			}
		}
		if found != 1 {
			t.Error(want.Kind, found)
		}
	}
	at := 0
	for range 8 { // nothing is told of what came: but they aren't said again
		if next, ok := a.Timer(); ok {
			at = next
		}
		for _, f := range h.hear(a.Send(at)...) {
			if f.Kind != frames.Ping && f.Kind != frames.Padding {
				t.Error("again", f)
			}
		}
	}
	if _, _, over := a.Closed(); over {
		t.Error("over by a frame of its own choice")
	}
}

// Close: told once, at once; then nothing is sent, and nothing may be done.
func TestClose(t *testing.T) {
	for i := range 2 {
		r := ready(t, 2000, 3)
		c, other := r.ends[i], r.ends[1-i]
		id, _ := c.Open()
		c.Write(id, []byte("text"))
		r.rounds(1)
		other.Write(id, []byte("back"))
		r.rounds(1)
		for _, code := range []int{-1, math.MinInt, 1<<40 + 1, math.MaxInt} {
			if e := c.Close(code); e != api.ErrArg {
				t.Error(code, e)
			}
		}
		if e := c.Close(1 << 40); e != api.OK {
			t.Error(e)
		}
		if e := c.Close(3); e != api.ErrOver {
			t.Error(e)
		}
		if e := c.Close(-1); e != api.ErrArg {
			t.Error(e)
		}
		if code, byPeer, over := c.Closed(); code != 1<<40 || byPeer || !over {
			t.Error(code, byPeer, over)
		}
		other.Write(id, []byte("more"))
		for _, d := range other.Send(r.at) {
			c.Take(d, r.at)
		}
		l := c.Send(r.at)
		if len(l) != 1 || len(c.Send(r.at)) != 0 || len(c.Send(r.at+100000)) != 0 {
			t.Fatal(len(l))
		}
		if !other.Take(l[0], r.at) || other.Take(l[0], r.at) {
			t.Error("Take")
		}
		if code, byPeer, over := other.Closed(); code != 1<<40 || !byPeer || !over {
			t.Error(code, byPeer, over)
		}
		for _, x := range r.ends {
			isOver(t, x, id)
			if l := x.Send(r.at + 200000); len(l) != 0 {
				t.Error(len(l))
			}
		}
	}
}

// isOver tells whether an end answers as one that is over; a stream was there.
func isOver(t *testing.T, c *conn.Conn, id int) {
	t.Helper()
	if at, ok := c.Timer(); at != 0 || ok {
		t.Error("Timer", at, ok)
	}
	if n, e := c.Open(); n != 0 || e != api.ErrOver {
		t.Error("Open", n, e)
	}
	if s, fin, e := c.Read(id, 10); s != "" || fin || e != api.ErrOver {
		t.Error("Read", s, fin, e)
	}
	if _, _, e := c.Read(id+400, 10); e != api.ErrMiss {
		t.Error("Read of none", e)
	}
	for what, e := range map[string]api.Errno{"Write": c.Write(id, nil), "Finish": c.Finish(id), "Put": c.Put(frames.Frame{Kind: frames.Ping}), "Close": c.Close(0)} {
		if e != api.ErrOver {
			t.Error(what, e)
		}
	}
}

// Close ahead of the talk's end: the other end is told by the keys that it has.
func TestEarlyClose(t *testing.T) {
	for steps := range 4 {
		for i := range 2 {
			r := newRoad(t, 2000, 3)
			for n := range steps {
				r.send(n % 2)
				r.come()
			}
			c, other := r.ends[i], r.ends[1-i]
			c.Close(77)
			r.send(i)
			if i == 1 && steps == 0 {
				if len(r.way) != 0 {
					t.Error("a server that got nothing sends nothing")
				}
				continue
			}
			if len(r.way) != 1 {
				t.Fatal(steps, i, len(r.way))
			}
			r.come()
			if code, byPeer, over := other.Closed(); code != 77 || !byPeer || !over {
				t.Error(steps, i, code, byPeer, over)
			}
		}
	}
}

// A server that is over ahead of all that came tells so as soon as it may.
func TestCloseWaits(t *testing.T) {
	r := newRoad(t, 2000, 3)
	r.ends[1].Close(9)
	r.send(1)
	if len(r.way) != 0 {
		t.Fatal(len(r.way))
	}
	r.rounds(1)
	if code, byPeer, over := r.ends[0].Closed(); code != 9 || !byPeer || !over {
		t.Error(code, byPeer, over)
	}
}

// A ticket of one connection is taken by the next: the server proves nothing.
func TestTicket(t *testing.T) {
	r := ready(t, 2000, 3)
	ticket, secret, ok := r.ends[0].Ticket()
	if !ok || ticket == "" || len(secret) != 32 {
		t.Fatal(len(ticket), len(secret), ok)
	}
	if _, _, ok := r.ends[1].Ticket(); ok {
		t.Error("a server's")
	}
	c := clientConfig(2000, 3)
	c.Shake.Ticket, c.Shake.Secret, c.Shake.Own = ticket, secret, [32]byte{}
	r = &road{t: t, ends: [2]*conn.Conn{dial(t, c), accept(t, serverConfig(2000, 3))}, lose: func(int) bool { return false }}
	r.rounds(4)
	if !r.ends[0].Ready() || !r.ends[1].Ready() {
		t.Error("Ready")
	}
}

// The talk's Params are the connection's own, whatever Config says; the secrets are those of the talk.
func TestParams(t *testing.T) {
	for _, x := range [][2]int{{64, 1}, {2000, 3}, {65536, 32}} {
		_, h := toServer(t, x[0], x[1])
		if p, ok := h.talk.Peer(); p != params(t, x[0], x[0], x[1]) || !ok {
			t.Errorf("%x", p)
		}
		a, h := toClient(t, x[0], x[1])
		if p, ok := h.talk.Peer(); p != params(t, x[0], x[0], x[1]) || !ok {
			t.Errorf("%x", p)
		}
		for i := range x[1] {
			if id, e := a.Open(); id != 4*i || e != api.OK {
				t.Error(id, e)
			}
		}
		if _, e := a.Open(); e != api.ErrFull {
			t.Error(e)
		}
	}
}

// Time goes on only, and ends where the layers below know none any more.
func TestTimes(t *testing.T) {
	a, e := conn.Dial(clientConfig(2000, 3), first, 500)
	if e != api.OK {
		t.Fatal(e)
	}
	if _, ok := a.Timer(); ok {
		t.Error("nothing was sent")
	}
	if l := a.Send(-7); len(l) != 1 {
		t.Error(len(l))
	}
	if at, ok := a.Timer(); at != 500+325 || !ok {
		t.Error(at, ok)
	}
	if l := a.Send(824); len(l) != 0 {
		t.Error(len(l))
	}
	if l := a.Send(825); len(l) == 0 {
		t.Error("the timer's time")
	}
	if at, ok := a.Timer(); at != 825+650 || !ok {
		t.Error(at, ok)
	}
	a.Take([]byte("nothing"), 2000)
	if l := a.Send(0); len(l) == 0 {
		t.Error("the time of Take counts")
	}
	if at, ok := a.Timer(); at != 2000+1300 || !ok {
		t.Error(at, ok)
	}
	for _, at := range []int{1 << 39, 1 << 40, 1<<40 + 1, math.MaxInt, math.MinInt, math.MaxInt} {
		a.Take(nil, at)
		for _, d := range a.Send(at) {
			if len(d) != 1200 {
				t.Error(at, len(d))
			}
		}
		a.Timer()
	}
}

// P1, rule 4: what is handed in is neither changed nor kept, and answers share nothing.
func TestNothingShared(t *testing.T) {
	play := func(spoil bool) [][]byte {
		r := newRoad(t, 2000, 3)
		var all [][]byte
		for i := range 12 {
			for from := range 2 {
				if id, e := r.ends[from].Open(); e == api.OK {
					text := bytes.Repeat([]byte{byte(i)}, 700)
					r.ends[from].Write(id, text)
					if spoil {
						clear(text)
					}
				}
				l := r.ends[from].Send(r.at)
				for _, d := range l {
					all = append(all, bytes.Clone(d))
				}
				for _, d := range l {
					full := append(bytes.Clone(d), "spare room"...)
					r.ends[1-from].Take(full[:len(d)], r.at)
					if !bytes.Equal(full[:len(d)], d) || string(full[len(d):]) != "spare room" {
						t.Error("Take changed it")
					}
					if spoil {
						clear(full)
					}
				}
				if spoil {
					for _, d := range l {
						clear(d[:cap(d)])
					}
				}
			}
			r.at += 40
		}
		return all
	}
	plain, spoiled := play(false), play(true)
	if len(plain) < 10 || !slices.EqualFunc(plain, spoiled, bytes.Equal) {
		t.Error("what was spoiled was kept", len(plain), len(spoiled))
	}
}

// An end whose key isn't the one that is trusted, or that speaks another Protocol: both ends know the alert.
func TestAlerts(t *testing.T) {
	for what, x := range map[string]struct {
		client, server func(c *conn.Config)
		alert, by      int
	}{
		"Protocol": {func(c *conn.Config) { c.Shake.Protocol = "dot" }, func(c *conn.Config) {}, shake.NoProtocol, 1},
		"Own":      {func(c *conn.Config) { c.Shake.Own = curve.Public([32]byte{7}) }, func(c *conn.Config) {}, shake.BadProof, 0},
	} {
		c, s := clientConfig(2000, 3), serverConfig(2000, 3)
		x.client(&c)
		x.server(&s)
		r := &road{t: t, ends: [2]*conn.Conn{dial(t, c), accept(t, s)}, lose: func(int) bool { return false }}
		r.rounds(4)
		for i, end := range r.ends {
			if code, byPeer, over := end.Closed(); code != conn.CryptoErr+x.alert || byPeer != (i != x.by) || !over {
				t.Error(what, i, code, byPeer, over)
			}
			if end.Ready() {
				t.Error(what, i, "Ready")
			}
		}
	}
}

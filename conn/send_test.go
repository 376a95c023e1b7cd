package conn_test

import (
	"slices"
	"strings"
	"testing"

	"rhyne/api"
	"rhyne/conn"
	"rhyne/flow"
	"rhyne/frames"
	"rhyne/loss"
	"rhyne/stream"
)

// open is a new stream of an end's own.
func open(t *testing.T, c *conn.Conn) int {
	t.Helper()
	id, e := c.Open()
	if e != api.OK {
		t.Fatal("Open", e)
	}
	return id
}

// size is how many bytes datagrams have together.
func size(l [][]byte) int {
	n := 0
	for _, d := range l {
		n += len(d)
	}
	return n
}

// Answers: an Ack of what asked, once; of what didn't ask none alone; with all numbers that came, and how long it was put off.
func TestAnswers(t *testing.T) {
	b, h := toServer(t, 2000, 3)
	for _, l := range [][]frames.Frame{{{Kind: frames.Padding, N: 9}}, {h.ack(2)}} {
		if !b.Take(h.says(2, l...), 10) || len(b.Send(10)) != 0 {
			t.Error("an answer to", l[0].Kind)
		}
	}
	h.next[2] += 2 // two are lost
	at := h.next[2]
	d := h.says(2, frames.Frame{Kind: frames.Ping})
	if !b.Take(d, 50) {
		t.Error("Take")
	}
	got := h.hear(b.Send(57)...)
	acks := only(got, frames.Ack)
	if len(asking(got)) != 0 || len(acks) != 1 || acks[0].N != 7 || !slices.Equal(acks[0].Acks, []frames.Span{{From: at, To: at}, {From: 0, To: at - 3}}) {
		t.Error(got)
	}
	if b.Take(d, 60) || len(b.Send(60)) != 0 {
		t.Error("once more")
	}
	if n, ok := b.Timer(); ok {
		t.Error("an answer asks for none", n)
	}
}

// The timer: two packets that ask, with what didn't come; then twice as late; what came isn't said again.
func TestTimer(t *testing.T) {
	a, h := toClient(t, 2000, 3)
	id := open(t, a)
	a.Write(id, []byte("some text"))
	first := only(h.hear(a.Send(100)...), frames.Stream)
	if len(first) != 1 || first[0].Data != "some text" || first[0].Stream != id || first[0].Fin {
		t.Fatal(first)
	}
	at, ok := a.Timer()
	if at <= 100 || !ok {
		t.Fatal(at, ok)
	}
	wait := at - 100
	if l := a.Send(at - 1); len(l) != 0 {
		t.Error("ahead of time", len(l))
	}
	got := h.hear(a.Send(at)...)
	if l := only(got, frames.Stream); len(l) == 0 || l[0].Data != "some text" || l[0].Off != 0 {
		t.Error(got)
	}
	if next, ok := a.Timer(); next != at+2*wait || !ok {
		t.Error(next, ok, wait)
	}
	a.Take(h.says(2, h.ack(2)), at+5)
	if next, ok := a.Timer(); ok {
		t.Error(next)
	}
	if l := a.Send(at + 100000); len(l) != 0 {
		t.Error(len(l))
	}
}

// What is lost is sent again: bytes, the end, and what was granted.
func TestLostIsSentAgain(t *testing.T) {
	a, h := toClient(t, 2000, 3)
	id := open(t, a)
	a.Write(id, []byte("lost"))
	a.Finish(id)
	a.Send(0)
	for i := range 4 {
		a.Put(frames.Frame{Kind: frames.Ping})
		h.hear(a.Send(i)...)
	}
	a.Take(h.says(2, h.ack(2)), 40)
	got := h.hear(a.Send(40)...)
	if l := only(got, frames.Stream); len(l) != 1 || l[0].Data != "lost" || !l[0].Fin || l[0].Stream != id {
		t.Error(got)
	}
	a.Take(h.says(2, h.ack(2), frames.Frame{Kind: frames.Stream, Stream: 1, Data: strings.Repeat("x", 1500)}), 50)
	if s, _, e := a.Read(1, 1500); len(s) != 1500 || e != api.OK {
		t.Error(len(s), e)
	}
	a.Send(50) // its grants are lost
	for i := range 4 {
		a.Put(frames.Frame{Kind: frames.Ping})
		h.hear(a.Send(51 + i)...)
	}
	a.Take(h.says(2, h.ack(2)), 90)
	got = h.hear(a.Send(90)...)
	data, each := only(got, frames.MaxData), only(got, frames.MaxStream)
	if len(data) != 1 || data[0].N != 3500 || len(each) != 1 || each[0].N != 3500 || each[0].Stream != 1 {
		t.Error(got)
	}
}

// What is granted: bytes when half of a window was read, streams when one is through; not ahead of that.
func TestGrants(t *testing.T) {
	b, h := toServer(t, 2000, 3)
	b.Take(h.says(2, piece(0, 0, strings.Repeat("x", 900), false), piece(4, 0, "y", true)), 0)
	if l := asking(h.hear(b.Send(0)...)); len(l) != 0 {
		t.Error("nothing was read", l)
	}
	b.Read(0, 900)
	b.Read(4, 9)
	if l := asking(h.hear(b.Send(0)...)); len(l) != 0 {
		t.Error("less than half of a window was read", l)
	}
	b.Take(h.says(2, piece(0, 900, strings.Repeat("x", 101), false)), 0)
	b.Read(0, 100)
	got := h.hear(b.Send(0)...)
	if l := only(got, frames.MaxData); len(l) != 1 || l[0].N != 3001 {
		t.Error(got)
	}
	if l := only(got, frames.MaxStream); len(l) != 0 {
		t.Error("1000 of 2000 were read", got)
	}
	b.Read(0, 1)
	got = h.hear(b.Send(0)...)
	if l := only(got, frames.MaxStream); len(l) != 1 || l[0].N != 3001 || l[0].Stream != 0 || len(asking(got)) != 1 {
		t.Error(got)
	}
	b.Write(4, []byte("z"))
	b.Finish(4)
	h.hear(b.Send(0)...)
	b.Take(h.says(2, h.ack(2)), 1)
	if l := only(h.hear(b.Send(1)...), frames.MaxStreams); len(l) != 1 || l[0].N != 4 {
		t.Error(l)
	}
	b.Take(h.says(2, h.ack(2), piece(4, 0, "y", true), piece(12, 0, "w", false)), 2)
	fresh(t, "a fourth stream, and an old one", b)
	for _, want := range []int{0, 4, 8, 12} {
		if id, ok := b.Next(); id != want || !ok {
			t.Error(id, ok)
		}
	}
}

// A reset: what wasn't read is dropped, and used up; then the stream may be through.
func TestReset(t *testing.T) {
	b, h := toServer(t, 2000, 3)
	b.Take(h.says(2, piece(0, 0, strings.Repeat("x", 400), false)), 0)
	b.Read(0, 100)
	reset := frames.Frame{Kind: frames.Reset, Stream: 0, Code: 3, Off: 1500}
	b.Take(h.says(2, reset), 0)
	b.Take(h.says(2, reset, piece(0, 1400, "x", false)), 0)
	if l := only(h.hear(b.Send(0)...), frames.MaxData); len(l) != 1 || l[0].N != 3500 {
		t.Error(l)
	}
	if s, fin, e := b.Read(0, 10); s != "" || fin || e != api.ErrOver {
		t.Error(s, fin, e)
	}
	if e := b.Write(0, []byte("still")); e != api.OK {
		t.Error(e)
	}
	b.Finish(0)
	h.hear(b.Send(0)...)
	b.Take(h.says(2, h.ack(2)), 0)
	if _, _, e := b.Read(0, 10); e != api.ErrMiss {
		t.Error("both ends are through", e)
	}
	b.Take(h.says(2, piece(4, 0, "whole", false), frames.Frame{Kind: frames.Reset, Stream: 4, Off: 5}), 0)
	if s, fin, e := b.Read(4, 10); s != "whole" || !fin || e != api.OK {
		t.Error("nothing was to be dropped", s, fin, e)
	}
	fresh(t, "a reset", b)
}

// taker is a hand that takes what it granted, and no more, and keeps what came.
type taker struct {
	t     *testing.T
	purse *flow.Purse
	each  map[int]*stream.Recv
	got   map[int]string
	size  int
}

func newTaker(t *testing.T, window int) *taker {
	p, _ := flow.NewPurse(window)
	return &taker{t: t, purse: p, each: map[int]*stream.Recv{}, got: map[int]string{}, size: window}
}

// take takes frames: what is beyond what was granted is an error.
func (k *taker) take(l []frames.Frame) {
	k.t.Helper()
	for _, f := range only(l, frames.Stream) {
		if k.each[f.Stream] == nil {
			k.each[f.Stream], _ = stream.NewRecv(k.size)
		}
		n, e := k.each[f.Stream].Take(stream.Piece{Off: f.Off, Data: f.Data, Fin: f.Fin})
		if e != api.OK || k.purse.Take(n) != api.OK {
			k.t.Fatal("more than granted", f.Stream, f.Off, len(f.Data), e)
		}
	}
}

// read reads all that came.
func (k *taker) read() {
	for id := 0; id < 40; id += 4 {
		if r := k.each[id]; r != nil {
			s, _, _ := r.Read(1 << 20)
			k.got[id] += s
			k.purse.Use(len(s))
		}
	}
}

// all is what is granted by now.
func (k *taker) all() []frames.Frame {
	n, _ := k.purse.Grant()
	l := []frames.Frame{{Kind: frames.MaxData, N: n}}
	for id := 0; id < 40; id += 4 {
		if r := k.each[id]; r != nil {
			n, _ := r.Grant()
			l = append(l, frames.Frame{Kind: frames.MaxStream, Stream: id, N: n})
		}
	}
	return l
}

// P3: nobody is asked to take more than was granted, of a stream or of all; and all of that may be used.
func TestNoMoreThanGranted(t *testing.T) {
	for _, window := range []int{64, 700, 5000, 65536} {
		a, h := toClient(t, window, 4)
		k := newTaker(t, window)
		for range 4 {
			id := open(t, a)
			a.Write(id, pattern(id, 3000))
			a.Finish(id)
		}
		at := 0
		for n := range 1000 {
			for i, d := range a.Send(at) {
				if n < 30 && (n+i)%3 == 1 {
					continue
				}
				k.take(h.hear(d))
			}
			k.read()
			if next, ok := a.Timer(); ok && n < 30 && n%4 == 2 { // what is told is lost
				at = next
			} else if h.best[2] >= 0 {
				a.Take(h.says(2, append(k.all(), h.ack(2))...), at)
			}
			at++
		}
		for id := 0; id < 16; id += 4 {
			if k.got[id] != string(pattern(id, 3000)) {
				t.Error(window, id, len(k.got[id]))
			}
		}
		fresh(t, "granted", a)
	}
}

// Nothing more goes than is granted, though it be written; the rest when it is: by MaxStream, or by MaxData.
func TestWaitsForGrants(t *testing.T) {
	a, h := toClient(t, 1000, 4)
	x, y := open(t, a), open(t, a)
	a.Write(x, make([]byte, 1500))
	a.Write(y, make([]byte, 1500))
	sum := func(l []frames.Frame) (int, int) {
		n := map[int]int{}
		for _, f := range only(l, frames.Stream) {
			n[f.Stream] += len(f.Data)
		}
		return n[x], n[y]
	}
	if i, j := sum(h.hear(a.Send(0)...)); i+j != 1000 {
		t.Fatal(i, j)
	}
	a.Take(h.says(2, h.ack(2), frames.Frame{Kind: frames.MaxData, N: 900}, frames.Frame{Kind: frames.MaxStream, Stream: x, N: 900}), 1)
	if i, j := sum(h.hear(a.Send(1)...)); i+j != 0 {
		t.Error("limits don't fall", i, j)
	}
	a.Take(h.says(2, frames.Frame{Kind: frames.MaxData, N: 10000}), 2)
	i, j := sum(h.hear(a.Send(2)...))
	if i+j != 1000 {
		t.Error("each stream may have 1000", i, j)
	}
	a.Take(h.says(2, h.ack(2), frames.Frame{Kind: frames.MaxStream, Stream: y, N: 1200}), 3)
	if i, j := sum(h.hear(a.Send(3)...)); i != 0 || j != 200 {
		t.Error(i, j)
	}
}

// As there is room: the first window's bytes, and no more till something came.
func TestRoom(t *testing.T) {
	a, h := toClient(t, 65536, 4)
	id := open(t, a)
	a.Write(id, make([]byte, 60000))
	l := a.Send(0)
	if n := size(l); n > 12000 || n < 11000 {
		t.Error(n)
	}
	if l := a.Send(1); len(l) != 0 {
		t.Error(len(l))
	}
	h.hear(l...)
	a.Take(h.says(2, h.ack(2)), 20)
	if n := size(a.Send(20)); n < 20000 || n > 24000 {
		t.Error("twice as much", n)
	}
}

// At most 64 datagrams go in one Send; the others in the next one.
func TestMostDatagrams(t *testing.T) {
	a, h := toClient(t, 65536, 4)
	id := open(t, a)
	a.Write(id, make([]byte, 1<<20))
	at, most := 0, 0
	a.Take(h.says(2, frames.Frame{Kind: frames.MaxData, N: 1 << 30}, frames.Frame{Kind: frames.MaxStream, Stream: id, N: 1 << 30}), at)
	for range 12 {
		sent := 0
		for {
			l := a.Send(at)
			if len(l) > 64 {
				t.Fatal(len(l))
			}
			if len(l) == 0 {
				break
			}
			h.hear(l...)
			sent += len(l)
		}
		most = max(most, sent)
		at += 10
		a.Take(h.says(2, h.ack(2)), at)
	}
	if most <= 64 {
		t.Error("a window of more than that", most)
	}
}

// Streams take their turns: none holds the others up.
func TestTurns(t *testing.T) {
	a, h := toClient(t, 4000, 4)
	var ids []int
	for range 4 {
		ids = append(ids, open(t, a))
		a.Write(ids[len(ids)-1], make([]byte, 4000))
	}
	n := map[int]int{}
	for _, f := range only(h.hear(a.Send(0)...), frames.Stream) {
		n[f.Stream] += len(f.Data)
	}
	for _, id := range ids {
		if n[id] < 500 {
			t.Error(id, n)
		}
	}
}

// A client calls the server by the name that it tells; by the first one till then.
func TestNames(t *testing.T) {
	a, h := dial(t, clientConfig(2000, 3)), newHand(t, true, params(t, 2000, 2000, 3))
	h.own = "other-name" // of any count that a name may have
	h.hear(a.Send(0)...)
	a.Take(h.flight(), 0)
	h.next[0]++ // hear takes the first name no longer
	h.hear(a.Send(0)...)
	if !h.talk.Done() {
		t.Error("the talk isn't done")
	}
}

// The server is told what it may lack at once, when it asks again; and so is a client that lacks Done.
func TestHurry(t *testing.T) {
	b, h := accept(t, serverConfig(2000, 3)), newHand(t, false, params(t, 2000, 2000, 3))
	b.Take(h.flight(), 0)
	b.Send(0) // is lost
	b.Take(h.says(0, frames.Frame{Kind: frames.Ping}), 5)
	h.hear(b.Send(5)...)
	if n := h.best[1]; n != 1 || !h.keyed[2] {
		t.Fatal("what it said comes again", n)
	}
	b.Take(h.flight(), 6)
	b.Send(6) // is lost
	b.Take(h.says(1, frames.Frame{Kind: frames.Ping}), 7)
	if l := only(h.hear(b.Send(7)...), frames.Done); len(l) != 1 || !b.Ready() {
		t.Error("Done", l)
	}
	b.Take(h.says(2, h.ack(2)), 8)
	b.Take(h.says(1, frames.Frame{Kind: frames.Ping}), 9)
	if l := only(h.hear(b.Send(9)...), frames.Done); len(l) != 0 {
		t.Error("it came", l)
	}
}

// The timer is layer 12's, told of the same packets and answers; how long an answer was put off counts.
func TestTimerOfLayer12(t *testing.T) {
	a, h := toClient(t, 65536, 3)
	s := loss.New()
	id := open(t, a)
	at, number := 1000, h.best[2]+1
	for i := range 12 {
		a.Write(id, make([]byte, 100*i))
		a.Put(frames.Frame{Kind: frames.Ping})
		for _, d := range a.Send(at) {
			h.hear(d)
			if e := s.Sent(number, len(d), true, at); e != api.OK {
				t.Fatal(e)
			}
			number++
		}
		if i%4 == 1 {
			at += 7
			continue
		}
		at += 30 + i*i
		delay := []int{0, 9, 5, 1<<62 - 1}[i%4]
		f := frames.Frame{Kind: frames.Ack, N: delay, Acks: []frames.Span{{From: h.best[2], To: h.best[2]}}}
		a.Take(h.says(2, f), at)
		if _, _, e := s.Acked([]loss.Span{{From: h.best[2], To: h.best[2]}}, min(delay, 1<<40), at); e != api.OK {
			t.Fatal(e)
		}
		fresh(t, "an answer put off for long", a)
		n, ok := a.Timer()
		want, is := s.Timer()
		if n != want || ok != is {
			t.Fatal(i, n, ok, want, is)
		}
	}
}

// At the timer's time two packets go, of the oldest bytes; what went again isn't sent once more when its first packet is given up.
func TestOldestGoAgain(t *testing.T) {
	a, h := toClient(t, 5000, 3)
	id := open(t, a)
	a.Write(id, make([]byte, 3000))
	l := a.Send(100) // all three are lost
	at, _ := a.Timer()
	again := a.Send(at)
	if len(l) != 3 || len(again) != 2 {
		t.Fatal(len(l), len(again))
	}
	h.hear(again[1])
	a.Take(h.says(2, frames.Frame{Kind: frames.Ack, Acks: []frames.Span{{From: h.best[2], To: h.best[2]}}}), at+20)
	offs := func(l []frames.Frame) []int {
		var out []int
		for _, f := range only(l, frames.Stream) {
			out = append(out, f.Off)
		}
		return out
	}
	second := offs(h.heard[2])
	third := offs(h.hear(a.Send(at + 20)...))
	if len(second) != 1 || len(third) != 1 || third[0] <= second[0] || third[0] < 2000 {
		t.Error("the first bytes are on their way, the second ones came", second, third)
	}
}

// What came by a late answer isn't sent again, though its second packet be lost; nor what was granted.
func TestLateAnswers(t *testing.T) {
	a, h := dial(t, clientConfig(2000, 3)), newHand(t, true, params(t, 2000, 2000, 3))
	h.hear(a.Send(0)...)
	answer := h.ack(0) // of the first packet alone
	a.Send(325)
	a.Take(h.says(0, answer), 326)
	at, ok := a.Timer()
	if l := only(h.hear(a.Send(at)...), frames.Crypto); len(l) != 0 || !ok {
		t.Error("the hello came", len(l))
	}
	a, h = toClient(t, 2000, 3)
	a.Take(h.says(2, piece(1, 0, strings.Repeat("x", 1500), false)), 0)
	a.Read(1, 1500)
	if l := only(h.hear(a.Send(0)...), frames.MaxData); len(l) != 1 {
		t.Error(l)
	}
	a.Take(h.says(2, h.ack(2)), 1)
	a.Put(frames.Frame{Kind: frames.Ping})
	a.Send(1)
	at, ok = a.Timer()
	if got := asking(h.hear(a.Send(at)...)); !ok || !slices.Equal(got, []int{frames.Ping, frames.Ping}) {
		t.Error("what was granted is known", got)
	}
}

// Done, and the streams that are granted, are told again when they are lost, by the timer as well as by later answers.
func TestLostNews(t *testing.T) {
	for _, timed := range []bool{false, true} {
		b, h := accept(t, serverConfig(2000, 3)), newHand(t, false, params(t, 2000, 2000, 3))
		b.Take(h.flight(), 0)
		h.hear(b.Send(0)...)
		b.Take(h.flight(), 0)
		b.Send(0) // is lost: Done
		at := lookAgain(t, b, h, timed)
		if l := only(h.heard[2], frames.Done); len(l) == 0 {
			t.Error(timed, "Done")
		}
		b.Take(h.says(2, h.ack(2), piece(0, 0, "x", true)), at)
		b.Read(0, 9)
		b.Finish(0)
		h.hear(b.Send(at)...)
		b.Take(h.says(2, h.ack(2)), at+1)
		b.Send(at + 1) // is lost: MaxStreams
		b.Take(nil, at+2)
		lookAgain(t, b, h, timed)
		if l := only(h.heard[2], frames.MaxStreams); len(l) == 0 || l[0].N != 4 {
			t.Error(timed, "MaxStreams", l)
		}
	}
}

// lookAgain lets an end find that what it sent last is lost, and hears what it says then.
func lookAgain(t *testing.T, c *conn.Conn, h *hand, timed bool) int {
	t.Helper()
	at, ok := c.Timer()
	if !ok {
		t.Fatal("Timer")
	}
	if timed {
		h.hear(c.Send(at)...)
		return at
	}
	at -= 20
	for range 4 {
		c.Put(frames.Frame{Kind: frames.Ping})
		h.hear(c.Send(at)...)
	}
	c.Take(h.says(2, h.ack(2)), at+1)
	h.hear(c.Send(at + 1)...)
	return at + 1
}

// The levels that count: a client's first one no longer when it spoke at the second; both no longer when the talk is done.
func TestLevelsThatCount(t *testing.T) {
	a, h := dial(t, clientConfig(2000, 3)), newHand(t, true, params(t, 2000, 2000, 3))
	h.hear(a.Send(0)...)
	h.best[0] = -1 // so that the hello isn't answered
	a.Take(h.flight(), 10)
	h.best[0] = 0
	h.hear(a.Send(10)...)
	n := len(h.heard[0])
	for range 3 {
		at, ok := a.Timer()
		if !ok {
			t.Fatal("Timer")
		}
		h.hear(a.Send(at)...)
	}
	if len(h.heard[0]) != n || len(only(h.heard[1], frames.Crypto)) < 4 {
		t.Error("at the first level", h.heard[0][n:])
	}
	a.Take(h.says(2, frames.Frame{Kind: frames.Done}), 1<<20)
	if _, ok := a.Timer(); ok {
		t.Error("Timer")
	}
	b, h := accept(t, serverConfig(2000, 3)), newHand(t, false, params(t, 2000, 2000, 3))
	b.Take(h.flight(), 0)
	h.hear(b.Send(0)...)
	h.talk.Say(1) // the seal is lost
	b.Take(h.flight(), 5)
	if _, ok := b.Timer(); ok || len(b.Send(9999)) != 0 {
		t.Error("all came that it said; it waits")
	}
}

// Small pieces of many streams, and many frames of one's own choice, share datagrams; none of these is left out.
func TestSharedDatagrams(t *testing.T) {
	a, h := toClient(t, 2000, 4)
	for range 4 {
		a.Write(open(t, a), []byte("small"))
	}
	l := a.Send(0)
	if got := only(h.hear(l...), frames.Stream); len(l) != 1 || len(got) != 4 {
		t.Error(len(l), len(got))
	}
	for i := range 16 {
		if e := a.Put(frames.Frame{Kind: frames.Token, Data: strings.Repeat(string(rune('a'+i)), 600)}); e != api.OK {
			t.Fatal(e)
		}
	}
	a.Take(h.says(2, h.ack(2)), 1)
	for i, f := range only(h.hear(a.Send(1)...), frames.Token) {
		if f.Data[0] != byte('a'+i) {
			t.Error(i, f.Data[:1])
		}
	}
	a.Take(h.says(2, h.ack(2)), 2)
	h.hear(a.Send(2)...)
	if got := only(h.heard[2], frames.Token); len(got) != 16 {
		t.Error(len(got))
	}
}

// A long answer leaves room for what is to go, though nothing asked for it; it tells the last numbers.
func TestLongAnswers(t *testing.T) {
	a, h := toClient(t, 2000, 3)
	last := 0
	for i := range 200 {
		last = 100 + i*20000
		a.Take(h.rawAs(2, last, []byte{0, 0, 0}), 0)
	}
	if l := a.Send(0); len(l) != 0 {
		t.Error("nothing asked")
	}
	big := frames.Frame{Kind: frames.Token, Data: strings.Repeat("x", 897)}
	if e := a.Put(big); e != api.OK {
		t.Fatal(e)
	}
	got := h.hear(a.Send(0)...)
	acks := only(got, frames.Ack)
	if len(only(got, frames.Token)) != 1 || len(acks) != 1 || acks[0].Acks[0].To != last || len(acks[0].Acks) < 20 {
		t.Error(len(got), acks)
	}
}

// Many tickets: more bytes of the talk than go at once.
func TestManyTickets(t *testing.T) {
	a, h := toClient(t, 2000, 3)
	for i := range 50 {
		text := strings.Repeat(string(rune('A'+i)), 1990)
		said := "\x04\x00\x07\xc8\x47\xc6" + text
		for _, part := range []string{said[:1000], said[1000:]} {
			if !a.Take(h.says(2, frames.Frame{Kind: frames.Crypto, Off: h.off[2], Data: part}), 0) {
				t.Fatal(i, "Take")
			}
			h.off[2] += len(part)
		}
		if ticket, secret, ok := a.Ticket(); ticket != text || len(secret) != 32 || !ok {
			t.Fatal(i, len(ticket), ok)
		}
	}
	fresh(t, "tickets", a)
}

// At the end of time no timer is waited for any more: what was lost is said again, each time.
func TestEndOfTime(t *testing.T) {
	a, h := toClient(t, 2000, 3)
	id := open(t, a)
	a.Write(id, []byte("late"))
	a.Send(1<<40 - 1)
	if l := a.Send(1<<40 - 1); len(l) != 0 {
		t.Error("ahead of the end", len(l))
	}
	for i := range 3 {
		if at, ok := a.Timer(); at != 1<<40 || !ok {
			t.Error(at, ok)
		}
		if l := only(h.hear(a.Send(1<<40+i)...), frames.Stream); len(l) == 0 || l[0].Data != "late" {
			t.Error(l)
		}
	}
	a.Take(h.says(2, h.ack(2)), 1<<41)
	if at, ok := a.Timer(); ok {
		t.Error(at)
	}
}

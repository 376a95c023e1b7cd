package conn_test

import (
	"math/rand"
	"testing"

	"rhyne/api"
	"rhyne/conn"
	"rhyne/packet"
)

// letter is a datagram on its way to an end.
type letter struct {
	to int
	b  []byte
}

// road is two ends, the client first, and what is on its way between them.
type road struct {
	t    *testing.T
	ends [2]*conn.Conn
	at   int
	way  []letter
	sent int
	lose func(i int) bool // of the i-th datagram
	// what the server got and sent, till it got a packet of level 1
	got, said int
	free      bool
}

func newRoad(t *testing.T, window, streams int) *road {
	t.Helper()
	return &road{t: t, ends: [2]*conn.Conn{dial(t, clientConfig(window, streams)), accept(t, serverConfig(window, streams))}, lose: func(int) bool { return false }}
}

// looks looks at the form of a datagram.
func (r *road) looks(from int, d []byte) {
	r.t.Helper()
	last, whole := -1, len(d)
	if whole == 0 || whole > 1200 {
		r.t.Error("a datagram of", whole)
	}
	for len(d) > 0 {
		x, _, end, e := packet.Get(d, 8)
		if e != api.OK {
			r.t.Fatal("Get", e)
		}
		level := levelOf(r.t, x.Kind)
		if level <= last {
			r.t.Error("levels", last, level)
		}
		if level == 0 && from == 0 && whole != 1200 {
			r.t.Error("a first datagram of", whole)
		}
		last, d = level, d[end:]
	}
}

// saysMore tells whether a datagram has a packet behind the first level.
func saysMore(d []byte) bool {
	for len(d) > 0 {
		x, _, end, e := packet.Get(d, 8)
		if e != api.OK {
			return false
		}
		if x.Kind != packet.Initial {
			return true
		}
		d = d[end:]
	}
	return false
}

// send lets an end send.
func (r *road) send(from int) {
	r.t.Helper()
	l := r.ends[from].Send(r.at)
	if len(l) > 64 {
		r.t.Error(len(l), "datagrams")
	}
	for _, d := range l {
		r.looks(from, d)
		if from == 1 {
			r.said += len(d)
		}
		if r.sent++; !r.lose(r.sent) {
			r.way = append(r.way, letter{to: 1 - from, b: d})
		}
	}
	if next, ok := r.ends[from].Timer(); ok && next <= r.at && r.at < 1<<40 {
		r.t.Error("a timer of", next, "behind a Send at", r.at)
	}
	if !r.free && r.said > 3*r.got {
		r.t.Fatal("the server sent", r.said, "of 3 times", r.got)
	}
}

// deliver lets a datagram come, as it was or changed.
func (r *road) deliver(to int, d []byte) bool {
	if to == 1 {
		r.got += len(d)
		r.free = r.free || saysMore(d)
	}
	return r.ends[to].Take(d, r.at)
}

// come lets all come that is on its way.
func (r *road) come() {
	for len(r.way) > 0 {
		x := r.way[0]
		r.way = r.way[1:]
		r.deliver(x.to, x.b)
	}
}

// timer is the lesser of both ends' timers.
func (r *road) timer() (int, bool) {
	at, ok := r.ends[0].Timer()
	other, too := r.ends[1].Timer()
	if !ok || too && other < at {
		return other, too
	}
	return at, true
}

// round is one of the document's: both ends send, all comes; one behind the other, or both at once.
func (r *road) round(atOnce bool) {
	r.t.Helper()
	r.send(0)
	if !atOnce {
		r.come()
	}
	r.send(1)
	r.come()
	next := r.at + 40
	if at, ok := r.timer(); ok {
		next = max(next, at)
	}
	r.at = next
}

// rounds is so many of them.
func (r *road) rounds(n int) {
	r.t.Helper()
	for range n {
		r.round(false)
	}
}

// ready is a road on which the talk is done, and all is quiet.
func ready(t *testing.T, window, streams int) *road {
	t.Helper()
	r := newRoad(t, window, streams)
	r.rounds(4)
	if !r.ends[0].Ready() || !r.ends[1].Ready() {
		t.Fatal("Ready")
	}
	return r
}

// pattern is n bytes of a stream; no two streams have the same ones.
func pattern(id, n int) []byte {
	b := make([]byte, n)
	for i := range b {
		b[i] = byte(i*7/3 + id*11 + i>>8)
	}
	return b
}

// work is what ends do on four streams: the client writes, the server writes back behind that.
type work struct {
	r       *road
	ids     []int
	each    int
	written [2]map[int]int
	read    [2]map[int]int
	ended   [2]map[int]bool
}

func newWork(r *road, each int) *work {
	w := &work{r: r, each: each}
	for i := range 2 {
		w.written[i], w.read[i], w.ended[i] = map[int]int{}, map[int]int{}, map[int]bool{}
	}
	return w
}

// do does as much of it as can be done; by a random source, some of it. It tells whether all is done.
func (w *work) do(rnd *rand.Rand) bool {
	w.r.t.Helper()
	for w.r.ends[0].Ready() && len(w.ids) < 4 {
		id, e := w.r.ends[0].Open()
		if e != api.OK {
			w.r.t.Fatal("Open", e)
		}
		w.ids = append(w.ids, id)
	}
	done := 0
	for _, id := range w.ids {
		w.write(0, id, rnd)
		w.readAll(1, id, rnd)
		if w.ended[1][id] {
			w.write(1, id, rnd)
		}
		w.readAll(0, id, rnd)
		if w.ended[0][id] {
			done++
		}
	}
	return done == 4
}

func (w *work) write(end, id int, rnd *rand.Rand) {
	w.r.t.Helper()
	at := w.written[end][id]
	n := w.each - at
	if n == 0 {
		return
	}
	if rnd != nil {
		n = rnd.Intn(n + 1)
	}
	if e := w.r.ends[end].Write(id, pattern(id, w.each)[at:at+n]); e != api.OK {
		w.r.t.Fatal("Write", end, id, e)
	}
	w.written[end][id] += n
	if at+n == w.each {
		if e := w.r.ends[end].Finish(id); e != api.OK {
			w.r.t.Fatal("Finish", end, id, e)
		}
	}
}

func (w *work) readAll(end, id int, rnd *rand.Rand) {
	w.r.t.Helper()
	most := 100000
	if rnd != nil {
		most = rnd.Intn(500)
	}
	if w.ended[end][id] {
		return
	}
	s, fin, e := w.r.ends[end].Read(id, most)
	if e == api.ErrMiss && end == 1 {
		return // it didn't hear of it yet
	}
	at := w.read[end][id]
	if e != api.OK || len(s) > most || at+len(s) > w.each || s != string(pattern(id, w.each)[at:at+len(s)]) {
		w.r.t.Fatal("Read", end, id, at, len(s), e)
	}
	w.read[end][id] += len(s)
	w.ended[end][id] = fin
	if fin && w.read[end][id] != w.each {
		w.r.t.Fatal("end", end, id, w.read[end][id])
	}
}

// quiet tells whether nothing is to be done any more.
func (r *road) quiet() bool {
	_, ok := r.timer()
	return !ok && len(r.way) == 0
}

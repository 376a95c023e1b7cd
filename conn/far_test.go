package conn_test

import (
	"bytes"
	"math/rand"
	"slices"
	"strconv"
	"testing"

	"rhyne/api"
	"rhyne/conn"
	"rhyne/frames"
	"rhyne/packet"
)

// within lets a road's work be done when nothing is lost any more, within the document's 150 rounds.
func within(t *testing.T, what string, r *road, w *work, atOnce bool) {
	t.Helper()
	r.lose = func(int) bool { return false }
	for range 150 {
		r.round(atOnce)
		if w.do(nil) {
			return
		}
	}
	t.Fatal(what, "not done in 150 rounds:", r.ends[0].Ready(), r.ends[1].Ready(), w.read)
}

// P16.2: roads that lose each n-th datagram, up to some.
func TestLosingRoads(t *testing.T) {
	for every := 1; every < 8; every++ {
		for off := range every {
			for _, atOnce := range []bool{false, true} {
				r := newRoad(t, 4000, 4)
				r.lose = func(i int) bool { return i%every == off && i < 80 }
				w := newWork(r, 4000)
				for range 40 {
					r.round(atOnce)
					w.do(nil)
				}
				within(t, strconv.Itoa(every)+" "+strconv.Itoa(off), r, w, atOnce)
			}
		}
	}
}

// P16.2: roads of which one way, or both, lose all for some time, at each step of the talk and of the work.
func TestRoadsThatBreak(t *testing.T) {
	for ways := 1; ways < 4; ways++ {
		for begin := range 14 {
			for _, long := range []int{1, 4, 30} {
				r := newRoad(t, 2000, 4)
				w := newWork(r, 3000)
				for n := range begin + long {
					r.send(n % 2)
					if n >= begin {
						r.way = slices.DeleteFunc(r.way, func(x letter) bool { return ways>>x.to&1 == 1 })
					}
					r.come()
					w.do(nil)
					if n%2 == 1 {
						r.at += 40
						if at, ok := r.timer(); ok && n >= begin {
							r.at = max(r.at, at)
						}
					}
				}
				within(t, strconv.Itoa(begin)+" "+strconv.Itoa(long), r, w, long%2 == 0)
			}
		}
	}
}

// happen lets something befall the datagrams on a road for some time.
func (r *road) happen(rnd *rand.Rand, w *work) {
	rates := []float64{0, 0, 0.3, 0.8, 1}
	loss := [2]float64{rates[rnd.Intn(5)], rates[rnd.Intn(5)]}
	hold, twice, change := rnd.Float64()/2, rnd.Float64()/3, rnd.Float64()/3
	jump := []int{10, 60, 500, 20000, 2000000}[rnd.Intn(5)]
	toTimer := rnd.Intn(2) == 0
	for range rnd.Intn(50) {
		r.send(0)
		r.send(1)
		way := r.way
		r.way = nil
		for _, x := range way {
			switch {
			case rnd.Float64() < hold:
				r.way = append(r.way, x)
				continue
			case rnd.Float64() < loss[x.to]:
				continue
			case rnd.Float64() < twice:
				r.way = append(r.way, x)
			case rnd.Float64() < change:
				x.b = bytes.Clone(x.b)
				x.b[rnd.Intn(len(x.b))] ^= byte(1 + rnd.Intn(255))
			case rnd.Float64() < change:
				r.deliver(x.to, x.b[:rnd.Intn(len(x.b))])
			}
			r.deliver(x.to, x.b)
			r.send(rnd.Intn(2))
		}
		r.way = r.way[max(0, len(r.way)-200):]
		if at, ok := r.timer(); ok && toTimer && at < 1<<33 {
			r.at = max(r.at, at)
		}
		r.at += rnd.Intn(jump)
		w.do(rnd)
	}
}

// P16.2, P16.3, P16.4, P3: roads on which anything happens, then nothing any more.
func TestWildRoads(t *testing.T) {
	count := 150
	if testing.Short() {
		count = 30
	}
	for seed := range count {
		for _, atOnce := range []bool{false, true} {
			rnd := rand.New(rand.NewSource(int64(seed)))
			r := newRoad(t, []int{1000, 2000, 4000, 20000, 65536}[rnd.Intn(5)], 4+rnd.Intn(28))
			w := newWork(r, 1+rnd.Intn(4000))
			for range rnd.Intn(8) {
				r.happen(rnd, w)
			}
			within(t, strconv.Itoa(seed), r, w, atOnce)
			for _, c := range r.ends {
				if code, _, over := c.Closed(); over {
					t.Error(seed, "over", code)
				}
			}
			r.rounds(40)
			if !r.quiet() {
				t.Error(seed, "not quiet")
			}
		}
	}
}

// P16.2: small windows: all comes, if it takes its time; a window for all streams, of which each may have as much.
func TestSmallWindows(t *testing.T) {
	for _, window := range []int{64, 100, 500} {
		r := newRoad(t, window, 4)
		r.lose = func(i int) bool { return i%5 == 0 && i < 300 }
		w := newWork(r, 1500)
		for n := 0; !w.do(nil); n++ {
			if n > 1500 {
				t.Fatal(window, w.read)
			}
			r.round(n%3 == 0)
		}
	}
	r := newRoad(t, 500, 4) // the least of which 4000 bytes go both ways on 4 streams in so many rounds
	within(t, "500", r, newWork(r, 4000), true)
}

// P16.1, P16.3: what nobody made: nothing, bytes of any kind, what was cut off, what was made for another end.
func TestMadeUp(t *testing.T) {
	rnd := rand.New(rand.NewSource(1))
	r := newRoad(t, 2000, 3)
	stranger := newRoad(t, 2000, 3)
	other := clientConfig(2000, 3)
	other.Name = "client-2"
	stranger.ends[0] = dial(t, other)
	for range 6 {
		for i, c := range r.ends {
			for range 40 {
				b := make([]byte, rnd.Intn(1300))
				for j := range b {
					b[j] = byte(rnd.Intn(256))
				}
				if len(b) > 30 && rnd.Intn(2) == 0 {
					copy(b, []byte{0xc0 | byte(rnd.Intn(64)), 0, 0, 0, 1, 8})
					copy(b[6:], []string{"client-1", "server-1"}[i])
				}
				if c.Take(b, r.at) {
					t.Fatal("made up")
				}
			}
			if c.Take(nil, r.at) || c.Take([]byte{}, r.at) {
				t.Error("nothing")
			}
		}
		r.send(0)
		for _, x := range r.way {
			for n := range len(x.b) {
				if n%50 == 0 && x.b[0]&0x80 == 0 && r.ends[x.to].Take(x.b[:n], r.at) {
					t.Error("cut at", n)
				}
			}
		}
		r.come()
		r.send(1)
		r.come()
		r.at += 40
		stranger.send(0)
		for _, x := range stranger.way {
			stranger.ends[1].Take(x.b, 0)
			for _, d := range stranger.ends[1].Send(0) {
				if r.ends[0].Take(d, r.at) {
					t.Error("an answer to another one")
				}
			}
		}
		stranger.way = nil
	}
	w := newWork(r, 100)
	r.rounds(3)
	if !r.ends[0].Ready() || !r.ends[1].Ready() {
		t.Fatal("Ready")
	}
	w.each = 10
	for range 3 {
		id, e := r.ends[0].Open()
		if e != api.OK || r.ends[0].Write(id, []byte("text")) != api.OK {
			t.Error(e)
		}
	}
	r.rounds(1)
	if s, _, e := r.ends[1].Read(8, 9); s != "text" || e != api.OK {
		t.Error(s, e)
	}
}

// twin is a server, or a client, to which the first so many datagrams of a talk came, and the next one.
func twin(t *testing.T, to, steps int) (*conn.Conn, []byte) {
	t.Helper()
	r := newRoad(t, 2000, 3)
	for i := range steps {
		r.send(i % 2)
		if i+1 == steps {
			break
		}
		r.come()
		if r.ends[0].Ready() {
			if id, e := r.ends[0].Open(); e == api.OK {
				r.ends[0].Write(id, []byte("text"))
			}
		}
	}
	if len(r.way) != 1 || r.way[0].to != to {
		t.Fatal(steps, len(r.way))
	}
	return r.ends[to], r.way[0].b
}

// parts are where the packets of a datagram end.
func parts(t *testing.T, d []byte) []int {
	t.Helper()
	var l []int
	for at := 0; at < len(d); {
		_, _, end, e := packet.Get(d[at:], 8)
		if e != api.OK {
			t.Fatal("Get", e)
		}
		at += end
		l = append(l, at)
	}
	return l
}

// answers are what an end sends within some time, one behind the other.
func answers(c *conn.Conn) []byte {
	var out []byte
	for _, at := range []int{0, 40, 400, 2000} {
		for _, d := range c.Send(at) {
			out = append(out, d...)
		}
		next, ok := c.Timer()
		out = strconv.AppendInt(out, int64(next), 10)
		out = strconv.AppendBool(out, ok)
	}
	return out
}

// P16.3: a byte changed anywhere in a packet does what that packet's loss would, at each step of a talk.
func TestChangedBytes(t *testing.T) {
	for steps := 1; steps < 7; steps++ {
		to := steps % 2
		_, d := twin(t, to, steps)
		ends := parts(t, d)
		lost := [][]byte{answersTo(t, to, steps, nil)} // what is answered if this many packets, from the last one on, or the first one alone are lost
		for _, end := range ends[:len(ends)-1] {
			lost = append(lost, answersTo(t, to, steps, d[:end]), answersTo(t, to, steps, d[end:]))
		}
		for i := 0; i < len(d); i += 1 + i/60 {
			b := bytes.Clone(d)
			b[i] ^= 1 << (i % 8)
			if c, _ := twin(t, to, steps); c.Take(b, 0) && len(ends) == 1 {
				t.Fatal("step", steps, "byte", i, "of", len(d), "is taken")
			}
			if got := answersTo(t, to, steps, b); !slices.ContainsFunc(lost, func(x []byte) bool { return bytes.Equal(x, got) }) {
				t.Fatal("step", steps, "byte", i, "of", len(d))
			}
		}
	}
}

// answersTo is what an end answers to a datagram at a step of a talk.
func answersTo(t *testing.T, to, steps int, d []byte) []byte {
	t.Helper()
	c, _ := twin(t, to, steps)
	c.Take(d, 0)
	return answers(c)
}

// P16.3: a datagram that comes again, at once or much later, does nothing.
func TestOldDatagrams(t *testing.T) {
	r := newRoad(t, 2000, 4)
	var old []letter
	w := newWork(r, 4000)
	for range 30 {
		for from := range 2 {
			r.send(from)
			old = append(old, r.way...)
			r.come()
		}
		w.do(nil)
		r.at += 40
	}
	if len(old) < 20 {
		t.Fatal(len(old))
	}
	for _, x := range old {
		if r.ends[x.to].Take(x.b, r.at) {
			t.Error("once more")
		}
	}
	for _, c := range r.ends {
		if l := c.Send(r.at); len(l) != 0 {
			t.Error(len(l))
		}
	}
}

// P16.3: packets with gaps between their numbers, more than an Ack tells: each is taken once, in whatever order.
func TestManyGaps(t *testing.T) {
	b, h := toServer(t, 2000, 3)
	ping := []byte{frames.Ping}
	var even, odd [][]byte
	for i := range 500 {
		d := h.rawAs(2, 100+i, ping)
		if i%2 == 0 {
			even = append(even, d)
		} else {
			odd = append(odd, d)
		}
	}
	for _, l := range [][][]byte{even, odd} {
		for i := range 500 {
			if want := i < 250; b.Take(l[i%250], 0) != want {
				t.Fatal(i, want)
			}
		}
		for _, f := range only(h.hear(b.Send(0)...), frames.Ack) {
			if len(f.Acks) == 0 || f.Acks[0].To < 598 || len(f.Acks) > api.MaxRanges {
				t.Error(f.Acks)
			}
		}
	}
	d := h.rawAs(2, 1<<31, ping)
	if !b.Take(d, 0) || b.Take(d, 0) || b.Take(odd[7], 0) {
		t.Error("a far number")
	}
}

// P16.3: beyond the most gaps that are known the lowest packets count as come: none is taken twice.
func TestTooManyGaps(t *testing.T) {
	b, h := toServer(t, 2000, 3)
	old := h.rawAs(2, 50, []byte{frames.Ping})
	if !b.Take(old, 0) || b.Take(old, 0) {
		t.Error("Take")
	}
	late := h.rawAs(2, 9999, []byte{frames.Ping})
	for i := range 4200 {
		if !b.Take(h.rawAs(2, 100+2*i, []byte{frames.Ping}), 0) {
			t.Fatal(i)
		}
	}
	if b.Take(old, 0) || !b.Take(late, 0) || b.Take(late, 0) {
		t.Error("Take")
	}
	if l := only(h.hear(b.Send(0)...), frames.Ack); len(l) != 1 || l[0].Acks[0].To != 9999 {
		t.Error(l)
	}
}

// P16.3: what was held back is taken, however many packets overtook it.
func TestOvertaken(t *testing.T) {
	r := ready(t, 65536, 3)
	a, b := r.ends[0], r.ends[1]
	id := open(t, a)
	a.Write(id, []byte("held back"))
	held := a.Send(r.at)
	for range 400 {
		a.Put(frames.Frame{Kind: frames.Ping})
		r.send(0)
		r.come()
	}
	if len(held) != 1 || !b.Take(held[0], r.at) || b.Take(held[0], r.at) {
		t.Error("Take")
	}
	if s, _, e := b.Read(id, 99); s != "held back" || e != api.OK {
		t.Error(s, e)
	}
}

// P16.4: a server sends no more than three times what came, however often it is asked, till a packet of level 1 came.
func TestCredit(t *testing.T) {
	b, h := accept(t, serverConfig(2000, 3)), newHand(t, false, params(t, 2000, 2000, 3))
	sent, came, at := 0, 0, 0
	send := func() {
		t.Helper()
		for range 40 {
			for _, d := range b.Send(at) {
				sent += len(d)
				h.hear(d)
			}
			at += 3000
		}
		if sent > 3*came {
			t.Fatal(sent, came)
		}
	}
	send()
	hello := h.flight()
	b.Take(hello, at)
	came += len(hello)
	send()
	if sent < 2*came {
		t.Error("it may send more", sent, came)
	}
	if n, ok := b.Timer(); n != 0 || ok {
		t.Error("it waits for bytes, not for a time", n, ok)
	}
	b.Take(hello, at)
	b.Take(append([]byte{0x40}, "server-1 and bytes of no packet of anybody at all"...), at)
	bytes := sent
	if send(); sent != bytes {
		t.Error("for bytes of nobody", sent, bytes)
	}
	for range 3 {
		d := h.says(0, frames.Frame{Kind: frames.Ping}, frames.Frame{Kind: frames.Padding, N: 50})
		if !b.Take(d, at) {
			t.Error("Take")
		}
		if _, ok := b.Timer(); !ok {
			t.Error("Timer")
		}
		came += len(d)
		send()
	}
	bytes = sent
	if d := h.says(1, frames.Frame{Kind: frames.Ping}); !b.Take(d, at) {
		t.Error("Take")
	}
	for range 40 {
		for _, d := range b.Send(at) {
			sent += len(d)
		}
		if next, ok := b.Timer(); ok {
			at = max(at, next)
		}
	}
	if sent < bytes+3000 {
		t.Error("it may send what it will now", sent-bytes)
	}
}

// A client asks on as long as the server may wait for bytes: its hello was told to have come, and nothing else comes.
func TestClientKeepsAsking(t *testing.T) {
	a, h := dial(t, clientConfig(2000, 3)), newHand(t, true, params(t, 2000, 2000, 3))
	h.hear(a.Send(0)...)
	for i := range 4 {
		a.Take(h.says(0, h.ack(0)), i*40)
		if got := asking(h.hear(a.Send(i * 40)...)); !slices.Equal(got, []int{frames.Ping}) {
			t.Fatal(i, got)
		}
		if _, ok := a.Timer(); !ok {
			t.Error("Timer")
		}
	}
	h.talk.Say(1) // is lost
	a.Take(h.flight(), 200)
	h.hear(a.Send(200)...)
	if got := asking(h.heard[1]); !slices.Equal(got, []int{frames.Ping}) {
		t.Fatal(got)
	}
	a.Take(h.says(1, h.ack(1)), 240)
	if l := a.Send(240); len(l) != 0 {
		t.Error("the server may send what it will, and it knows")
	}
}

package farm_test

import (
	"bytes"
	"math"
	"testing"

	"rhyne/farm"
	"rhyne/packet"
)

// fresh is a farm of which just the secondary's first datagram is on its way, for the primary.
func fresh(t testing.TB) *farm.Farm {
	t.Helper()
	f := newFarm(t, 1, version(1))
	if from, to, b := f.Head(); f.Way() != 1 || from != farm.Secondary || to != farm.Primary || len(b) != 1200 {
		t.Fatal("at first", f.Way(), from, to, len(b))
	}
	return f
}

// answered tells whether just the primary's answer to that is on its way.
func answered(f *farm.Farm) bool {
	from, to, _ := f.Head()
	return f.Way() >= 1 && from == farm.Primary && to == farm.Secondary
}

// What becomes of the first datagram by a fate.
func TestFates(t *testing.T) {
	for fate := -16; fate < 24; fate++ {
		f := fresh(t)
		_, _, first := f.Head()
		f.Deliver(fate, 77)
		switch (fate + 16) % 8 {
		case 1, 4:
			if f.Way() != 0 {
				t.Error(fate, "comes")
			}
		case 3:
			if _, _, b := f.Head(); f.Way() != 1 || !bytes.Equal(b, first) {
				t.Error(fate, "doesn't stay")
			}
		default:
			if !answered(f) {
				t.Error(fate, "doesn't come")
			}
		}
		if f.Now() != 0 {
			t.Error(fate, "takes time")
		}
	}
	f := fresh(t)
	for range 3 {
		f.Deliver(1, 0)
	}
	f.Run(40)
	if f.Zone(farm.Secondary) == nil {
		t.Error("lost once, for good")
	}
}

// A fate that sends a datagram behind all others changes nothing of them.
func TestBehind(t *testing.T) {
	f := fresh(t)
	ask(t, f, farm.Secondary, asks("a.x."))
	ask(t, f, farm.Forwarder, asks("a.x."))
	want := [][3]int{{2, 1}, {0, 2}, {0, 3}}
	var all [][]byte
	for i := range 7 {
		from, to, b := f.Head()
		if w := want[i%3]; f.Way() != 3 || from != w[0] || to != w[1] {
			t.Fatal(i, f.Way(), from, to)
		}
		all = append(all, b)
		if i >= 3 && !bytes.Equal(all[i-3], b) {
			t.Error(i, "another one")
		}
		f.Deliver(3, i)
	}
	f.Run(20)
	if f.Zone(farm.Secondary) == nil || state(t, f, 1) != farm.Answered || state(t, f, 2) != farm.Answered {
		t.Error("behind")
	}
}

// A byte that is changed, whichever one, is as if the datagram were lost; that it comes twice, or others ahead of it that nobody made, is nothing.
func TestChanged(t *testing.T) {
	for _, at := range []int{math.MinInt, -1201, -1200, -1, 0, 1, 5, 6, 7, 26, 27, 28, 36, 600, 1199, 1200, 1 << 32, math.MaxInt} {
		f := fresh(t)
		f.Deliver(4, at)
		if f.Way() != 0 || f.Guests(farm.Primary) != 0 {
			t.Error(at, "came")
		}
	}
	f := fresh(t)
	for i := range 1500 {
		for range f.Way() {
			f.Deliver(4, i)
		}
		if f.Way() != 0 || f.Guests(farm.Primary) != 0 {
			t.Fatal("a byte that is the same")
		}
		f.Tick(1000)
	}
	for _, fate := range []int{2, 5} {
		f := newFarm(t, 1, version(1, great(1, 40, 300)...))
		n := ask(t, f, farm.Forwarder, asks("a0.x."))
		for range 40 {
			for range f.Way() {
				f.Deliver(fate, 9)
			}
			f.Tick(40)
		}
		if f.Zone(farm.Secondary) == nil || state(t, f, n) != farm.Answered {
			t.Error("fate", fate)
		}
		if n := f.Guests(farm.Primary); n != 2 {
			t.Error("fate", fate, "guests", n)
		}
	}
}

// Time goes on by as many ticks as are told, and by no call that doesn't tell so.
func TestTicks(t *testing.T) {
	f, now := newFarm(t, 1, version(1)), 0
	for n, want := range map[int]int{math.MinInt: 1, -1: 1, 0: 1, 1: 1, 2: 2, 9999: 9999, 10000: 10000, 10001: 10000, math.MaxInt: 10000} {
		f.Tick(n)
		if now += want; f.Now() != now {
			t.Fatal("Tick", n, f.Now(), now)
		}
	}
	update(t, f, version(2))
	ask(t, f, 1, asks("a.x."))
	f.Deliver(0, 0)
	f.Restart(2)
	f.Answer(1)
	if f.Now() != now {
		t.Error("other calls", f.Now(), now)
	}
}

// By how much time goes on with each round.
func TestRounds(t *testing.T) {
	f := newFarm(t, 1, version(1))
	quiet := 0
	for range 500 {
		before := f.Now()
		step(f, free)
		busy := f.Way() > 0
		f.Run(0)
		f.Run(-1)
		if f.Now() != before {
			t.Fatal("no rounds", f.Now(), before)
		}
		// Nothing comes in a round of a farm that is quiet; in another one what came went ahead.
		if busy {
			f.Tick(40)
			continue
		}
		f.Run(1)
		if passed := f.Now() - before; passed < 1 || passed > 1000 {
			t.Fatal("a round of", passed)
		} else if passed < 1000 {
			quiet++
			if f.Way() == 0 {
				t.Fatal("nothing to do at", f.Now())
			}
		}
	}
	if quiet == 0 {
		t.Error("never anything to do")
	}
	f, g := newFarm(t, 1, version(1)), newFarm(t, 1, version(1))
	f.Run(1)
	if f.Now() != 40 {
		t.Error("a round of", f.Now())
	}
	for _, n := range []int{1000, 1001, math.MaxInt} {
		f, g = newFarm(t, 1, version(1)), newFarm(t, 1, version(1))
		f.Run(n)
		for range 1000 {
			g.Run(1)
		}
		if f.Now() != g.Now() || f.Way() != g.Way() {
			t.Error("Run", n, f.Now(), g.Now())
		}
	}
	for _, l := range [][]int{{1, 1, 1, 1, 1, 1}, {2, 4}, {3, 3}, {6}} {
		f, g = newFarm(t, 1, version(1)), newFarm(t, 1, version(1))
		for _, n := range l {
			f.Run(n)
		}
		for range 6 {
			g.Run(1)
		}
		if f.Now() != g.Now() || f.Way() != g.Way() {
			t.Error("Run", l, f.Now(), g.Now())
		}
	}
}

// In a round just that comes which is on its way when it begins.
func TestOneFlightARound(t *testing.T) {
	f := fresh(t)
	for i, want := range []int{farm.Primary, farm.Secondary, farm.Primary, farm.Secondary, farm.Primary} {
		f.Run(1)
		if from, _, _ := f.Head(); from != want || f.Now() != 40*(i+1) {
			t.Fatal("round", i, from, f.Now())
		}
	}
}

// Of more than 2000 datagrams on their way the first ones are lost.
func TestMaxWay(t *testing.T) {
	f := newFarm(t, 1, version(1))
	_, _, first := f.Head()
	for server := 1; server <= 3; server++ {
		ask(t, f, server, asks("a.x."))
	}
	for n := 0; f.Way() < 2000; n++ {
		if _, _, b := f.Head(); !bytes.Equal(b, first) {
			t.Fatal("the first one is lost of", f.Way())
		}
		if n%20 == 19 {
			f.Ask(1+n/20%3, asks("a.x."))
		}
		if f.Tick(3000); n > 20000 {
			t.Fatal("just", f.Way())
		}
	}
	f.Ask(1, asks("b.x."))
	for range 20 {
		f.Tick(5000)
		if f.Way() != 2000 {
			t.Error(f.Way(), "on their way")
		}
	}
	if _, _, b := f.Head(); bytes.Equal(b, first) {
		t.Error("the first one isn't lost")
	}
	f.Run(200)
	if f.Zone(farm.Secondary) == nil {
		t.Error("no zone behind that")
	}
}

// names is the names by which a node calls another one first: one for each connection that it makes.
type names map[string]bool

// see looks at the first datagram on its way.
func (n names) see(t testing.TB, f *farm.Farm, from, to int) {
	t.Helper()
	x, y, b := f.Head()
	if x != from || y != to || len(b) != 1200 || b[0]&0xf0 != 0xc0 {
		return
	}
	h, _, _, e := packet.Get(b, 8)
	if e != 0 || h.Kind != packet.Initial {
		t.Fatal("Get", e)
	}
	if len(h.Dst) == 20 {
		n[h.Dst] = true
	}
}

// seeing is a road that also looks at all datagrams between two nodes.
func (n names) seeing(t testing.TB, f *farm.Farm, from, to int, lose road) road {
	return func(x, y int) bool {
		n.see(t, f, from, to)
		return lose(x, y)
	}
}

package farm_test

import (
	"bytes"
	"strconv"
	"testing"

	"rhyne/api"
	"rhyne/farm"
	"rhyne/zone"
)

// quiet lets all come till nothing is on its way.
func quiet(t testing.TB, f *farm.Farm) {
	t.Helper()
	for range 100 {
		if step(f, free); f.Way() == 0 {
			return
		}
		f.Tick(40)
	}
	t.Fatal("not quiet")
}

// A question without an answer is given up 40000 ticks behind its asking, and not ahead of that; for good.
func TestGiveUp(t *testing.T) {
	for server := farm.Primary; server <= farm.Forwarder; server++ {
		f := newFarm(t, 1, version(1))
		f.Tick(77)
		cut := without(farm.Stub, server)
		n := ask(t, f, server, asks("a.x."))
		pass(f, 1000, 100, cut)
		later := ask(t, f, server, asks("b.x."))
		pass(f, 38999, 1000, cut)
		if f.Now() != 77+39999 || state(t, f, n) != farm.Waits {
			t.Fatal("at", f.Now(), state(t, f, n))
		}
		f.Tick(1)
		if state(t, f, n) != farm.GaveUp || state(t, f, later) != farm.Waits {
			t.Fatal("at", f.Now(), state(t, f, n), state(t, f, later))
		}
		quiet(t, f)
		if state(t, f, n) != farm.GaveUp || state(t, f, later) != farm.Answered {
			t.Error("then", state(t, f, n), state(t, f, later))
		}
	}
}

// Those that are given up wait no longer, so that others may be asked.
func TestGiveUpMakesRoom(t *testing.T) {
	f := newFarm(t, 1, version(1))
	cut := without(farm.Stub, farm.Primary)
	for i := range 20 {
		ask(t, f, farm.Primary, asks("a"+strconv.Itoa(i)+".x."))
		pass(f, 100, 100, cut)
	}
	pass(f, 40000-2000-1, 500, cut)
	for i := range 20 {
		if _, e := f.Ask(farm.Secondary, asks("x.")); e != api.ErrFull {
			t.Fatal(i, "Ask", e)
		}
		pass(f, 1, 1, cut)
		ask(t, f, farm.Primary, asks("b.x."))
		pass(f, 99, 99, cut)
	}
}

// A connection that isn't ready within 5000 ticks is made anew, and what waits is asked there.
func TestNewIfNotReady(t *testing.T) {
	for server := farm.Primary; server <= farm.Forwarder; server++ {
		f, seen := newFarm(t, 1, version(1)), names{}
		lose := seen.seeing(t, f, farm.Stub, server, without(farm.Stub, server))
		n := ask(t, f, server, asks("a.x."))
		for i := range 4 {
			pass(f, 4999, 200, lose)
			if len(seen) != 1+i {
				t.Fatal(server, "at", f.Now(), len(seen))
			}
			f.Tick(1)
			step(f, lose)
			if len(seen) != 2+i {
				t.Fatal(server, "at", f.Now(), len(seen))
			}
		}
		pass(f, 5600, 40, free)
		if state(t, f, n) != farm.Answered {
			t.Error(server, "no answer")
		}
	}
}

// A connection on which nothing comes for 5000 ticks, while something waits, is made anew.
func TestNewIfSilent(t *testing.T) {
	for server := farm.Primary; server <= farm.Forwarder; server++ {
		f, seen := newFarm(t, 1, version(1)), names{}
		look := seen.seeing(t, f, farm.Stub, server, free)
		lose := seen.seeing(t, f, farm.Stub, server, func(from, to int) bool { return from == server && to == farm.Stub })
		n := ask(t, f, server, asks("a.x."))
		pass(f, 800, 40, look)
		if state(t, f, n) != farm.Answered || len(seen) != 1 {
			t.Fatal(server, "at first", len(seen))
		}
		n = ask(t, f, server, asks("b.x."))
		pass(f, 4000, 40, lose)
		if len(seen) != 1 {
			t.Error(server, "too early", len(seen))
		}
		pass(f, 1000, 40, lose)
		if len(seen) != 2 || state(t, f, n) != farm.Waits {
			t.Error(server, "too late", len(seen))
		}
		pass(f, 1000, 40, look)
		if state(t, f, n) != farm.Answered || len(seen) != 2 {
			t.Error(server, "no answer", len(seen))
		}
	}
}

// In rounds, too, a connection is made anew just when its time came.
func TestNewInTime(t *testing.T) {
	f, seen := newFarm(t, 1, version(1)), names{}
	f.Run(20)
	ask(t, f, farm.Primary, asks("a.x."))
	last := f.Now()
	for len(seen) < 6 {
		count := len(seen)
		for range f.Way() {
			seen.see(t, f, farm.Stub, farm.Primary)
			f.Deliver(3, 0)
		}
		if len(seen) > count {
			if passed := f.Now() - last; count > 0 && (passed < 5000 || passed >= 5040) {
				t.Error("a new one behind", passed)
			}
			last = f.Now()
		}
		f.Run(1)
		// It is never ready.
		f.Restart(farm.Primary)
	}
	f = newFarm(t, 1, version(1))
	n := ask(t, f, farm.Primary, asks("a.x."))
	for state(t, f, n) == farm.Waits {
		f.Run(1)
	}
	f.Restart(farm.Primary)
	ask(t, f, farm.Primary, asks("b.x."))
	last, seen = f.Now(), names{}
	for len(seen) == 0 && f.Now() < last+20000 {
		f.Run(1)
		for range f.Way() {
			seen.see(t, f, farm.Stub, farm.Primary)
			f.Deliver(3, 0)
		}
	}
	// The answer came when the last round began.
	if passed := f.Now() - last; passed != 5000-40 {
		t.Error("a new one behind", passed)
	}
}

// Whoever makes a connection anew closes the other one.
func TestCloses(t *testing.T) {
	f := newFarm(t, 1, version(1))
	for range 4 {
		n := ask(t, f, farm.Forwarder, asks("a.x."))
		step(f, free)
		if n := f.Guests(farm.Forwarder); n != 1 {
			t.Error(n, "guests")
		}
		pass(f, 7000, 40, free)
		if state(t, f, n) != farm.Answered {
			t.Error("no answer")
		}
	}
}

// A connection that comes too late to be of use is forgotten.
func TestLateGuest(t *testing.T) {
	f := newFarm(t, 1, version(1))
	pass(f, 400, 40, free)
	n := ask(t, f, farm.Forwarder, asks("a.x."))
	_, _, first := f.Head()
	cut := without(farm.Stub, farm.Forwarder)
	for f.Now() < 8000 {
		for range f.Way() {
			from, to, b := f.Head()
			switch {
			case bytes.Equal(b, first):
				f.Deliver(3, 0)
			case f.Now() < 5400 && cut(from, to):
				f.Deliver(1, 0)
			default:
				f.Deliver(0, 0)
			}
		}
		f.Tick(40)
	}
	if state(t, f, n) != farm.Answered || f.Guests(farm.Forwarder) != 1 {
		t.Fatal("no answer", f.Guests(farm.Forwarder))
	}
	step(f, free)
	if n := f.Guests(farm.Forwarder); n != 2 {
		t.Error(n, "guests")
	}
	pass(f, 4900, 100, free)
	if n := f.Guests(farm.Forwarder); n != 2 {
		t.Error(n, "guests")
	}
	pass(f, 200, 100, free)
	if n := f.Guests(farm.Forwarder); n != 1 {
		t.Error(n, "guests")
	}
}

// One connection is enough for any questions, as long as it isn't silent.
func TestOneConnection(t *testing.T) {
	f, seen := newFarm(t, 1, version(1)), names{}
	look := seen.seeing(t, f, farm.Stub, farm.Primary, free)
	for range 60 {
		n := ask(t, f, farm.Primary, asks("a.x."))
		pass(f, 400, 40, look)
		if state(t, f, n) != farm.Answered {
			t.Fatal("no answer at", f.Now())
		}
	}
	if len(seen) != 1 || f.Guests(farm.Primary) != 2 {
		t.Error(len(seen), "connections", f.Guests(farm.Primary))
	}
}

// A server that was restarted, at any time of a talk, answers as soon as there is a new connection.
func TestRestarts(t *testing.T) {
	l := version(1, a("a.x.", 5, "1234"))
	z := build(t, l)
	for server := farm.Primary; server <= farm.Forwarder; server++ {
		for rounds := range 9 {
			f := newFarm(t, rounds, l)
			n := ask(t, f, farm.Forwarder, asks("a.x."))
			f.Run(rounds)
			m := ask(t, f, server, asks("a.x."))
			f.Restart(server)
			if server == farm.Secondary && f.Zone(server) != nil {
				t.Error("Zone")
			}
			f.Run(60)
			if !same(answer(t, f, n), says(t, z, asks("a.x."))) || state(t, f, m) != farm.Answered || !zone.Same(f.Zone(farm.Secondary), z) {
				t.Error(server, rounds, state(t, f, m))
			}
		}
	}
	f := newFarm(t, 1, l)
	f.Run(10)
	for _, n := range []int{-1, 0, 4} {
		f.Restart(n)
		if f.Zone(farm.Secondary) == nil || f.Guests(farm.Primary) != 1 {
			t.Error("Restart", n)
		}
	}
	f.Restart(farm.Primary)
	if !zone.Same(f.Zone(farm.Primary), z) || f.Guests(farm.Primary) != 0 {
		t.Error("the primary's")
	}
}

// More questions than streams, and answers of which just the first part counts, however great the rest of them is.
func TestManyGreatAnswers(t *testing.T) {
	l := version(1, great(1, 298, 1000)...)
	f, want := newFarm(t, 1, l), says(t, build(t, l), whole)
	f.Run(60)
	for range 20 {
		ask(t, f, farm.Primary, whole)
	}
	f.Run(200)
	for n := 1; n <= 20; n++ {
		if m := answer(t, f, n); !same(m, want) {
			t.Fatalf("%d: %+v", n, m)
		}
	}
	f.Run(1000)
	if f.Asked() > 1 {
		t.Error(f.Asked(), "are still asked")
	}
}

// What is kept of connections is no more than is needed, whatever is lost.
func TestForgets(t *testing.T) {
	f := newFarm(t, 1, version(1))
	for i := range 60 {
		lose := free
		if i%2 == 1 {
			// Whoever closes isn't heard.
			lose = func(from, to int) bool { return from < to || from == farm.Secondary }
		}
		f.Ask(1+i%3, asks("a.x."))
		pass(f, 8000, 300, lose)
	}
	for server := farm.Primary; server <= farm.Forwarder; server++ {
		if n := f.Guests(server); n > 9 {
			t.Error(server, "has", n, "guests")
		}
	}
	pass(f, 20000, 400, free)
	for server, most := range []int{0, 3, 1, 1} {
		if n := f.Guests(server); n > most {
			t.Error(server, "has", n, "guests")
		}
	}
}

// At most 16 questions are on their way on a connection at one time.
func TestStreams(t *testing.T) {
	f := newFarm(t, 1, version(1))
	for range 20 {
		ask(t, f, farm.Primary, asks("a.x."))
	}
	count := func() (answered int) {
		for n := 1; n <= 20; n++ {
			answered += state(t, f, n)
		}
		return answered
	}
	for range 20 {
		if f.Run(1); count() > 0 {
			break
		}
	}
	if n := count(); n != 16 {
		t.Error(n, "answers at one time")
	}
	f.Run(10)
	if n := count(); n != 20 {
		t.Error(n, "answers")
	}
}

// Of what is asked at most 20000 bytes are on their way at one time.
func TestWindow(t *testing.T) {
	f := newFarm(t, 1, version(1, great(1, 298, 1000)...))
	f.Run(100)
	most := 0
	for range 3 {
		ask(t, f, farm.Primary, whole)
	}
	for range 60 {
		sum := 0
		for range f.Way() {
			if from, to, b := f.Head(); from == farm.Primary && to == farm.Stub {
				sum += len(b)
			}
			f.Deliver(0, 0)
		}
		most = max(most, sum)
		f.Tick(40)
	}
	if most < 19000 || most > 21000 {
		t.Error(most, "bytes at one time")
	}
}

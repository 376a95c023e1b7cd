package farm_test

import (
	"slices"
	"testing"

	"rhyne/farm"
	"rhyne/zone"
)

// primarySecondary is the road on which zones are handed over, cut off.
var primarySecondary = without(farm.Primary, farm.Secondary)

// untilZone lets time go on, so many ticks at a time, till the secondary has a version. It tells when.
func untilZone(t testing.TB, f *farm.Farm, each int, z *zone.Zone) int {
	t.Helper()
	for range 4000 {
		if step(f, free); zone.Same(f.Zone(farm.Secondary), z) {
			return f.Now()
		}
		f.Tick(each)
	}
	t.Fatal("no zone")
	return 0
}

// untilAsked lets time go on tick by tick, and all be lost, till the secondary sends something.
func untilAsked(t testing.TB, f *farm.Farm) int {
	t.Helper()
	for range 20000 {
		if from, to, _ := f.Head(); from == farm.Secondary && to == farm.Primary {
			return f.Now()
		}
		step(f, primarySecondary)
		f.Tick(1)
	}
	t.Fatal("never asked")
	return 0
}

// The secondary asks at once, and 2000 ticks behind each success.
func TestAsksAfterSuccess(t *testing.T) {
	f := newFarm(t, 1, version(1))
	success := untilZone(t, f, 10, build(t, version(1)))
	for n := 2; n < 6; n++ {
		quiet(t, f)
		if at := untilAsked(t, f); at != success+2000 {
			t.Fatal("asked at", at, "behind a success at", success)
		}
		update(t, f, version(n))
		success = untilZone(t, f, 10, build(t, version(n)))
	}
	// A success is, too, that nothing has changed.
	quiet(t, f)
	if at := untilAsked(t, f); at != success+2000 {
		t.Fatal("asked at", at)
	}
	quiet(t, f)
	if at := untilAsked(t, f); at < success+4000 || at > success+4200 {
		t.Error("asked at", at, "behind", success+2000)
	}
}

// Within 10000 ticks there must be a success; 1000 behind that it asks again. Each connection has 5000 ticks.
func TestAsksAfterFailure(t *testing.T) {
	f, seen := newFarm(t, 1, version(1)), names{}
	lose := seen.seeing(t, f, farm.Secondary, farm.Primary, primarySecondary)
	step(f, lose)
	for i, at := range []int{5000, 11000, 16000, 22000, 27000, 33000} {
		pass(f, at-1-f.Now(), 500, lose)
		if len(seen) != 1+i {
			t.Fatal("at", f.Now(), len(seen))
		}
		f.Tick(1)
		step(f, lose)
		if len(seen) != 2+i {
			t.Fatal("at", f.Now(), len(seen))
		}
	}
	untilZone(t, f, 40, build(t, version(1)))
}

// Behind 60000 ticks without a success it has no zone, and says so; then it takes the last version.
func TestHolds(t *testing.T) {
	f, l := newFarm(t, 1, version(1, a("a.x.", 5, "1234"))), version(1, a("a.x.", 5, "1234"))
	q, z := asks("a.x."), build(t, l)
	success := untilZone(t, f, 10, z)
	told := func() message {
		t.Helper()
		n := ask(t, f, farm.Secondary, q)
		pass(f, 400, 40, primarySecondary)
		return answer(t, f, n)
	}
	pass(f, 30000, 100, primarySecondary)
	update(t, f, version(2))
	if m := told(); !same(m, says(t, z, q)) {
		t.Errorf("%+v", m)
	}
	pass(f, success+59999-f.Now(), 100, primarySecondary)
	if !zone.Same(f.Zone(farm.Secondary), z) {
		t.Error("no zone at", f.Now()-success)
	}
	f.Tick(1)
	if f.Zone(farm.Secondary) != nil {
		t.Error("a zone at", f.Now()-success)
	}
	if m := told(); !same(m, only(q, 2)) {
		t.Errorf("%+v", m)
	}
	untilZone(t, f, 40, build(t, version(2)))
	if m := told(); !same(m, says(t, build(t, version(2)), q)) {
		t.Errorf("%+v", m)
	}
}

// A success that tells nothing new lets the zone hold, too.
func TestHoldsAsLongAsItIsTheLast(t *testing.T) {
	f := newFarm(t, 1, version(1))
	f.Run(20)
	for f.Now() < 200000 {
		if f.Run(1); f.Zone(farm.Secondary) == nil {
			t.Fatal("no zone at", f.Now())
		}
	}
}

// A zone of an older serial isn't taken; that from which steps lead on is.
func TestOlder(t *testing.T) {
	f := newFarm(t, 1, version(1))
	f.Run(20)
	update(t, f, version(1<<31))
	update(t, f, version(1<<32-2))
	f.Run(100)
	if z := f.Zone(farm.Secondary); !zone.Same(z, build(t, version(1))) {
		t.Error("serial", z.Serial())
	}
	// Behind a failure all is asked for.
	pass(f, 13000, 500, primarySecondary)
	f.Run(100)
	if z := f.Zone(farm.Secondary); !zone.Same(z, build(t, version(1))) {
		t.Error("behind a failure serial", z.Serial())
	}
	update(t, f, version(3))
	f.Run(60)
	if z := f.Zone(farm.Secondary); !zone.Same(z, build(t, version(3))) {
		t.Error("serial", z.Serial())
	}
}

// It serves the zone that it has, and no other.
func TestServesWhatItHas(t *testing.T) {
	f := newFarm(t, 1, version(1))
	for n := 2; n < 8; n++ {
		f.Run(30)
		z := f.Zone(farm.Secondary)
		update(t, f, version(n, a("a.x.", 5, number(n))))
		for _, cut := range []road{primarySecondary, free} {
			pass(f, 2500, 40, cut)
			i := ask(t, f, farm.Secondary, asks("a.x."))
			pass(f, 400, 40, primarySecondary)
			if cut(farm.Primary, farm.Secondary) != zone.Same(z, f.Zone(farm.Secondary)) {
				t.Fatal("serial", f.Zone(farm.Secondary).Serial())
			}
			if m := answer(t, f, i); !same(m, says(t, f.Zone(farm.Secondary), asks("a.x."))) {
				t.Errorf("%+v", m)
			}
		}
	}
}

// A restarted secondary asks at once.
func TestAsksAfterRestart(t *testing.T) {
	f := newFarm(t, 1, version(1))
	untilZone(t, f, 40, build(t, version(1)))
	for range 3 {
		quiet(t, f)
		f.Tick(100)
		if f.Way() != 0 {
			t.Fatal("not quiet")
		}
		f.Restart(farm.Secondary)
		if from, to, _ := f.Head(); from != farm.Secondary || to != farm.Primary || f.Zone(farm.Secondary) != nil {
			t.Fatal("asks later")
		}
		untilZone(t, f, 40, build(t, version(1)))
	}
}

// Behind a failure it asks on a new connection: what is left on the other one would be in the way.
func TestNewBehindFailure(t *testing.T) {
	for updates, want := range map[int]int{2: 1, 4: 2} {
		f, seen := newFarm(t, 1, version(1, great(1, 298, 8)...)), names{}
		look := seen.seeing(t, f, farm.Secondary, farm.Primary, free)
		pass(f, 1900, 40, look)
		for n := 2; n < 2+updates; n++ {
			update(t, f, version(n, great(n, 298, 8)...))
		}
		pass(f, 4000, 40, look)
		if len(seen) != want || !zone.Same(f.Zone(farm.Primary), f.Zone(farm.Secondary)) {
			t.Error(updates, "updates:", len(seen), "connections")
		}
	}
}

// Serials that go round.
func TestRound(t *testing.T) {
	n := 1<<32 - 20
	f := newFarm(t, 1, version(n))
	for range 12 {
		for range 3 {
			n = (n + 3) % (1 << 32)
			update(t, f, version(n, a("a.x.", 5, number(n))))
		}
		f.Run(60)
		if z := f.Zone(farm.Secondary); !zone.Same(z, f.Zone(farm.Primary)) || z.Serial() != n {
			t.Fatal(n, z.Serial())
		}
	}
}

// Changes of any size, also those that are too many for a taker, or too much for a stream; of versions that the primary doesn't know any more.
func TestGreatChanges(t *testing.T) {
	for _, size := range []int{4, 1000} {
		for updates := 1; updates < 8; updates++ {
			n := 1
			f := newFarm(t, 1, version(n, great(n, 298, size)...))
			f.Run(60)
			for range updates {
				n++
				update(t, f, version(n, great(n, 298, size)...))
			}
			f.Run(200)
			if z := f.Zone(farm.Secondary); !zone.Same(z, f.Zone(farm.Primary)) {
				t.Error(size, updates, "serial", z.Serial())
			}
			n++
			update(t, f, version(n))
			f.Run(60)
			if z := f.Zone(farm.Secondary); !zone.Same(z, f.Zone(farm.Primary)) {
				t.Error(size, updates, "then serial", z.Serial())
			}
		}
	}
}

// What is handed over while the road is cut off again and again, at any time, is taken wholly or not at all.
func TestCutOff(t *testing.T) {
	for cut := 1; cut < 40; cut += 3 {
		f := newFarm(t, cut, version(1, great(1, 60, 900)...))
		var versions []*zone.Zone
		n := 1
		for range 4 {
			versions = append(versions, f.Zone(farm.Primary))
			pass(f, cut*40, 40, free)
			pass(f, 12000, 400, primarySecondary)
			z := f.Zone(farm.Secondary)
			if z != nil && !slices.ContainsFunc(versions, func(v *zone.Zone) bool { return zone.Same(v, z) }) {
				t.Fatal(cut, "a zone of no version")
			}
			n++
			update(t, f, version(n, great(n, 60, 900)...))
		}
		untilZone(t, f, 40, f.Zone(farm.Primary))
	}
}

// The primary keeps 5 steps: who has a version ahead of these is handed the whole zone.
func TestFiveSteps(t *testing.T) {
	for updates := 1; updates < 9; updates++ {
		rest := great(1, 200, 100)
		f := newFarm(t, 1, version(1, rest...))
		untilZone(t, f, 40, f.Zone(farm.Primary))
		for n := 2; n < 2+updates; n++ {
			update(t, f, version(n, append(rest, a("a.x.", 5, number(n)))...))
		}
		bytes := 0
		for !zone.Same(f.Zone(farm.Primary), f.Zone(farm.Secondary)) {
			for range f.Way() {
				if from, to, b := f.Head(); from == farm.Primary && to == farm.Secondary {
					bytes += len(b)
				}
				f.Deliver(0, 0)
			}
			f.Tick(40)
		}
		if whole := bytes > 20000; whole != (updates > 5) {
			t.Error(updates, "updates:", bytes, "bytes")
		}
	}
}

// Of changes that are more than a stream takes it is told at once that they failed.
func TestMoreThanAStream(t *testing.T) {
	f := newFarm(t, 1, version(1, great(1, 298, 1000)...))
	untilZone(t, f, 40, f.Zone(farm.Primary))
	update(t, f, version(2, great(2, 298, 1000)...))
	update(t, f, version(3, great(3, 298, 1000)...))
	from := f.Now()
	if at := untilZone(t, f, 40, f.Zone(farm.Primary)); at > from+2000+1000+2500 {
		t.Error("behind", at-from)
	}
}

package farm_test

import (
	"math/rand"
	"slices"
	"strconv"
	"testing"

	"rhyne/api"
	"rhyne/doq"
	"rhyne/farm"
	"rhyne/zone"
)

// watch looks at all that a farm does, behind each call.
type watch struct {
	t        *testing.T
	f        *farm.Farm
	versions []*zone.Zone
	has      int // which of them the secondary has, or had
	now      int
	waiting  map[int]asking
	accepted map[int]message
	gaveUp   int
}

// asking is a question that waits, and which version was the last one when it was asked.
type asking struct {
	server  int
	q       question
	version int
	at      int
}

// newWatch is a watched farm of a version.
func newWatch(t *testing.T, seed int, l []record) *watch {
	t.Helper()
	w := &watch{t: t, f: newFarm(t, seed, l), waiting: map[int]asking{}, accepted: map[int]message{}}
	w.versions = append(w.versions, w.f.Zone(farm.Primary))
	w.look()
	return w
}

// update brings the next version.
func (w *watch) update(l []record) {
	w.t.Helper()
	update(w.t, w.f, l)
	w.versions = append(w.versions, build(w.t, l))
	w.look()
}

// ask asks, if not too many wait.
func (w *watch) ask(server int, q question) {
	w.t.Helper()
	n, e := w.f.Ask(server, q)
	if full := len(w.waiting) >= 20; full != (e == api.ErrFull) || !full && e != api.OK {
		w.t.Fatal("Ask", e, "while", len(w.waiting), "wait")
	}
	if e == api.OK {
		w.waiting[n] = asking{server: server, q: q, version: len(w.versions) - 1, at: w.f.Now()}
	}
	w.look()
}

// restart lets a server forget.
func (w *watch) restart(server int) {
	w.t.Helper()
	w.f.Restart(server)
	if server == farm.Secondary {
		w.has = 0
		if w.f.Zone(server) != nil {
			w.t.Error("Restart")
		}
	}
	w.look()
}

// look looks at all that can be seen.
func (w *watch) look() {
	w.t.Helper()
	if w.f.Way() > 2000 || w.f.Now() < w.now {
		w.t.Fatal("way", w.f.Way(), "now", w.f.Now(), w.now)
	}
	w.now = w.f.Now()
	if !zone.Same(w.f.Zone(farm.Primary), w.versions[len(w.versions)-1]) {
		w.t.Fatal("the primary's zone")
	}
	w.lookAtSecondary()
	for n, x := range w.waiting {
		if m, s, e := w.f.Answer(n); e != api.OK || s == farm.Waits && w.now >= x.at+40000 || s == farm.GaveUp && w.now < x.at+40000 {
			w.t.Fatal("Answer", n, s, e, w.now-x.at)
		} else if s != farm.Waits {
			delete(w.waiting, n)
			w.judge(n, x, m, s)
		}
	}
}

// lookAtSecondary sees to it that P24.4 holds.
func (w *watch) lookAtSecondary() {
	w.t.Helper()
	z := w.f.Zone(farm.Secondary)
	if z == nil {
		return
	}
	at := slices.IndexFunc(w.versions, func(v *zone.Zone) bool { return zone.Same(v, z) })
	if at < w.has {
		w.t.Fatal("the secondary has version", at, "and had", w.has)
	}
	w.has = at
}

// judge sees to it that P24.2 and P24.3 hold of an answer.
func (w *watch) judge(n int, x asking, m message, s int) {
	w.t.Helper()
	if s == farm.GaveUp {
		w.gaveUp++
		return
	}
	w.accepted[n] = m
	from := 0
	if x.server == farm.Primary {
		from = x.version
	}
	if x.server != farm.Primary && same(m, only(x.q, 2)) {
		return
	}
	if x.server == farm.Forwarder && (x.q.Type == doq.Whole || x.q.Type == doq.Changes) {
		if !same(m, only(x.q, 4)) {
			w.t.Errorf("%+v: %+v", x, m)
		}
		return
	}
	if !slices.ContainsFunc(w.versions[from:], func(z *zone.Zone) bool { return w.fits(x, m, says(w.t, z, x.q)) }) {
		w.t.Errorf("%+v: %+v, not of %d to %d", x, m, from, len(w.versions)-1)
	}
}

// fits tells whether an answer is that of a version; of the forwarder TTLs may be less.
func (w *watch) fits(x asking, m, want message) bool {
	if x.server != farm.Forwarder {
		return same(m, want)
	}
	m = aged(m, 0)
	for _, l := range [][2][]record{{m.Answers, want.Answers}, {m.Authority, want.Authority}, {m.Extra, want.Extra}} {
		if len(l[0]) != len(l[1]) {
			return false
		}
		for i, r := range l[1] {
			if l[0][i].TTL < 0 || l[0][i].TTL > r.TTL {
				return false
			}
			l[0][i].TTL = r.TTL
		}
	}
	return same(m, want)
}

// stay sees to it that P24.5 holds.
func (w *watch) stay() {
	w.t.Helper()
	for n, want := range w.accepted {
		if m := answer(w.t, w.f, n); !same(m, want) {
			w.t.Fatalf("%d: %+v, was %+v", n, m, want)
		}
	}
}

// run is rounds, looked at one by one.
func (w *watch) run(rounds int) {
	w.t.Helper()
	for range rounds {
		w.f.Run(1)
		w.look()
	}
}

// isLast tells whether the secondary has the last version.
func (w *watch) isLast() bool {
	return zone.Same(w.f.Zone(farm.Primary), w.f.Zone(farm.Secondary))
}

// settle sees to it that P24.6 holds, when nothing is lost any more.
func (w *watch) settle() {
	w.t.Helper()
	gaveUp := w.gaveUp
	for range 200 {
		if len(w.waiting) == 0 && w.isLast() {
			break
		}
		w.run(1)
	}
	if len(w.waiting) > 0 || !w.isLast() {
		w.t.Fatal(len(w.waiting), "wait, the secondary has the last version:", w.isLast())
	}
	// What waited for long ahead may be given up just then.
	if w.gaveUp > gaveUp+20 {
		w.t.Error(w.gaveUp-gaveUp, "were given up")
	}
	w.stay()
}

// wild draws a version's records: some of them as in the version ahead.
func wild(rnd *rand.Rand, n, count, size int) []record {
	l := version(n)
	ttl := oneOf(rnd, 0, 40, 3000, 1<<31-1)
	for i := range rnd.Intn(count + 1) {
		data := number(i) + drawn(rnd, size)
		l = append(l, record{Name: "t" + strconv.Itoa(i%7) + ".x.", Type: 1000 + i%7, TTL: ttl, Data: data})
	}
	if rnd.Intn(2) == 0 {
		l = append(l, a("a.x.", 3000, "1234"), a("*.s.x.", 500, number(n)), record{Name: "d.x.", Type: api.NS, TTL: 700, Data: "\x01e\x01d\x01x\x00"}, a("e.d.x.", 300, number(n)))
	}
	if rnd.Intn(2) == 0 {
		l = append(l, alias("c.x.", 900, "\x01a\x01x\x00"), a("b.x.", 20, number(n)))
	}
	return l
}

// drawn draws bytes, or some that are always the same.
func drawn(rnd *rand.Rand, most int) string {
	b := make([]byte, most)
	if rnd.Intn(2) == 0 {
		rnd.Read(b)
	}
	return string(b)
}

// wildQuestion draws a question.
func wildQuestion(rnd *rand.Rand) question {
	q := question{Name: oneOf(rnd, "x.", "a.x.", "b.x.", "c.x.", "q.d.x.", "s.x.", "q.s.x.", "y.", "t1.x.", "t2.x."), Type: oneOf(rnd, api.A, api.A, api.NS, api.SOA, 1001, 1002)}
	if rnd.Intn(12) == 0 {
		q.Type = oneOf(rnd, doq.Whole, doq.Changes)
	}
	return q
}

// happen lets anything happen for a while. Of ten datagrams so many are lost.
func (w *watch) happen(rnd *rand.Rand, lost, count, size int) {
	w.t.Helper()
	quick := oneOf(rnd, 30, 300, 3000, 12000)
	for range rnd.Intn(250) {
		switch rnd.Intn(40) {
		case 0:
			w.update(wild(rnd, len(w.versions)+1, count, size))
		case 1:
			w.restart(rnd.Intn(5))
		case 2, 3, 4:
			w.ask(1+rnd.Intn(3), wildQuestion(rnd))
		case 5, 6, 7:
			w.f.Tick(rnd.Intn(quick))
		case 8, 9:
			if rnd.Intn(10) >= lost {
				w.f.Run(rnd.Intn(3))
			}
		default:
			fate := rnd.Intn(8)
			if rnd.Intn(10) < lost {
				fate = 1
			}
			w.f.Deliver(fate, rnd.Int())
		}
		w.look()
	}
}

// P24.1 to P24.6, P3, P4, P5: scripts of any kind, and then nothing is lost any more.
func TestWildScripts(t *testing.T) {
	seeds := 120
	if testing.Short() {
		seeds = 20
	}
	for seed := range seeds {
		t.Run(strconv.Itoa(seed), func(t *testing.T) {
			t.Parallel()
			rnd := rand.New(rand.NewSource(int64(seed)))
			count, size := oneOf(rnd, 3, 20, 20, 250), oneOf(rnd, 4, 100, 900)
			w := newWatch(t, seed, wild(rnd, 1, count, size))
			for range 1 + rnd.Intn(5) {
				w.run(rnd.Intn(30))
				w.happen(rnd, rnd.Intn(11), count, size)
				if rnd.Intn(3) == 0 {
					w.settle()
				}
			}
			w.settle()
		})
	}
}

// since counts the rounds since something that is still to come.
type since map[int]int

// P24.6: when nothing is lost from the beginning on.
func TestLossless(t *testing.T) {
	seeds := 60
	if testing.Short() {
		seeds = 12
	}
	for seed := range seeds {
		t.Run(strconv.Itoa(seed), func(t *testing.T) {
			t.Parallel()
			rnd := rand.New(rand.NewSource(int64(seed)))
			size := oneOf(rnd, 4, 996)
			w := newWatch(t, seed, version(1, great(1, 20, size)...))
			rounds, zone := since{}, 0
			for range 250 {
				if rnd.Intn(25) == 0 {
					n := len(w.versions) + 1
					w.update(version(n, great(n, 20, size)...))
					zone = 0
				}
				if rnd.Intn(50) == 0 {
					w.restart(farm.Secondary)
					zone = 0
					// What is asked there waits till the connection is made anew.
					for n, x := range w.waiting {
						if x.server == farm.Secondary {
							rounds[n] = -1000
						}
					}
				}
				if rnd.Intn(10) == 0 {
					w.askSome(rnd)
				}
				w.run(1)
				if zone++; w.isLast() {
					zone = 0
				} else if zone > 60 {
					t.Fatal("no last version within", zone)
				}
				for n, x := range w.waiting {
					rounds[n]++
					if most := []int{0, 30, 200, 60}[x.server]; rounds[n] >= most {
						t.Fatalf("%+v waits for %d rounds", x, rounds[n])
					}
				}
			}
			if w.gaveUp > 0 {
				t.Error(w.gaveUp, "were given up")
			}
		})
	}
}

// askSome asks some questions at one time.
func (w *watch) askSome(rnd *rand.Rand) {
	w.t.Helper()
	count := oneOf(rnd, 1, 2, 20)
	for range count {
		if len(w.waiting) < 20 {
			w.ask(1+rnd.Intn(3), question{Name: oneOf(rnd, "a1.x.", "a2.x.", "b.x."), Type: oneOf(rnd, 1000, 1001)})
		}
	}
}

// P24.6: questions to the secondary, when nothing is lost, and it isn't restarted; each server, one question behind the other.
func TestLosslessServers(t *testing.T) {
	for server := farm.Primary; server <= farm.Forwarder; server++ {
		w := newWatch(t, server, version(1, great(1, 20, 996)...))
		for i := range 30 {
			w.ask(server, asks("a"+strconv.Itoa(i%7)+".x."))
			w.run([]int{0, 30, 30, 60}[server])
			if len(w.waiting) > 0 {
				t.Fatal(server, i, "waits")
			}
			n := len(w.versions) + 1
			w.update(version(n, great(n, 20, 996)...))
			if i%3 == 0 {
				w.restart(farm.Secondary)
			}
			w.run(60)
			if !w.isLast() {
				t.Fatal(server, i, "isn't the last version")
			}
		}
	}
}

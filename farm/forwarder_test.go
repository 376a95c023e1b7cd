package farm_test

import (
	"strconv"
	"testing"

	"rhyne/api"
	"rhyne/farm"
)

// asked is what the forwarder tells, and the times of the question and of the answer.
func asked(t testing.TB, f *farm.Farm, q question) (message, int, int) {
	t.Helper()
	from := f.Now()
	n := ask(t, f, farm.Forwarder, q)
	for range 100 {
		if step(f, free); state(t, f, n) != farm.Waits {
			break
		}
		f.Tick(1)
	}
	return answer(t, f, n), from, f.Now()
}

// kept tells whether the forwarder tells of a version that is the last one no longer; what it tells holds for as much less as went since.
func kept(t testing.TB, f *farm.Farm, q question, was message, from, to int) {
	t.Helper()
	m, again, end := asked(t, f, q)
	for by := again - to; by <= end-from; by++ {
		if same(m, aged(was, by)) {
			return
		}
	}
	t.Errorf("%+v, of %+v, %d to %d, at %d to %d", m, was, from, to, again, end)
}

// alias is a CNAME.
func alias(s string, ttl int, to string) record {
	return record{Name: s, Type: api.CNAME, TTL: ttl, Data: to}
}

// The forwarder keeps an answer as long as the least TTL of its records, wherever they stand, and tells how long it holds still.
func TestKeeps(t *testing.T) {
	const data = "\x01a\x01x\x00"
	versions := [][]record{
		version(1, a("a.x.", 700, "1111"), alias("b.x.", 2000, data), alias("c.x.", 300, data), record{Name: "d.x.", Type: api.NS, TTL: 2000, Data: "\x01e\x01d\x01x\x00"}, a("e.d.x.", 400, "1111")),
		version(2, a("a.x.", 700, "2222"), alias("b.x.", 2000, data), alias("c.x.", 300, data), record{Name: "d.x.", Type: api.NS, TTL: 2000, Data: "\x01e\x01d\x01x\x00"}, a("e.d.x.", 400, "2222"), a("q.x.", 5, "2222")),
	}
	first, second := build(t, versions[0]), build(t, versions[1])
	for q, ttl := range map[question]int{
		asks("a.x."):               700,
		asks("b.x."):               700,
		asks("c.x."):               300,
		asks("q.d.x."):             400,
		asks("q.x."):               lackTime,
		{Name: "a.x.", Type: 1000}: lackTime,
		{Name: "x.", Type: api.NS}: 60000,
	} {
		f := newFarm(t, 1, versions[0])
		quiet(t, f)
		was, from, to := asked(t, f, q)
		if !same(was, says(t, first, q)) {
			t.Fatalf("%v: %+v", q, was)
		}
		update(t, f, versions[1])
		kept(t, f, q, was, from, to)
		for _, at := range []int{ttl / 2, ttl - 150} {
			pass(f, at-(f.Now()-from), 20, free)
			kept(t, f, q, was, from, to)
		}
		pass(f, ttl-(f.Now()-to), 100, free)
		if m, _, _ := asked(t, f, q); !same(m, says(t, second, q)) {
			t.Errorf("%v: %+v", q, m)
		}
	}
}

// What it doesn't keep: records that hold for no time, other codes.
func TestDoesNotKeep(t *testing.T) {
	f := newFarm(t, 1, version(1, a("a.x.", 0, "1111"), a("b.x.", 5000, "1111"), alias("c.x.", 0, "\x01b\x01x\x00")))
	quiet(t, f)
	for _, s := range []string{"a.x.", "c.x.", "y."} {
		want := says(t, f.Zone(farm.Primary), asks(s))
		if m, _, _ := asked(t, f, asks(s)); !same(m, want) {
			t.Errorf("%+v", m)
		}
	}
	update(t, f, version(2, a("a.x.", 0, "2222"), a("b.x.", 5000, "2222"), alias("c.x.", 0, "\x01b\x01x\x00")))
	for _, s := range []string{"a.x.", "c.x.", "y."} {
		want := says(t, f.Zone(farm.Primary), asks(s))
		if m, _, _ := asked(t, f, asks(s)); !same(m, want) {
			t.Errorf("%+v", m)
		}
	}
}

// It keeps by name and type, 64 answers; that which goes first is dropped for one more. A restart lets it forget them.
func TestKeepsSoMany(t *testing.T) {
	most := func(n int) []record {
		l := version(n)
		for i := range api.MaxCache + 1 {
			l = append(l, a("a"+strconv.Itoa(i)+".x.", 50000-i%2*10000, number(n)))
		}
		return l
	}
	f := newFarm(t, 1, most(1))
	quiet(t, f)
	name := func(i int) question { return asks("a" + strconv.Itoa(i) + ".x.") }
	for i := range api.MaxCache {
		asked(t, f, name(i))
	}
	update(t, f, most(2))
	was := func(i int) byte {
		t.Helper()
		m, _, _ := asked(t, f, name(i))
		if len(m.Answers) != 1 {
			t.Fatalf("%+v", m)
		}
		return m.Answers[0].Data[3]
	}
	for i := range api.MaxCache {
		if n := was(i); n != 1 {
			t.Error(i, "is of version", n)
		}
	}
	if n := was(api.MaxCache); n != 2 {
		t.Error("the last one is of version", n)
	}
	for i := range api.MaxCache {
		if n := was(i); i != 1 && n != 1 {
			t.Error(i, "is of version", n)
		} else if i == 1 && n != 2 {
			// It was the first one of those that go first.
			t.Error(i, "is of version", n)
		} else if i == 1 {
			break
		}
	}
	if m, _, _ := asked(t, f, question{Name: "a0.x.", Type: api.TXT}); m.Code != 0 || len(m.Answers) != 0 {
		t.Errorf("another type: %+v", m)
	}
	f.Restart(farm.Forwarder)
	f.Run(60)
	if n := was(0); n != 2 {
		t.Error("behind a restart version", n)
	}
}

// If the primary doesn't answer within 10000 ticks the question has failed; that isn't kept.
func TestFails(t *testing.T) {
	l := version(1, a("a.x.", 5000, "1234"))
	f, cut := newFarm(t, 1, l), without(farm.Primary, farm.Forwarder)
	quiet(t, f)
	n := ask(t, f, farm.Forwarder, asks("a.x."))
	pass(f, 2000, 40, cut)
	other := ask(t, f, farm.Forwarder, asks("b.x."))
	pass(f, 8000, 40, cut)
	if state(t, f, n) != farm.Waits {
		t.Error("too early")
	}
	pass(f, 600, 40, cut)
	if m := answer(t, f, n); !same(m, only(asks("a.x."), 2)) || state(t, f, other) != farm.Waits {
		t.Errorf("%+v, %d", m, state(t, f, other))
	}
	pass(f, 2000, 40, cut)
	if m := answer(t, f, other); !same(m, only(asks("b.x."), 2)) {
		t.Errorf("%+v", m)
	}
	for _, s := range []string{"a.x.", "b.x."} {
		if m := told(t, f, farm.Forwarder, asks(s), 60); !same(m, says(t, f.Zone(farm.Primary), asks(s))) {
			t.Errorf("%+v", m)
		}
	}
}

// One that was asked 9000 ticks ago is asked once: all who wait for it hear the same.
func TestFailsOnce(t *testing.T) {
	f, cut := newFarm(t, 1, version(1)), without(farm.Primary, farm.Forwarder)
	quiet(t, f)
	n := ask(t, f, farm.Forwarder, asks("a.x."))
	pass(f, 9000, 40, cut)
	again := ask(t, f, farm.Forwarder, asks("a.x."))
	pass(f, 1600, 40, cut)
	for _, n := range []int{n, again} {
		if m := answer(t, f, n); !same(m, only(asks("a.x."), 2)) {
			t.Errorf("%+v", m)
		}
	}
}

// What it waited for when it was restarted is asked again, and answered.
func TestForwarderRestarts(t *testing.T) {
	f, cut := newFarm(t, 1, version(1)), without(farm.Primary, farm.Forwarder)
	quiet(t, f)
	n := ask(t, f, farm.Forwarder, asks("a.x."))
	pass(f, 3000, 40, cut)
	f.Restart(farm.Forwarder)
	if f.Asked() != 1 || f.Guests(farm.Forwarder) != 0 {
		t.Error(f.Asked(), f.Guests(farm.Forwarder))
	}
	f.Run(60)
	if m := answer(t, f, n); !same(m, says(t, f.Zone(farm.Primary), asks("a.x."))) {
		t.Errorf("%+v", m)
	}
}

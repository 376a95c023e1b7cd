package farm_test

import (
	"bytes"
	"math"
	"slices"
	"strings"
	"testing"
	"unsafe"

	"rhyne/api"
	"rhyne/doq"
	"rhyne/farm"
	"rhyne/zone"
)

// The document's example.
func TestExample(t *testing.T) {
	f := newFarm(t, 1, version(1, a("a.x.", 5, "1234")))
	n := ask(t, f, farm.Primary, asks("a.x."))
	f.Run(20)
	want := message{Answer: true, Own: true, Wanted: true, Ask: []question{asks("a.x.")}, Answers: []record{a("a.x.", 5, "1234")}}
	if m := answer(t, f, n); n != 1 || !same(m, want) {
		t.Errorf("%d: %+v", n, m)
	}
}

// What New and Update refuse, and that a refused call changes nothing.
func TestVersions(t *testing.T) {
	many := version(1)
	for range api.MaxRecords - 1 {
		many = append(many, many[1])
	}
	wrong := map[api.Errno][]record{api.ErrBig: many, api.ErrForm: version(1, a("a.y.", 5, "1234"))}
	for e, l := range wrong {
		if f, got := farm.New(l, 1); f != nil || got != e {
			t.Error("New", e, f, got)
		}
	}
	if f, e := farm.New(nil, 1); f != nil || e != api.ErrForm {
		t.Error("New of nothing", f, e)
	}
	f := newFarm(t, 1, version(5))
	for e, l := range wrong {
		if got := f.Update(l); got != e {
			t.Error("Update", e, got)
		}
	}
	for _, n := range []int{5, 4, 0, 1<<31 + 5, 1<<32 - 1} {
		if e := f.Update(version(n)); e != api.ErrArg {
			t.Error("Update to", n, e)
		}
	}
	if z := f.Zone(farm.Primary); !zone.Same(z, build(t, version(5))) {
		t.Error("a refused Update", z.Serial())
	}
	for _, n := range []int{6, 1<<31 + 5, 1<<32 - 1, 0, 7} {
		update(t, f, version(n))
		if z := f.Zone(farm.Primary); !zone.Same(z, build(t, version(n))) {
			t.Error("Update to", n, z.Serial())
		}
	}
}

// What Ask and Answer refuse, in which order, and which numbers there are.
func TestNumbers(t *testing.T) {
	f := newFarm(t, 1, version(1))
	good, bad := asks("a.x."), asks("a.x")
	for _, server := range []int{math.MinInt, -1, 0, 4, math.MaxInt} {
		if n, e := f.Ask(server, bad); n != 0 || e != api.ErrArg {
			t.Error("Ask of", server, n, e)
		}
	}
	wrong := []question{bad, {}, {Name: "A.x.", Type: 1}, {Name: "a.x.", Type: 0}, {Name: "a.x.", Type: 65536}, {Name: "a.x.", Type: -1}, {Name: strings.Repeat("a.", 128), Type: 1}}
	for i := range 20 {
		for _, q := range wrong {
			if n, e := f.Ask(1+i%3, q); n != 0 || e != api.ErrForm {
				t.Error("Ask", q, n, e)
			}
		}
		if n := ask(t, f, 1+i%3, good); n != i+1 {
			t.Error("number", n, i+1)
		}
	}
	if n, e := f.Ask(1, good); n != 0 || e != api.ErrFull {
		t.Error("Ask of 21", n, e)
	}
	if n, e := f.Ask(1, bad); n != 0 || e != api.ErrForm {
		t.Error("Ask of 21", n, e)
	}
	if n, e := f.Ask(0, good); n != 0 || e != api.ErrArg {
		t.Error("Ask of 21", n, e)
	}
	for _, n := range []int{math.MinInt, -1, 0, 21, math.MaxInt} {
		if m, s, e := f.Answer(n); !same(m, message{}) || s != 0 || e != api.ErrMiss {
			t.Error("Answer of", n, m, s, e)
		}
	}
	for n := 1; n <= 20; n++ {
		if state(t, f, n) != farm.Waits {
			t.Error("state of", n)
		}
	}
	f.Run(30)
	if n := ask(t, f, 1, good); n != 21 {
		t.Error("number", n)
	}
}

// A farm that is none.
func TestNil(t *testing.T) {
	for _, f := range []*farm.Farm{nil, {}} {
		if e := f.Update(version(1)); e != api.ErrArg {
			t.Error("Update", e)
		}
		if n, e := f.Ask(1, asks("a.x.")); n != 0 || e != api.ErrArg {
			t.Error("Ask", n, e)
		}
		if m, s, e := f.Answer(1); !same(m, message{}) || s != 0 || e != api.ErrMiss {
			t.Error("Answer", m, s, e)
		}
		f.Deliver(0, 0)
		f.Tick(1)
		f.Run(1)
		f.Restart(1)
		if f.Zone(1) != nil || f.Now() != 0 || f.Way() != 0 {
			t.Error("Zone, Now, Way")
		}
	}
}

// Which nodes have a zone.
func TestZones(t *testing.T) {
	f := newFarm(t, 1, version(1))
	z := build(t, version(1))
	if f.Now() != 0 || f.Way() == 0 || !zone.Same(f.Zone(farm.Primary), z) || f.Zone(farm.Secondary) != nil {
		t.Error("at first", f.Now(), f.Way())
	}
	f.Run(20)
	if !zone.Same(f.Zone(farm.Secondary), z) {
		t.Error("then")
	}
	for _, n := range []int{math.MinInt, -1, farm.Stub, farm.Forwarder, 4, math.MaxInt} {
		if f.Zone(n) != nil {
			t.Error("Zone of", n)
		}
	}
}

// P24.1: numbers of any kind.
func TestAnyNumbers(t *testing.T) {
	f := newFarm(t, math.MinInt, version(1))
	numbers := []int{math.MinInt, math.MinInt + 1, -1 << 32, -9, -1, 0, 1, 2, 3, 4, 5, 6, 7, 8, 1 << 32, math.MaxInt}
	for _, x := range numbers {
		for _, y := range numbers {
			f.Ask(x, question{Name: "x.", Type: y})
			f.Ask(1, question{Name: "x.", Type: y})
			f.Deliver(x, y)
			f.Answer(x)
		}
		f.Zone(x)
		f.Restart(x)
		f.Tick(x)
	}
	f.Run(math.MinInt)
	f.Run(math.MaxInt)
	if z := f.Zone(farm.Secondary); z == nil || f.Now() > 1000000 {
		t.Error(z, f.Now())
	}
}

// P24.5, rules 4 and 7: what is handed in isn't kept or changed; answers are new memory.
func TestMemory(t *testing.T) {
	l := version(1, a("a.x.", 5, "1234"))
	before := slices.Clone(l)
	f := newFarm(t, 1, l)
	if !slices.Equal(l, before) {
		t.Error("New changes", l)
	}
	clear(l)
	l = version(2, a("a.x.", 5, "1234"), a("b.x.", 5, "4321"))
	before = slices.Clone(l)
	update(t, f, l)
	if !slices.Equal(l, before) {
		t.Error("Update changes", l)
	}
	clear(l)
	b := []byte("b.x.")
	n := ask(t, f, farm.Primary, question{Name: unsafe.String(unsafe.SliceData(b), len(b)), Type: api.A})
	copy(b, "a.x.")
	f.Run(20)
	want := says(t, build(t, before), asks("b.x."))
	for range 3 {
		m := answer(t, f, n)
		if !same(m, want) {
			t.Fatalf("%+v", m)
		}
		clear(m.Ask)
		clear(m.Answers)
	}
	n = ask(t, f, farm.Forwarder, asks("c.x."))
	f.Run(20)
	m := answer(t, f, n)
	clear(m.Authority)
	if m := answer(t, f, n); !same(m, says(t, build(t, before), asks("c.x."))) {
		t.Errorf("%+v", m)
	}
	if m := told(t, f, farm.Forwarder, asks("c.x."), 20); len(m.Authority) != 1 || m.Authority[0].Name != "x." {
		t.Errorf("%+v", m)
	}
}

// All farms of one seed do the same; those of others don't send the same bytes.
func TestSeeds(t *testing.T) {
	play := func(seed int) (sent [][]byte, told []message) {
		f := newFarm(t, seed, version(1, a("a.x.", 5, "1234")))
		var l []int
		for i := range 400 {
			_, _, b := f.Head()
			sent = append(sent, bytes.Clone(b))
			f.Deliver(i*i%11, i*31)
			if i%7 == 0 {
				f.Tick(i)
			}
			if i%40 == 0 {
				l = append(l, ask(t, f, 1+i/40%3, asks("a.x.")))
			}
			if i%90 == 89 {
				f.Restart(1 + i%3)
				update(t, f, version(1+i))
			}
		}
		f.Run(100)
		for _, n := range l {
			m, _, _ := f.Answer(n)
			told = append(told, m)
		}
		return sent, told
	}
	same := func(a, b [][]byte) bool { return slices.EqualFunc(a, b, bytes.Equal) }
	first, told := play(7)
	for range 2 {
		again, toldAgain := play(7)
		if !same(first, again) || !slices.EqualFunc(told, toldAgain, sameMessage) {
			t.Error("one seed")
		}
	}
	for _, seed := range []int{-7, 0, 8, 7 + 256, 7 + 1<<32, math.MinInt} {
		other, _ := play(seed)
		if same(first, other) || bytes.Equal(first[0], other[0]) {
			t.Error("seed", seed)
		}
	}
}

// sameMessage is same, where its name is taken.
func sameMessage(m, n message) bool { return same(m, n) }

// Each type of question, at each server; of a zone's parts the first one.
func TestServers(t *testing.T) {
	l := version(3, great(3, 120, 8)...)
	l = append(l, a("a.x.", 5000, "1234"), record{Name: "*.s.x.", Type: api.TXT, TTL: 5000, Data: "\x01a"}, record{Name: "c.x.", Type: api.CNAME, TTL: 5000, Data: "\x01a\x01x\x00"}, record{Name: "d.x.", Type: api.NS, TTL: 5000, Data: "\x01a\x01x\x00"})
	f, z := newFarm(t, 3, l), build(t, l)
	f.Run(30)
	var questions []question
	for _, s := range []string{"x.", "a.x.", "b.x.", "q.s.x.", "c.x.", "e.d.x.", "a0.x.", "y.", "."} {
		for _, kind := range []int{api.A, api.NS, api.CNAME, api.SOA, api.TXT, 1000, doq.Changes, doq.Whole, 255, 65535} {
			questions = append(questions, question{Name: s, Type: kind})
		}
	}
	for server := farm.Primary; server <= farm.Forwarder; server++ {
		for _, q := range questions {
			want := says(t, z, q)
			if server == farm.Forwarder && (q.Type == doq.Whole || q.Type == doq.Changes) {
				want = only(q, 4)
			}
			if m := told(t, f, server, q, 60); !same(m, want) {
				t.Errorf("%d: %v: %+v, not %+v", server, q, m, want)
			}
		}
	}
	if m := told(t, f, farm.Primary, whole, 60); len(m.Answers) != 50 || !m.Own || m.Answers[0].Type != api.SOA {
		t.Error("parts of", len(m.Answers))
	}
}

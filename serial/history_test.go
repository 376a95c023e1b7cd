package serial_test

import (
	"math"
	"math/rand"
	"slices"
	"testing"

	"rhyne/api"
	"rhyne/serial"
	"rhyne/zone"
)

// history is a new one.
func history(t testing.TB, z *zone.Zone, most int) *serial.History {
	t.Helper()
	h, e := serial.New(z, most)
	if e != api.OK || h == nil {
		t.Fatal(most, e)
	}
	return h
}

// adds tells whether Add takes a version.
func adds(t testing.TB, h *serial.History, z *zone.Zone) {
	t.Helper()
	if e := h.Add(z); e != api.OK || h.Last() != z {
		t.Fatalf("Add of version %d: %d", z.Serial(), e)
	}
}

// since tells whether Since tells steps by those serials, from one to the next; no serials: none are known.
func since(t *testing.T, h *serial.History, n int, want ...int) {
	t.Helper()
	l, ok := h.Since(n)
	if ok != (len(want) > 0) || len(l) != max(0, len(want)-1) {
		t.Errorf("Since %d: %d steps, %v; not %v", n, len(l), ok, want)
		return
	}
	for i, s := range l {
		if s.From != soa("x.", want[i]) || s.To != soa("x.", want[i+1]) {
			t.Errorf("Since %d: step %d is %+v; not %v", n, i, s, want)
		}
	}
}

// P20.1: how many steps a history may keep.
func TestNew(t *testing.T) {
	z := x(t, 1)
	for _, most := range []int{0, 1, 2, 99, 100} {
		h := history(t, z, most)
		if h.Last() != z {
			t.Error(most)
		}
		since(t, h, 1, 1)
		since(t, h, 0)
		since(t, h, 2)
	}
	for _, most := range []int{-1, math.MinInt, 101, 1000, math.MaxInt} {
		if h, e := serial.New(z, most); h != nil || e != api.ErrArg {
			t.Error(most, h, e)
		}
	}
	for _, most := range []int{0, 5, 101} {
		if h, e := serial.New(nil, most); h != nil || e != api.ErrArg {
			t.Error(most, h, e)
		}
	}
}

// P20.1: of the steps the last ones are kept.
func TestSince(t *testing.T) {
	for _, most := range []int{0, 1, 2, 5, 99, 100} {
		h := history(t, x(t, 0), most)
		all := []int{0}
		for n := 3; n <= 450; n += 3 {
			adds(t, h, x(t, n))
			all = append(all, n)
			for i, from := range all {
				if n > 30 && n%60 != 0 {
					break
				}
				if len(all)-1-i > most {
					since(t, h, from)
					continue
				}
				since(t, h, from, all[i:]...)
			}
			for _, no := range []int{n + 1, n - 1, n + 3, -1, -n, n + 1<<32, n + 1<<31, math.MinInt, math.MaxInt} {
				since(t, h, no)
			}
		}
	}
}

// P20.1: what is no next version; it changes nothing.
func TestAddRefuses(t *testing.T) {
	h := history(t, x(t, 5), 3)
	last := x(t, 7, a("a.x.", "1111"))
	adds(t, h, last)
	for _, z := range []*zone.Zone{nil, {}, last, x(t, 7), x(t, 6), x(t, 5), x(t, 0), x(t, 7+1<<31), x(t, 8+1<<31), x(t, 1<<32-1), of(t, "y.", 8), of(t, ".", 8), of(t, "a.x.", 8)} {
		if e := h.Add(z); e != api.ErrArg || h.Last() != last {
			t.Errorf("Add of %+v: %d", z, e)
		}
		since(t, h, 5, 5, 7)
		since(t, h, 7, 7)
	}
	adds(t, h, x(t, 6+1<<31))
	since(t, h, 5, 5, 7, 6+1<<31)
}

// P20.1: serials that go round: of two steps from one serial the later one counts, and the last version's ahead of both.
func TestSinceRound(t *testing.T) {
	third := 1 << 32 / 3
	h := history(t, x(t, 0), 10)
	rounds := []int{third, 2 * third, 0, third, 2 * third, 2*third + 1, 0}
	at := []int{0}
	for _, n := range rounds {
		adds(t, h, x(t, n))
		at = append(at, n)
		for from := range at {
			later := len(at) - 1
			for at[later] != at[from] {
				later--
			}
			since(t, h, at[from], at[later:]...)
		}
	}
	// The later one is kept, the one ahead isn't any more.
	h = history(t, x(t, 0), 2)
	for _, n := range []int{third, 2 * third, 0} {
		adds(t, h, x(t, n))
	}
	since(t, h, 0, 0)
	since(t, h, third, third, 2*third, 0)
	adds(t, h, x(t, third))
	since(t, h, third, third)
	since(t, h, 0, 0, third)
	since(t, h, 2*third, 2*third, 0, third)
	adds(t, h, x(t, 2*third))
	since(t, h, 0, 0, third, 2*third)
	since(t, h, 2*third, 2*third)
}

// P20.3, P4: the steps that Since tells make the last version of the one with that serial, and each zone on the way is one that was there, none older than the one ahead.
func TestStepsMakeLast(t *testing.T) {
	draw := rand.New(rand.NewSource(203))
	for range 300 {
		most := draw.Intn(6)
		versions := []*zone.Zone{anyVersion(t, draw, draw.Intn(1<<32))}
		h := history(t, versions[0], most)
		for range 1 + draw.Intn(10) {
			n, _ := serial.Add(h.Last().Serial(), 1+draw.Intn(1<<(1+draw.Intn(31))-1))
			z := anyVersion(t, draw, n)
			adds(t, h, z)
			versions = append(versions, z)
			for i, z := range versions[max(0, len(versions)-1-most):] {
				i += max(0, len(versions)-1-most)
				if slices.ContainsFunc(versions[i+1:], func(y *zone.Zone) bool { return y.Serial() == z.Serial() }) {
					continue
				}
				goesTo(t, h, z, versions[i:])
			}
		}
	}
}

// goesTo goes by the steps since a version's serial from it through all those that stand behind it.
func goesTo(t *testing.T, h *serial.History, z *zone.Zone, versions []*zone.Zone) {
	t.Helper()
	l, ok := h.Since(z.Serial())
	if !ok || len(l) != len(versions)-1 {
		t.Fatal(ok, len(l), len(versions))
	}
	for i, s := range l {
		next, e := serial.Apply(z, s)
		if e != api.OK || !zone.Same(next, versions[i+1]) || !serial.Less(z.Serial(), next.Serial()) {
			t.Fatalf("%+v: %d", s, e)
		}
		z = next
	}
	if !zone.Same(z, h.Last()) {
		t.Fatal("not the last version")
	}
}

// P1, P20.1: no history, and one that New didn't make.
func TestNoHistory(t *testing.T) {
	for _, h := range []*serial.History{nil, {}} {
		for _, z := range []*zone.Zone{nil, {}, x(t, 1)} {
			if e := h.Add(z); e != api.ErrArg {
				t.Error(e)
			}
		}
		if h.Last() != nil {
			t.Error(h.Last())
		}
		for _, n := range []int{0, 1, -1, math.MaxInt} {
			since(t, h, n)
		}
	}
	// A zone that Build didn't make has no serial behind which one comes.
	h, e := serial.New(&zone.Zone{}, 1)
	if e == api.OK && (h.Add(x(t, 1)) != api.ErrArg || h.Add(&zone.Zone{}) != api.ErrArg) {
		t.Error(h)
	}
}

// P20.4: steps that Since tells are new memory.
func TestSinceMemory(t *testing.T) {
	one, two, three := a("b.x.", "1111"), a("b.x.", "2222"), a("a.x.", "3333")
	h := history(t, x(t, 1, one), 5)
	adds(t, h, x(t, 2, two))
	adds(t, h, x(t, 3, two, three))
	want, _ := h.Since(1)
	for range 2 {
		l, ok := h.Since(1)
		if !ok || len(l) != 2 || !sameStep(l[0], serial.Step{From: soa("x.", 1), To: soa("x.", 2), Gone: []record{one}, Came: []record{two}}) || !sameStep(l[1], serial.Step{From: soa("x.", 2), To: soa("x.", 3), Came: []record{three}}) {
			t.Fatalf("%+v", l)
		}
		clear(l[0].Gone[:cap(l[0].Gone)])
		if !sameStep(l[1], want[1]) || !slices.Equal(l[0].Came, want[0].Came) {
			t.Error("lists of one answer share their memory")
		}
		clear(l[0].Came[:cap(l[0].Came)])
		clear(l[1].Came[:cap(l[1].Came)])
		clear(l[:cap(l)])
	}
	z, e := serial.Apply(x(t, 1, one), want[0])
	if e != api.OK || !zone.Same(z, x(t, 2, two)) {
		t.Error(e)
	}
}

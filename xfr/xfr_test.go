package xfr_test

import (
	"math"
	"math/rand"
	"slices"
	"strings"
	"testing"

	"rhyne/api"
	"rhyne/serial"
	"rhyne/xfr"
	"rhyne/zone"
)

type record = api.Record

// soa is the SOA of an origin, with a serial.
func soa(origin string, n int) record {
	data := "\x00\x00" + string([]byte{byte(n >> 24), byte(n >> 16), byte(n >> 8), byte(n)}) + strings.Repeat("\x00\x00\x00\x09", 4)
	return record{Name: origin, Type: api.SOA, TTL: 60, Data: data}
}

// ns is the NS of an origin.
func ns(origin string) record { return record{Name: origin, Type: api.NS, TTL: 60, Data: "\x00"} }

// a is an A.
func a(s, data string) record { return record{Name: s, Type: api.A, TTL: 5, Data: data} }

// of is the zone of an origin with a serial, an NS and those records.
func of(t testing.TB, origin string, n int, l ...record) *zone.Zone {
	t.Helper()
	z, e := zone.Build(origin, append([]record{soa(origin, n), ns(origin)}, l...))
	if e != api.OK {
		t.Fatalf("Build of %+v: %d", l, e)
	}
	return z
}

// x is of of x.
func x(t testing.TB, n int, l ...record) *zone.Zone {
	t.Helper()
	return of(t, "x.", n, l...)
}

// history is one of those versions, one behind the other.
func history(t testing.TB, most int, versions ...*zone.Zone) *serial.History {
	t.Helper()
	h, e := serial.New(versions[0], most)
	if e != api.OK {
		t.Fatal(most, e)
	}
	for _, z := range versions[1:] {
		if e := h.Add(z); e != api.OK {
			t.Fatal(z.Serial(), e)
		}
	}
	return h
}

// The records that most tests have.
var one, two, three = a("b.x.", "1111"), a("b.x.", "2222"), a("a.x.", "3333")

// many are so many records of x.
func many(n int) []record {
	var l []record
	for i := range n {
		l = append(l, a("a.x.", string([]byte{0, 0, byte(i >> 8), byte(i)})))
	}
	return l
}

// tells tells whether records are as they should be.
func tells(t *testing.T, got []record, want ...record) {
	t.Helper()
	if !slices.Equal(got, want) {
		t.Errorf("%+v; not %+v", got, want)
	}
}

// P21.1: a whole zone.
func TestFull(t *testing.T) {
	tells(t, xfr.Full(x(t, 5)), soa("x.", 5), ns("x."), soa("x.", 5))
	tells(t, xfr.Full(x(t, 5, two, three, one)), soa("x.", 5), ns("x."), three, one, two, soa("x.", 5))
	tells(t, xfr.Full(of(t, ".", 1<<32-1, a("a.", "1111"))), soa(".", 1<<32-1), ns("."), a("a.", "1111"), soa(".", 1<<32-1))
	// The SOA's type is above those of others at the origin, or below.
	text, other := record{Name: "x.", Type: api.TXT, Data: "\x00"}, a("x.", "1111")
	tells(t, xfr.Full(x(t, 5, text, other)), soa("x.", 5), other, ns("x."), text, soa("x.", 5))
	z := x(t, 1, many(298)...)
	if l := xfr.Full(z); len(l) != 301 || len(z.Records()) != 300 {
		t.Error(len(l))
	}
	tells(t, xfr.Full(nil))
	tells(t, xfr.Full(&zone.Zone{}))
}

// P21.1: what has changed since a serial: nothing, steps, all.
func TestSince(t *testing.T) {
	versions := []*zone.Zone{x(t, 5, one), x(t, 6, one, two), x(t, 9, three), x(t, 10, three)}
	h := history(t, 5, versions...)
	last := soa("x.", 10)
	for _, n := range []int{10, 11, 12, 10 + 1<<31 - 1, 10 + 1<<31, -1, math.MinInt, 1 << 32, 1<<32 + 5, math.MaxInt} {
		tells(t, xfr.Since(h, n), last)
	}
	tells(t, xfr.Since(h, 9), last, soa("x.", 9), last, last)
	tells(t, xfr.Since(h, 6), last, soa("x.", 6), one, two, soa("x.", 9), three, soa("x.", 9), last, last)
	tells(t, xfr.Since(h, 5), last, soa("x.", 5), soa("x.", 6), two, soa("x.", 6), one, two, soa("x.", 9), three, soa("x.", 9), last, last)
	for _, n := range []int{0, 4, 7, 8, 11 + 1<<31, 1<<32 - 1} {
		tells(t, xfr.Since(h, n), xfr.Full(versions[3])...)
	}
	// What isn't kept any more is as if it hadn't been.
	h = history(t, 1, versions...)
	tells(t, xfr.Since(h, 10), last)
	tells(t, xfr.Since(h, 9), last, soa("x.", 9), last, last)
	tells(t, xfr.Since(h, 6), xfr.Full(versions[3])...)
	h = history(t, 0, versions...)
	tells(t, xfr.Since(h, 10), last)
	tells(t, xfr.Since(h, 9), xfr.Full(versions[3])...)
	// A record whose TTL is another one goes, and comes.
	longer := one
	longer.TTL++
	h = history(t, 5, x(t, 1<<32-1, one), x(t, 0, longer))
	tells(t, xfr.Since(h, 0), soa("x.", 0))
	tells(t, xfr.Since(h, 1), soa("x.", 0))
	tells(t, xfr.Since(h, 1<<32-1), soa("x.", 0), soa("x.", 1<<32-1), one, soa("x.", 0), longer, soa("x.", 0))
	tells(t, xfr.Since(h, 1<<32-2), soa("x.", 0), ns("x."), longer, soa("x.", 0))
}

// P1, P21.1: no history, and such as have no zone that Build made.
func TestSinceOfNone(t *testing.T) {
	unmade, _ := serial.New(&zone.Zone{}, 3)
	for _, h := range []*serial.History{nil, {}, unmade} {
		for _, n := range []int{0, 1, -1, 1<<32 - 1, math.MaxInt} {
			tells(t, xfr.Since(h, n))
		}
	}
}

// P21.1: parts of records.
func TestSplit(t *testing.T) {
	l := many(10)
	for count := range len(l) + 1 {
		for _, most := range []int{1, 2, 3, 4, 5, 6, 9, 10, 11, 300, math.MaxInt - 1, math.MaxInt} {
			parts, e := xfr.Split(l[:count], most)
			if e != api.OK || !slices.Equal(slices.Concat(parts...), l[:count]) {
				t.Fatal(count, most, parts, e)
			}
			for i, p := range parts {
				if len(p) == 0 || len(p) > most || i < len(parts)-1 && len(p) != most {
					t.Error(count, most, i, len(p))
				}
			}
		}
		for _, most := range []int{0, -1, math.MinInt} {
			if parts, e := xfr.Split(l[:count], most); parts != nil || e != api.ErrArg {
				t.Error(count, most, parts, e)
			}
		}
	}
	if parts, e := xfr.Split(nil, 1); len(parts) != 0 || e != api.OK {
		t.Error(parts, e)
	}
	// What is no record is parted, too.
	wild := []record{{}, {Type: -1}, {Name: "?"}}
	if parts, e := xfr.Split(wild, 2); e != api.OK || len(parts) != 2 || !slices.Equal(parts[0], wild[:2]) || !slices.Equal(parts[1], wild[2:]) {
		t.Error(parts, e)
	}
}

// P21.4: what is handed in stays as it is; answers are new memory.
func TestMemory(t *testing.T) {
	y, z := x(t, 5, one, two), x(t, 6, two, three)
	h := history(t, 5, y, z)
	for _, answer := range []func() []record{
		func() []record { return xfr.Full(z) },
		func() []record { return xfr.Since(h, 4) },
		func() []record { return xfr.Since(h, 5) },
		func() []record { return xfr.Since(h, 6) },
	} {
		l := answer()
		want := slices.Clone(l)
		clear(l[:cap(l)])
		tells(t, answer(), want...)
	}
	if !zone.Same(y, x(t, 5, one, two)) || !zone.Same(z, x(t, 6, two, three)) || !zone.Same(h.Last(), z) {
		t.Error("a zone was changed")
	}
	l := append(many(5), record{Name: "spare."})
	for most := 1; most < 7; most++ {
		parts, e := xfr.Split(l[:5], most)
		if e != api.OK {
			t.Fatal(e)
		}
		for i, p := range parts {
			clear(p[:cap(p)])
			for j, q := range parts[i+1:] {
				if !slices.Equal(q, l[(i+1+j)*most:min(5, (i+2+j)*most)]) {
					t.Error("parts share their memory", most, i)
				}
			}
		}
		clear(parts[:cap(parts)])
		tells(t, l, append(many(5), record{Name: "spare."})...)
	}
}

// anyVersion draws the zone of a serial, with few records.
func anyVersion(t testing.TB, draw *rand.Rand, n int) *zone.Zone {
	l := []record{soa("x.", n), ns("x.")}
	for range draw.Intn(8) {
		r := a([]string{"a.x.", "b.x.", "*.x.", "b.a.x."}[draw.Intn(4)], []string{"1111", "2222", "3333"}[draw.Intn(3)])
		r.TTL = 5 + draw.Intn(2)
		if draw.Intn(5) == 0 {
			r.Type = 99
		}
		if _, e := zone.Build("x.", append(l, r)); e == api.OK {
			l = append(l, r)
		}
	}
	z, e := zone.Build("x.", l)
	if e != api.OK {
		t.Fatal(e)
	}
	return z
}

// anyVersions draws some, one behind the other, that are not half a round apart all together.
func anyVersions(t testing.TB, draw *rand.Rand, count int) []*zone.Zone {
	n := draw.Intn(1 << 32)
	var versions []*zone.Zone
	for range count {
		versions = append(versions, anyVersion(t, draw, n))
		n, _ = serial.Add(n, 1+draw.Intn(1<<(1+draw.Intn(26))))
	}
	return versions
}

// handed is the zone that is handed over to whoever has one, by records in those parts.
func handed(t *testing.T, have *zone.Zone, parts [][]record) *zone.Zone {
	t.Helper()
	k := taker(t, have, "x.")
	for i, p := range parts {
		done, e := k.Take(p)
		alone := len(parts) == 1 && len(p) == 1
		if e != api.OK || done != (i == len(parts)-1 && !alone) {
			t.Fatal(i, len(parts), done, e)
		}
	}
	z, e := k.End()
	if e != api.OK {
		t.Fatal(e)
	}
	return z
}

// P21.2, P4: whoever has any version that is known, or that isn't, or none, comes to have the last one, by parts of any size.
func TestHandedOver(t *testing.T) {
	draw := rand.New(rand.NewSource(212))
	for range 200 {
		versions := anyVersions(t, draw, 1+draw.Intn(6))
		h := history(t, draw.Intn(6), versions...)
		last := versions[len(versions)-1]
		for size := 1; size <= 20; size++ {
			whole, _ := xfr.Split(xfr.Full(h.Last()), size)
			if !zone.Same(handed(t, nil, whole), last) {
				t.Fatal("whole, to none", size)
			}
			for _, have := range versions {
				if !zone.Same(handed(t, have, whole), last) {
					t.Fatal("whole", size)
				}
				steps, _ := xfr.Split(xfr.Since(h, have.Serial()), size)
				if !zone.Same(handed(t, have, steps), last) {
					t.Fatal("since", have.Serial(), size)
				}
			}
		}
	}
}

// P21.2: parts of sizes that change, and parts without a record.
func TestHandedOverInAnyParts(t *testing.T) {
	draw := rand.New(rand.NewSource(213))
	for range 1000 {
		versions := anyVersions(t, draw, 2+draw.Intn(5))
		h := history(t, 5, versions...)
		have := versions[draw.Intn(len(versions)-1)]
		rest := xfr.Since(h, have.Serial())
		var parts [][]record
		for len(rest) > 0 {
			n := min(len(rest), draw.Intn(4))
			parts = append(parts, rest[:n])
			rest = rest[n:]
		}
		if !zone.Same(handed(t, have, parts), h.Last()) {
			t.Fatal(parts)
		}
	}
}

// P21.2: a zone of as many records as there may be, and steps that make it and empty it.
func TestGreatZones(t *testing.T) {
	l := many(298)
	versions := []*zone.Zone{x(t, 1, l...), x(t, 2), x(t, 3, l...), x(t, 4), x(t, 5, l...)}
	h := history(t, 5, versions...)
	for _, size := range []int{1, 7, 50, 300, 5000} {
		for _, have := range append([]*zone.Zone{nil}, versions...) {
			whole, _ := xfr.Split(xfr.Full(h.Last()), size)
			if !zone.Same(handed(t, have, whole), versions[4]) {
				t.Error(size)
			}
			steps, _ := xfr.Split(xfr.Since(h, have.Serial()), size)
			if have != nil && !zone.Same(handed(t, have, steps), versions[4]) {
				t.Error(size)
			}
		}
	}
}

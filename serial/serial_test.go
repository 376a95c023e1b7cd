package serial_test

import (
	"math"
	"math/rand"
	"reflect"
	"slices"
	"strings"
	"testing"

	"rhyne/api"
	"rhyne/msg"
	"rhyne/serial"
	"rhyne/zone"
)

type record = api.Record

// soa is the SOA of an origin, with a serial.
func soa(origin string, n int) record {
	data := "\x00\x00" + string([]byte{byte(n >> 24), byte(n >> 16), byte(n >> 8), byte(n)}) + strings.Repeat("\x00\x00\x00\x09", 4)
	return record{Name: origin, Type: api.SOA, TTL: 60, Data: data}
}

// ns is the NS of an origin.
func ns(origin string) record { return record{Name: origin, Type: api.NS, TTL: 60, Data: "\x00"} }

// a is an A.
func a(s, data string) record { return record{Name: s, Type: api.A, TTL: 5, Data: data} }

// of is the zone of an origin with a serial, an NS and those records.
func of(t testing.TB, origin string, n int, l ...record) *zone.Zone {
	t.Helper()
	z, e := zone.Build(origin, append([]record{soa(origin, n), ns(origin)}, l...))
	if e != api.OK {
		t.Fatalf("Build of %+v: %d", l, e)
	}
	return z
}

// x is of of x.
func x(t testing.TB, n int, l ...record) *zone.Zone {
	t.Helper()
	return of(t, "x.", n, l...)
}

// serials are some, at the ends of halves and of the round among them.
var serials = []int{0, 1, 2, 255, 256, 65535, 1 << 24, 1<<30 - 1, 1 << 30, 1<<31 - 2, 1<<31 - 1, 1 << 31, 1<<31 + 1, 1<<31 + 2, 3 << 30, 1<<32 - 3, 1<<32 - 2, 1<<32 - 1}

// P20.1: which of two serials comes ahead.
func TestLess(t *testing.T) {
	for _, a := range serials {
		for _, b := range serials {
			farther := ((b-a)%(1<<32) + 1<<32) % (1 << 32)
			want := farther != 0 && farther < 1<<31
			if serial.Less(a, b) != want {
				t.Error(a, b, !want)
			}
			if want && serial.Less(b, a) {
				t.Error(a, b, "both")
			}
		}
		for _, n := range []int{-1, math.MinInt, 1 << 32, 1<<32 + 1, a + 1<<32, a - 1<<32, math.MaxInt} {
			if serial.Less(a, n) || serial.Less(n, a) || serial.Less(n, n+1) || serial.Less(n-1, n) {
				t.Error(a, n)
			}
		}
	}
	if !serial.Less(4294967295, 0) || serial.Less(0, 2147483648) || serial.Less(2147483648, 0) || !serial.Less(0, 2147483647) || !serial.Less(2147483649, 0) {
		t.Error("half a round")
	}
	draw := rand.New(rand.NewSource(201))
	for range 10000 {
		a, n := draw.Intn(1<<32), 1+draw.Intn(1<<31-1)
		b := (a + n) % (1 << 32)
		if !serial.Less(a, b) || serial.Less(b, a) || serial.Less(a, a) {
			t.Error(a, n, b)
		}
	}
}

// P20.1: a serial, so many further; so far it comes behind.
func TestAdd(t *testing.T) {
	for _, a := range serials {
		for _, n := range []int{0, 1, 2, 255, 1 << 30, 1<<31 - 2, 1<<31 - 1} {
			b, e := serial.Add(a, n)
			if b != (a+n)%(1<<32) || e != api.OK || serial.Less(a, b) != (n > 0) {
				t.Error(a, n, b, e)
			}
		}
		for _, n := range []int{-1, math.MinInt, 1 << 31, 1<<31 + 1, 1<<32 - 1, 1 << 32, math.MaxInt} {
			if b, e := serial.Add(a, n); b != 0 || e != api.ErrArg {
				t.Error(a, n, b, e)
			}
		}
	}
	for _, a := range []int{-1, math.MinInt, 1 << 32, 1<<32 + 1, math.MaxInt} {
		for _, n := range []int{0, 1, -1, math.MaxInt} {
			if b, e := serial.Add(a, n); b != 0 || e != api.ErrArg {
				t.Error(a, n, b, e)
			}
		}
	}
	if n, e := serial.Add(4294967295, 2); n != 1 || e != api.OK {
		t.Error(n, e)
	}
}

// steps tells whether Diff answers as it should; lists of a step that are nil and empty are one.
func steps(t *testing.T, y, z *zone.Zone, want serial.Step) {
	t.Helper()
	if s, e := serial.Diff(y, z); e != api.OK || !sameStep(s, want) {
		t.Errorf("Diff: %+v, %d; not %+v", s, e, want)
	}
}

// sameStep tells whether two steps are one.
func sameStep(s, u serial.Step) bool {
	return s.From == u.From && s.To == u.To && slices.Equal(s.Gone, u.Gone) && slices.Equal(s.Came, u.Came)
}

// P20.1: what a step has.
func TestDiff(t *testing.T) {
	one, two, three := a("b.x.", "1111"), a("b.x.", "2222"), a("a.x.", "3333")
	longer := one
	longer.TTL = 6
	steps(t, x(t, 1), x(t, 2), serial.Step{From: soa("x.", 1), To: soa("x.", 2)})
	steps(t, x(t, 1, one), x(t, 2, one), serial.Step{From: soa("x.", 1), To: soa("x.", 2)})
	steps(t, x(t, 1, one), x(t, 2), serial.Step{From: soa("x.", 1), To: soa("x.", 2), Gone: []record{one}})
	steps(t, x(t, 1), x(t, 2, one), serial.Step{From: soa("x.", 1), To: soa("x.", 2), Came: []record{one}})
	steps(t, x(t, 1, two, one, three), x(t, 2), serial.Step{From: soa("x.", 1), To: soa("x.", 2), Gone: []record{three, one, two}})
	steps(t, x(t, 1), x(t, 2, two, one, three), serial.Step{From: soa("x.", 1), To: soa("x.", 2), Came: []record{three, one, two}})
	steps(t, x(t, 1, one, two), x(t, 2, two, three), serial.Step{From: soa("x.", 1), To: soa("x.", 2), Gone: []record{one}, Came: []record{three}})
	// A record with another TTL is another one.
	steps(t, x(t, 1, one), x(t, 2, longer), serial.Step{From: soa("x.", 1), To: soa("x.", 2), Gone: []record{one}, Came: []record{longer}})
	steps(t, x(t, 1<<32-1, one), x(t, 0, one), serial.Step{From: soa("x.", 1<<32-1), To: soa("x.", 0)})
	steps(t, of(t, ".", 1), of(t, ".", 1<<31, a("a.", "1111")), serial.Step{From: soa(".", 1), To: soa(".", 1<<31), Came: []record{a("a.", "1111")}})
	// An NS is a record like others.
	other := record{Name: "x.", Type: api.NS, TTL: 9, Data: "\x01n\x00"}
	z, e := zone.Build("x.", []record{other, soa("x.", 7)})
	if e != api.OK {
		t.Fatal(e)
	}
	steps(t, x(t, 5), z, serial.Step{From: soa("x.", 5), To: soa("x.", 7), Gone: []record{ns("x.")}, Came: []record{other}})
}

// P20.1: of what there is no step.
func TestDiffRefuses(t *testing.T) {
	z := x(t, 5)
	for _, c := range [][2]*zone.Zone{
		{nil, nil}, {nil, z}, {z, nil}, {z, z}, {z, x(t, 5, a("a.x.", "1111"))}, {z, x(t, 4)}, {z, x(t, 5+1<<31)}, {x(t, 5+1<<31), z}, {z, x(t, 6+1<<31)},
		{z, of(t, "y.", 6)}, {z, of(t, "a.x.", 6)}, {z, of(t, ".", 6)}, {of(t, ".", 4), z}, {{}, z}, {z, {}}, {{}, {}}, {nil, {}}, {{}, nil},
	} {
		if s, e := serial.Diff(c[0], c[1]); e != api.ErrArg || !reflect.DeepEqual(s, serial.Step{}) {
			t.Errorf("%+v, %+v: %+v, %d", c[0], c[1], s, e)
		}
	}
}

// P20.1: what a step makes of a zone, though it be none that Diff would tell.
func TestApply(t *testing.T) {
	one, two, three := a("b.x.", "1111"), a("b.x.", "2222"), a("a.x.", "3333")
	z := x(t, 5, one, two)
	from, to := soa("x.", 5), soa("x.", 6)
	for _, c := range []struct {
		step serial.Step
		want *zone.Zone
	}{
		{serial.Step{From: from, To: to}, x(t, 6, one, two)},
		{serial.Step{From: from, To: to, Gone: []record{two}, Came: []record{three}}, x(t, 6, one, three)},
		{serial.Step{From: from, To: to, Gone: []record{two, one, two}, Came: []record{three, three}}, x(t, 6, three)},
		{serial.Step{From: from, To: from}, z},
		{serial.Step{From: from, To: soa("x.", 4)}, x(t, 4, one, two)},
		// What goes and comes is there; what came and was there is there once.
		{serial.Step{From: from, To: to, Gone: []record{one}, Came: []record{one}}, x(t, 6, one, two)},
		{serial.Step{From: from, To: to, Came: []record{one, two}}, x(t, 6, one, two)},
		{serial.Step{From: from, To: to, Gone: []record{from}}, x(t, 6, one, two)},
		{serial.Step{From: from, To: to, Gone: []record{ns("x.")}, Came: []record{ns("x."), to}}, x(t, 6, one, two)},
		{serial.Step{From: from, To: three, Came: []record{to}}, x(t, 6, one, two, three)},
	} {
		y, e := serial.Apply(z, c.step)
		if e != api.OK || !zone.Same(y, c.want) {
			t.Errorf("%+v: %+v, %d", c.step, y.Records(), e)
		}
	}
	if !zone.Same(z, x(t, 5, one, two)) {
		t.Error("Apply changed a zone")
	}
	root := of(t, ".", 1)
	if y, e := serial.Apply(root, serial.Step{From: soa(".", 1), To: soa(".", 2)}); e != api.OK || !zone.Same(y, of(t, ".", 2)) {
		t.Error(y, e)
	}
}

// applies tells whether Apply refuses as it should.
func applies(t *testing.T, z *zone.Zone, s serial.Step, want api.Errno) {
	t.Helper()
	if y, e := serial.Apply(z, s); y != nil || e != want {
		t.Errorf("Apply of %+v .., %d, %d: %v, %d; not %d", s.From, len(s.Gone), len(s.Came), y, e, want)
	}
}

// P20.1: what Apply refuses, and what it tells first.
func TestApplyRefuses(t *testing.T) {
	one, two := a("b.x.", "1111"), a("b.x.", "2222")
	z := x(t, 5, one)
	from, to := soa("x.", 5), soa("x.", 6)
	bad := record{Name: "y."}
	for _, s := range []serial.Step{{}, {From: from, To: to}, {From: bad}, {From: from, To: to, Gone: []record{bad}, Came: make([]record, 400)}} {
		applies(t, nil, s, api.ErrArg)
		applies(t, &zone.Zone{}, s, api.ErrState)
	}
	longer, unlike := from, from
	longer.TTL++
	unlike.Name = "a.x."
	for _, wrong := range []record{{}, to, soa("x.", 4), longer, unlike, one, ns("x."), bad} {
		applies(t, z, serial.Step{From: wrong, To: to}, api.ErrState)
		applies(t, z, serial.Step{From: wrong, To: bad, Gone: []record{one}, Came: make([]record, 400)}, api.ErrState)
	}
	shorter := one
	shorter.TTL--
	for _, wrong := range []record{{}, two, shorter, to, bad} {
		for _, l := range [][]record{{wrong}, {wrong, one}, {one, wrong}, {one, wrong, one}} {
			applies(t, z, serial.Step{From: from, To: to, Gone: l}, api.ErrState)
			applies(t, z, serial.Step{From: from, To: bad, Gone: l, Came: make([]record, 400)}, api.ErrState)
			applies(t, z, serial.Step{From: from, To: to, Gone: l, Came: []record{two, shorter}}, api.ErrState)
		}
	}
	// What zone.Build refuses.
	for _, s := range []serial.Step{
		{From: from}, {From: from, To: bad}, {From: from, To: one}, {From: from, To: unlike}, {From: from, To: soa("y.", 6)},
		{From: from, To: to, Gone: []record{ns("x.")}}, {From: from, To: to, Came: []record{bad}}, {From: from, To: to, Came: []record{a("y.", "1111")}}, {From: from, To: to, Came: []record{soa("x.", 7)}}, {From: from, To: to, Came: []record{from}},
		{From: from, To: to, Came: []record{shorter}}, {From: from, To: to, Came: []record{{Name: "b.x.", Type: api.CNAME, Data: "\x00"}}}, {From: from, To: to, Came: []record{a("b.x.", "111")}},
	} {
		applies(t, z, s, api.ErrForm)
	}
	if y, e := serial.Apply(z, serial.Step{From: from, To: to, Gone: []record{one}, Came: []record{shorter}}); e != api.OK || !zone.Same(y, x(t, 6, shorter)) {
		t.Error(y, e)
	}
}

// P20.1: more than MaxRecords, where a record counts as often as it stands in one of the lists.
func TestApplyBig(t *testing.T) {
	var l []record
	for i := range 298 {
		l = append(l, a("a.x.", string([]byte{0, 0, byte(i >> 8), byte(i)})))
	}
	z := x(t, 5, l...)
	from, to := soa("x.", 5), soa("x.", 6)
	more := a("a.x.", "more")
	for _, came := range [][]record{nil, {more}, {l[0]}, {ns("x.")}, {l[0], l[0]}, {to}, {{}}} {
		for gone := range 4 {
			s := serial.Step{From: from, To: to, Gone: slices.Clone(l[1 : 1+gone]), Came: came}
			if len(came) > gone {
				applies(t, z, s, api.ErrBig)
				continue
			}
			if slices.Contains(came, record{}) {
				applies(t, z, s, api.ErrForm)
				continue
			}
			want := x(t, 6, slices.Concat(l[:1], l[1+gone:])...)
			if slices.Contains(came, more) {
				want = x(t, 6, slices.Concat(l[:1], l[1+gone:], came)...)
			}
			if y, e := serial.Apply(z, s); e != api.OK || !zone.Same(y, want) {
				t.Error(came, gone, e)
			}
		}
	}
	applies(t, z, serial.Step{From: from, To: record{}, Came: []record{more}}, api.ErrBig)
	applies(t, z, serial.Step{From: from, To: record{}}, api.ErrForm)
	applies(t, x(t, 5), serial.Step{From: from, To: to, Came: slices.Repeat([]record{more}, 299)}, api.ErrBig)
	if y, e := serial.Apply(x(t, 5), serial.Step{From: from, To: to, Came: slices.Repeat([]record{more}, 298)}); e != api.OK || !zone.Same(y, x(t, 6, more)) {
		t.Error(e)
	}
	// The same record, over and over, may go.
	if y, e := serial.Apply(z, serial.Step{From: from, To: to, Gone: slices.Repeat(l[:1], 1000)}); e != api.OK || !zone.Same(y, x(t, 6, l[1:]...)) {
		t.Error(e)
	}
}

// anyVersion draws the zone of a serial, with few records.
func anyVersion(t testing.TB, draw *rand.Rand, n int) *zone.Zone {
	l := []record{soa("x.", n), ns("x.")}
	for range draw.Intn(10) {
		r := a([]string{"a.x.", "b.x.", "*.x.", "b.a.x."}[draw.Intn(4)], []string{"1111", "2222", "3333"}[draw.Intn(3)])
		r.TTL = 5 + draw.Intn(2)
		if draw.Intn(5) == 0 {
			r.Type = 99
		}
		if _, e := zone.Build("x.", append(l, r)); e == api.OK {
			l = append(l, r)
		}
	}
	z, e := zone.Build("x.", l)
	if e != api.OK {
		t.Fatal(e)
	}
	return z
}

// P20.2: the step from a to b, applied to a, makes b; to no other version, and it tells what is in one alone.
func TestDiffThenApply(t *testing.T) {
	draw := rand.New(rand.NewSource(202))
	for range 5000 {
		n := serials[draw.Intn(len(serials))]
		b, _ := serial.Add(n, 1+draw.Intn(1<<31-1))
		y, z := anyVersion(t, draw, n), anyVersion(t, draw, b)
		s, e := serial.Diff(y, z)
		if e != api.OK {
			t.Fatal(n, b, e)
		}
		if made, e := serial.Apply(y, s); e != api.OK || !zone.Same(made, z) {
			t.Fatalf("%+v and %+v: %+v, %d", y.Records(), s, made, e)
		}
		if _, e := serial.Apply(z, s); e != api.ErrState {
			t.Fatal(e)
		}
		for _, r := range s.Gone {
			if !slices.Contains(y.Records(), r) || slices.Contains(z.Records(), r) || r.Type == api.SOA {
				t.Fatal(r)
			}
		}
		for _, r := range s.Came {
			if slices.Contains(y.Records(), r) || !slices.Contains(z.Records(), r) || r.Type == api.SOA {
				t.Fatal(r)
			}
		}
		if !slices.Equal(s.Gone, msg.Sort(s.Gone)) || !slices.Equal(s.Came, msg.Sort(s.Came)) {
			t.Fatal(s)
		}
		if _, e := serial.Diff(z, y); e != api.ErrArg {
			t.Fatal(e)
		}
	}
}

// P20.4: what Apply is handed isn't changed, nor its spare room, and not kept; Diff's answer is new memory.
func TestStepMemory(t *testing.T) {
	one, two, three := a("b.x.", "1111"), a("b.x.", "2222"), a("a.x.", "3333")
	y, z := x(t, 5, one, two), x(t, 6, two, three)
	s, _ := serial.Diff(y, z)
	again, _ := serial.Diff(y, z)
	clear(s.Gone[:cap(s.Gone)])
	if !slices.Equal(s.Came, again.Came) {
		t.Error("lists of one step share their memory")
	}
	clear(s.Came[:cap(s.Came)])
	steps(t, y, z, again)
	if !zone.Same(y, x(t, 5, one, two)) || !zone.Same(z, x(t, 6, two, three)) {
		t.Error("Diff's answer has a zone's memory")
	}
	gone, came := append(again.Gone, record{Name: "spare."}), append(again.Came, record{Name: "spare."})
	again.Gone, again.Came = gone[:1], came[:1]
	made, e := serial.Apply(y, again)
	if e != api.OK || gone[0] != one || came[0] != three || gone[1].Name != "spare." || came[1].Name != "spare." {
		t.Error("Apply changed a step", e)
	}
	clear(gone)
	clear(came)
	if !zone.Same(made, z) {
		t.Error("Apply kept a step")
	}
}

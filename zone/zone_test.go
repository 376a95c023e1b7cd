package zone_test

import (
	"math"
	"math/rand"
	"reflect"
	"slices"
	"strings"
	"testing"

	"rhyne/api"
	"rhyne/msg"
	"rhyne/name"
	"rhyne/zone"
)

type record = api.Record

// wire is a name's bytes.
func wire(s string) string {
	b, e := name.Wire(s)
	if e != api.OK {
		panic(s)
	}
	return string(b)
}

// below is the name of some parts below an origin.
func below(parts, origin string) string {
	if origin == "." {
		return parts
	}
	return parts + origin
}

// number is a number's four bytes.
func number(n int) string { return string([]byte{byte(n >> 24), byte(n >> 16), byte(n >> 8), byte(n)}) }

// soa is an origin's, with a TTL, a serial and a last number.
func soa(origin string, ttl, serial, last int) record {
	return record{Name: origin, Type: api.SOA, TTL: ttl, Data: wire("n.") + wire("m.") + number(serial) + "AAAABBBBCCCC" + number(last)}
}

// Records of some types, each with a TTL of its type.
func ns(s, target string) record { return record{Name: s, Type: api.NS, TTL: 20, Data: wire(target)} }
func cname(s, target string) record {
	return record{Name: s, Type: api.CNAME, TTL: 50, Data: wire(target)}
}
func a(s, data string) record { return record{Name: s, Type: api.A, TTL: 10, Data: data} }
func aaaa(s, data string) record {
	return record{Name: s, Type: api.AAAA, TTL: 28, Data: strings.Repeat(data, 4)}
}
func txt(s, data string) record {
	return record{Name: s, Type: api.TXT, TTL: 16, Data: string([]byte{byte(len(data))}) + data}
}
func mx(s, target string) record {
	return record{Name: s, Type: api.MX, TTL: 15, Data: "\x00\x05" + wire(target)}
}
func other(s, data string) record { return record{Name: s, Type: 99, TTL: 99, Data: data} }

// with are records, and ahead of them an SOA and an NS of the origin.
func with(origin string, l ...record) []record {
	return append([]record{soa(origin, 60, 1, 7), ns(origin, below("n.", origin))}, l...)
}

// built is the zone of records.
func built(t testing.TB, origin string, l ...record) *zone.Zone {
	t.Helper()
	z, e := zone.Build(origin, l)
	if e != api.OK || z == nil {
		t.Fatalf("Build of %q, %+v: %d", origin, l, e)
	}
	return z
}

// builds tells whether Build answers as it should.
func builds(t *testing.T, origin string, l []record, want api.Errno) {
	t.Helper()
	z, e := zone.Build(origin, l)
	if e != want || (z == nil) != (want != api.OK) {
		t.Errorf("Build of %q, %d records, %+v ..: %v, %d; not %d", origin, len(l), l[:min(len(l), 9)], z, e, want)
	}
}

// P19.1: what a zone tells of itself.
func TestBuild(t *testing.T) {
	for _, origin := range []string{"x.", ".", "a.b.c.", "*.x.", strings.Repeat("a.", 125)} {
		l := with(origin)
		for range 2 {
			z := built(t, origin, l...)
			if z.Origin() != origin || z.Serial() != 1 || !slices.Equal(z.Records(), msg.Sort(l)) {
				t.Error(origin, z.Origin(), z.Serial(), z.Records())
			}
			l = append(l, a(below("a.", origin), "1234"), a(origin, "1234"), txt(below("a.", origin), "t"))
		}
	}
	for _, serial := range []int{0, 1, 255, 256, 1 << 31, 1<<31 - 1, 1<<32 - 1} {
		if z := built(t, "x.", soa("x.", 0, serial, 0), ns("x.", "n.")); z.Serial() != serial {
			t.Error(serial, z.Serial())
		}
	}
	// Records come as msg.Sort has them: names from the highest part on, then types, then data.
	z := built(t, "x.", with("x.", a("b.x.", "2222"), txt("b.x.", "t"), a("b.x.", "1111"), a("a.b.x.", "1111"), a("c.a.x.", "1111"), a("z.x.", "1111"), a("x.", "1111"))...)
	want := []record{a("x.", "1111"), ns("x.", "n.x."), soa("x.", 60, 1, 7), a("c.a.x.", "1111"), a("b.x.", "1111"), a("b.x.", "2222"), txt("b.x.", "t"), a("a.b.x.", "1111"), a("z.x.", "1111")}
	if !slices.Equal(z.Records(), want) {
		t.Error(z.Records())
	}
}

// P19.1: what is no zone.
func TestBuildRefuses(t *testing.T) {
	for _, origin := range []string{"", "x", "X.", "x..", ".x.", " .", strings.Repeat("a.", 128)} {
		builds(t, origin, with("x."), api.ErrName)
		builds(t, origin, nil, api.ErrName)
		builds(t, origin, make([]record, 301), api.ErrName)
	}
	x := with("x.")
	for _, l := range [][]record{
		nil, {soa("x.", 60, 1, 7)}, {ns("x.", "n.x.")},
		{soa("a.x.", 60, 1, 7), ns("x.", "n.")}, {soa("x.", 60, 1, 7), ns("a.x.", "n.")}, {soa("a.x.", 60, 1, 7), ns("a.x.", "n.")},
		append(x, soa("a.x.", 60, 1, 7)), append(x, soa("x.", 60, 2, 7)), append(x, soa("x.", 61, 1, 7)), append(x, soa("x.", 60, 1, 8)),
		append(x, a("y.", "1234")), append(x, a(".", "1234")), append(x, a("ax.", "1234")), append(x, a("x.a.", "1234")), append(x, soa("y.", 60, 1, 7)), append(x, ns("y.", "n.")),
		append(x, a("a.x.", "123")), append(x, a("a.x", "1234")), append(x, a("A.x.", "1234")), append(x, record{}), append(x, record{Name: "a.x.", Data: "1234"}),
		append(x, record{Name: "a.x.", Type: 1, TTL: -1, Data: "1234"}), append(x, record{Name: "a.x.", Type: 65536}), append(x, other("a.x.", strings.Repeat("t", 1001))),
		append(x, cname("x.", "a.x.")),
	} {
		builds(t, "x.", l, api.ErrForm)
		slices.Reverse(l)
		builds(t, "x.", l, api.ErrForm)
	}
	builds(t, "x.", append(x, soa("x.", 60, 1, 7), ns("x.", "n.x."), soa("x.", 60, 1, 7)), api.OK)
	builds(t, "x.", append(x, ns("x.", "m.x.")), api.OK)
	builds(t, ".", append(with("."), a("y.", "1234")), api.OK)
	builds(t, "a.x.", x, api.ErrForm)
}

// P19.1: a CNAME is alone at its name, and nowhere else does it matter.
func TestBuildAlias(t *testing.T) {
	x := with("x.", cname("c.x.", "a.x."))
	builds(t, "x.", x, api.OK)
	for _, r := range []record{cname("c.x.", "a.x."), a("a.c.x.", "1234"), cname("a.c.x.", "b.x."), a("b.x.", "1234"), ns("d.x.", "c.x.")} {
		builds(t, "x.", append(x, r), api.OK)
	}
	unlike := cname("c.x.", "a.x.")
	unlike.TTL++
	for _, r := range []record{a("c.x.", "1234"), ns("c.x.", "n."), txt("c.x.", "t"), other("c.x.", ""), {Name: "c.x.", Type: 3, TTL: 50, Data: "t"}, {Name: "c.x.", Type: 6, TTL: 60, Data: soa("x.", 60, 1, 7).Data}, cname("c.x.", "b.x."), cname("c.x.", "0.x."), unlike} {
		builds(t, "x.", append(x, r), api.ErrForm)
		builds(t, "x.", append([]record{r}, x...), api.ErrForm)
	}
}

// P19.1: records of one name and type have one TTL.
func TestBuildTTLs(t *testing.T) {
	one, two, far := a("a.x.", "1234"), a("a.x.", "5678"), a("a.x.", "3333")
	for _, r := range []*record{&one, &two, &far} {
		for _, ttl := range []int{0, 9, 11, math.MaxInt32} {
			held := r.TTL
			r.TTL = ttl
			builds(t, "x.", with("x.", one, two, far), api.ErrForm)
			builds(t, "x.", with("x.", *r), api.OK)
			r.TTL = held
		}
	}
	builds(t, "x.", with("x.", one, two, far), api.OK)
	again := one
	again.TTL++
	builds(t, "x.", with("x.", one, again), api.ErrForm)
	// Of another name, or another type, it may be another one.
	for _, r := range []record{{Name: "b.x.", Type: 1, TTL: 99, Data: "1234"}, {Name: "a.x.", Type: 99, TTL: 98, Data: "1234"}, {Name: "a.a.x.", Type: 1, TTL: 97, Data: "1234"}} {
		builds(t, "x.", with("x.", one, r), api.OK)
	}
	second := ns("x.", "m.")
	second.TTL = 21
	builds(t, "x.", with("x.", second), api.ErrForm)
}

// P19.1: at most 300 records, of which each one that is handed in counts.
func TestBuildBig(t *testing.T) {
	l := with("x.")
	for i := range 298 {
		l = append(l, a("a.x.", number(i)))
	}
	z := built(t, "x.", l...)
	if len(z.Records()) != 300 {
		t.Error(len(z.Records()))
	}
	if r := z.Lookup(api.Question{Name: "a.x.", Type: api.A}); len(r.Answers) != 298 || !slices.Equal(r.Answers, msg.Sort(r.Answers)) {
		t.Error(len(r.Answers))
	}
	builds(t, "x.", append(l, a("a.x.", "zzzz")), api.ErrBig)
	builds(t, "x.", append(l, l[0]), api.ErrBig)
	builds(t, "x.", append(l, record{}), api.ErrBig)
	builds(t, "x.", make([]record, 300), api.ErrForm)
	builds(t, "x.", make([]record, 301), api.ErrBig)
	builds(t, "x.", slices.Repeat(with("x."), 150), api.OK)
	builds(t, "x.", slices.Repeat(with("x."), 151), api.ErrBig)
	l[299] = record{}
	builds(t, "x.", l, api.ErrForm)
}

// P19.1: zones are the same by their origins and their records, however they came.
func TestSame(t *testing.T) {
	x := with("x.", a("a.x.", "1234"))
	z := built(t, "x.", x...)
	if !zone.Same(z, z) || !zone.Same(z, built(t, "x.", with("x.", a("a.x.", "1234"), x[0])...)) {
		t.Error("of the same records")
	}
	later, longer, lower := slices.Clone(x), slices.Clone(x), slices.Clone(x)
	later[0] = soa("x.", 60, 2, 7)
	longer[2].TTL = 11
	lower[2].Name = "b.x."
	for _, l := range [][]record{x[:2], later, longer, lower, append(slices.Clone(x), a("a.x.", "1235"))} {
		if y := built(t, "x.", l...); zone.Same(z, y) || zone.Same(y, z) {
			t.Errorf("%+v", l)
		}
	}
	if y := built(t, "y.", with("y.", a("a.y.", "1234"))...); zone.Same(z, y) {
		t.Error("of unlike origins")
	}
}

// P1, P19.1: no zone, and one that Build didn't make.
func TestNoZone(t *testing.T) {
	var none *zone.Zone
	z := built(t, "x.", with("x.")...)
	for _, n := range []*zone.Zone{none, {}} {
		if n.Origin() != "" || n.Serial() != 0 || len(n.Records()) != 0 || zone.Same(n, z) || zone.Same(z, n) || !zone.Same(n, n) {
			t.Error(n.Origin(), n.Serial(), n.Records())
		}
		for _, s := range []string{"x.", ".", "", "X."} {
			if r := n.Lookup(api.Question{Name: s, Type: 1}); !reflect.DeepEqual(r, zone.Reply{Code: msg.Failed}) {
				t.Error(s, r)
			}
		}
	}
	if !zone.Same(none, nil) || zone.Same(none, z) || zone.Same(z, none) {
		t.Error("Same of none")
	}
}

// P19.4: what is handed in isn't changed, nor its spare room, and isn't kept; answers are new memory.
func TestZoneMemory(t *testing.T) {
	l := with("x.", ns("s.x.", "g.s.x."), ns("s.x.", "n.x."), a("n.x.", "1111"), a("g.s.x.", "1234"), a("a.x.", "2222"), a("a.x.", "1111"), cname("c.x.", "a.x."), cname("d.x.", "c.x."), txt("*.w.x.", "t"), txt("*.w.x.", "r"))
	spare := append(slices.Clone(l), other("spare.", ""))
	given := spare[:len(l)]
	z := built(t, "x.", given...)
	if !slices.Equal(given, l) || spare[len(l)].Name != "spare." {
		t.Error("Build changed its records")
	}
	clear(spare)
	if !slices.Equal(z.Records(), msg.Sort(l)) {
		t.Error("Build kept its records")
	}
	for _, s := range []string{"x.", "s.x.", "q.s.x.", "a.x.", "d.x.", "q.w.x.", "w.x.", "none.x."} {
		for _, kind := range []int{api.A, api.NS, api.SOA, api.TXT, api.CNAME} {
			q := api.Question{Name: s, Type: kind}
			want := z.Lookup(q)
			r := z.Lookup(q)
			if !reflect.DeepEqual(r, want) {
				t.Fatal(q, r, want)
			}
			for i, spoilt := range [][]record{r.Answers, r.Authority, r.Extra} {
				clear(spoilt[:cap(spoilt)])
				for j, kept := range [][]record{r.Answers, r.Authority, r.Extra} {
					if j > i && !slices.Equal(kept, [][]record{want.Answers, want.Authority, want.Extra}[j]) {
						t.Error(q, "lists of one answer share their memory")
					}
				}
			}
			if again := z.Lookup(q); !reflect.DeepEqual(again, want) {
				t.Error(q, again, want)
			}
		}
	}
	all := z.Records()
	clear(all[:cap(all)])
	if !slices.Equal(z.Records(), msg.Sort(l)) {
		t.Error("Records shares its memory")
	}
}

// P19.2: the order in which records come, and how often, is nothing.
func TestOrderOfRecords(t *testing.T) {
	draw := rand.New(rand.NewSource(191))
	for range 300 {
		origin, l := anyZone(draw)
		z := built(t, origin, l...)
		mixed := slices.Clone(l)
		for range draw.Intn(6) {
			mixed = append(mixed, l[draw.Intn(len(l))])
		}
		draw.Shuffle(len(mixed), func(i, j int) { mixed[i], mixed[j] = mixed[j], mixed[i] })
		y := built(t, origin, mixed...)
		if !zone.Same(z, y) || z.Serial() != y.Serial() || !slices.Equal(z.Records(), y.Records()) {
			t.Fatalf("%+v and %+v", z.Records(), y.Records())
		}
		for range 30 {
			q := anyQuestion(draw, origin)
			if r, s := z.Lookup(q), y.Lookup(q); !reflect.DeepEqual(r, s) {
				t.Fatal(q, r, s)
			}
		}
	}
}

// P1: any records at all.
func TestAnyRecords(t *testing.T) {
	draw := rand.New(rand.NewSource(192))
	texts := []string{"x.", ".", "", "x", "a.x.", "X.", "*.x.", "a..x.", "\x00", "\x01a\x00", "1234", strings.Repeat("a.", 127), strings.Repeat("a.", 200), "n.x.", soa("x.", 1, 1, 1).Data, wire("x.")}
	numbers := []int{math.MinInt, -1, 0, 1, 2, 5, 6, 15, 16, 28, 65535, 65536, 1 << 31, math.MaxInt}
	text := func() string { return texts[draw.Intn(len(texts))] }
	count := 0
	for range 30000 {
		l := with("x.")[draw.Intn(2):]
		for range draw.Intn(3) {
			l = append(l, record{Name: text(), Type: numbers[draw.Intn(len(numbers))], TTL: numbers[draw.Intn(len(numbers))], Data: text()})
		}
		z, e := zone.Build(texts[draw.Intn(2)*draw.Intn(len(texts))], l)
		if (z == nil) != (e != api.OK) {
			t.Fatal(z, e)
		}
		if z != nil {
			count++
		}
		q := api.Question{Name: text(), Type: numbers[draw.Intn(len(numbers))]}
		if r := z.Lookup(q); !reflect.DeepEqual(r, z.Lookup(q)) {
			t.Fatal(q, r)
		}
	}
	if count < 1000 {
		t.Error(count, "zones")
	}
}

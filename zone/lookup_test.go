package zone_test

import (
	"math"
	"math/rand"
	"reflect"
	"slices"
	"strings"
	"testing"

	"rhyne/api"
	"rhyne/msg"
	"rhyne/zone"
)

// lack is the SOA of with, as it tells that something isn't there.
func lack(origin string) []record { return []record{soa(origin, 7, 1, 7)} }

// alike tells whether two replies are one; nil and empty lists are.
func alike(r, s zone.Reply) bool {
	return r.Code == s.Code && r.Own == s.Own && slices.Equal(r.Answers, s.Answers) && slices.Equal(r.Authority, s.Authority) && slices.Equal(r.Extra, s.Extra)
}

// looks tells whether Lookup answers as it should.
func looks(t *testing.T, z *zone.Zone, s string, kind int, want zone.Reply) {
	t.Helper()
	if r := z.Lookup(api.Question{Name: s, Type: kind}); !alike(r, want) {
		t.Errorf("Lookup of %q, %d: %+v; not %+v", s, kind, r, want)
	}
}

// found, empty, missing are the replies of a zone of with.
func found(l ...record) zone.Reply { return zone.Reply{Own: true, Answers: l} }
func empty(origin string, l ...record) zone.Reply {
	return zone.Reply{Own: true, Answers: l, Authority: lack(origin)}
}
func missing(origin string, l ...record) zone.Reply {
	return zone.Reply{Code: msg.NoName, Own: true, Answers: l, Authority: lack(origin)}
}

// P19.1: names that are there, with a type's records or without; names below which one is; names that aren't there.
func TestLookupNames(t *testing.T) {
	z := built(t, "x.", with("x.", a("a.x.", "2222"), a("a.x.", "1111"), txt("a.x.", "t"), a("d.c.b.x.", "1111"), other("o.x.", ""))...)
	looks(t, z, "a.x.", api.A, found(a("a.x.", "1111"), a("a.x.", "2222")))
	looks(t, z, "a.x.", api.TXT, found(txt("a.x.", "t")))
	looks(t, z, "a.x.", api.AAAA, empty("x."))
	looks(t, z, "a.x.", api.CNAME, empty("x."))
	looks(t, z, "o.x.", 99, found(other("o.x.", "")))
	looks(t, z, "x.", api.NS, found(ns("x.", "n.x.")))
	looks(t, z, "x.", api.SOA, found(soa("x.", 60, 1, 7)))
	looks(t, z, "x.", api.A, empty("x."))
	looks(t, z, "d.c.b.x.", api.A, found(a("d.c.b.x.", "1111")))
	looks(t, z, "c.b.x.", api.A, empty("x."))
	looks(t, z, "b.x.", api.A, empty("x."))
	for _, s := range []string{"e.d.c.b.x.", "e.c.b.x.", "e.b.x.", "e.x.", "n.x.", "aa.x.", "a.a.x.", "*.x.", "*.a.x.", "x.x."} {
		looks(t, z, s, api.A, missing("x."))
		looks(t, z, s, api.CNAME, missing("x."))
		looks(t, z, s, api.SOA, missing("x."))
	}
	// A type of no record is none that is there.
	for _, kind := range []int{math.MinInt, -1, 0, 255, 251, 252, 65536, 65537, math.MaxInt} {
		looks(t, z, "a.x.", kind, empty("x."))
		looks(t, z, "e.x.", kind, missing("x."))
	}
	for _, s := range []string{"y.", ".", "ax.", "a.y.", "x.a.", "", "x", "a.x", "X.", "A.x.", "a..x.", " .x.", strings.Repeat("a.", 127) + "x."} {
		looks(t, z, s, api.A, zone.Reply{Code: msg.Refused})
	}
	looks(t, z, strings.Repeat("a.", 126)+"x.", api.A, missing("x."))
}

// P19.1: the zone of the root.
func TestLookupRoot(t *testing.T) {
	z := built(t, ".", with(".", a("a.", "1111"), ns("s.", "g.s."), a("g.s.", "2222"), cname("c.", "a."))...)
	looks(t, z, ".", api.NS, found(ns(".", "n.")))
	looks(t, z, ".", api.A, empty("."))
	looks(t, z, "a.", api.A, found(a("a.", "1111")))
	looks(t, z, "c.", api.A, found(cname("c.", "a."), a("a.", "1111")))
	looks(t, z, "b.", api.A, missing("."))
	looks(t, z, "b.a.", api.A, missing("."))
	looks(t, z, "q.s.", api.A, zone.Reply{Authority: []record{ns("s.", "g.s.")}, Extra: []record{a("g.s.", "2222")}})
	looks(t, z, "", api.A, zone.Reply{Code: msg.Refused})
	z = built(t, ".", with(".", a("*.", "1111"), a("b.a.", "2222"))...)
	looks(t, z, "q.", api.A, found(a("q.", "1111")))
	looks(t, z, "q.p.", api.A, found(a("q.p.", "1111")))
	looks(t, z, "*.", api.A, found(a("*.", "1111")))
	looks(t, z, "a.", api.A, empty("."))
	looks(t, z, "q.a.", api.A, missing("."))
	looks(t, z, "q.", api.TXT, empty("."))
	looks(t, z, ".", api.A, empty("."))
}

// P19.1: the TTL of an SOA that tells that something isn't there is the lesser of two.
func TestLookupLack(t *testing.T) {
	for _, c := range [][3]int{{60, 7, 7}, {7, 60, 7}, {7, 7, 7}, {0, 7, 0}, {7, 0, 0}, {math.MaxInt32, 1<<32 - 1, math.MaxInt32}, {5, 1 << 31, 5}, {9, 1<<32 - 1, 9}, {math.MaxInt32, 256, 256}, {math.MaxInt32, 1 << 24, 1 << 24}, {math.MaxInt32, 1 << 16, 1 << 16}} {
		z := built(t, "x.", soa("x.", c[0], 1, c[1]), ns("x.", "n."))
		fallen := soa("x.", c[2], 1, c[1])
		looks(t, z, "a.x.", api.A, zone.Reply{Code: msg.NoName, Own: true, Authority: []record{fallen}})
		looks(t, z, "x.", api.A, zone.Reply{Own: true, Authority: []record{fallen}})
		// Where it is what was asked it stays as it is.
		looks(t, z, "x.", api.SOA, found(soa("x.", c[0], 1, c[1])))
		if !slices.Contains(z.Records(), soa("x.", c[0], 1, c[1])) {
			t.Error(z.Records())
		}
	}
}

// P19.1: cuts: who is named, and whose addresses come with it.
func TestLookupCuts(t *testing.T) {
	l := with("x.", ns("s.x.", "g.s.x."), ns("s.x.", "n.x."), ns("s.x.", "far."), ns("t.s.x.", "g.t.s.x."), a("g.s.x.", "2222"), a("g.s.x.", "1111"), aaaa("g.s.x.", "6666"), a("n.x.", "3333"), txt("n.x.", "t"), txt("g.s.x.", "t"), a("g.t.s.x.", "4444"), a("q.x.", "1111"), mx("s.x.", "q.x."), cname("c.s.x.", "q.x."), a("*.s.x.", "5555"), ns("u.x.", "g.s.x."), cname("v.x.", "q.s.x."))
	z := built(t, "x.", l...)
	refer := zone.Reply{Authority: []record{ns("s.x.", "n.x."), ns("s.x.", "g.s.x."), ns("s.x.", "far.")}, Extra: []record{a("n.x.", "3333"), a("g.s.x.", "1111"), a("g.s.x.", "2222"), aaaa("g.s.x.", "6666")}}
	refer.Authority = msg.Sort(refer.Authority)
	refer.Extra = msg.Sort(refer.Extra)
	for _, s := range []string{"s.x.", "q.s.x.", "g.s.x.", "t.s.x.", "q.t.s.x.", "g.t.s.x.", "c.s.x.", "*.s.x.", "q.q.q.s.x."} {
		for _, kind := range []int{api.A, api.NS, api.TXT, api.SOA, api.CNAME, 0} {
			looks(t, z, s, kind, refer)
		}
	}
	// Behind a CNAME, too; then it is the zone's own.
	refer.Own, refer.Answers = true, []record{cname("v.x.", "q.s.x.")}
	looks(t, z, "v.x.", api.A, refer)
	looks(t, z, "v.x.", api.CNAME, found(cname("v.x.", "q.s.x.")))
	// Addresses may be those below another cut.
	looks(t, z, "u.x.", api.A, zone.Reply{Authority: []record{ns("u.x.", "g.s.x.")}, Extra: msg.Sort([]record{a("g.s.x.", "1111"), a("g.s.x.", "2222"), aaaa("g.s.x.", "6666")})})
	// An NS at the origin is no cut.
	looks(t, z, "x.", api.NS, found(ns("x.", "n.x.")))
	looks(t, z, "n.x.", api.A, found(a("n.x.", "3333")))
	looks(t, z, "ss.x.", api.A, missing("x."))
	// Neither a star's addresses nor a CNAME's target stand for a server's.
	z = built(t, "x.", with("x.", ns("s.x.", "g.x."), ns("s.x.", "c.x."), ns("s.x.", "x."), a("x.", "9999"), a("*.x.", "1111"), cname("c.x.", "a.x."), a("a.x.", "2222"))...)
	looks(t, z, "s.x.", api.A, zone.Reply{Authority: msg.Sort([]record{ns("s.x.", "g.x."), ns("s.x.", "c.x."), ns("s.x.", "x.")}), Extra: []record{a("x.", "9999")}})
}

// P19.1: a star stands for names that aren't there, below the nearest name that is, and for no others.
func TestLookupStars(t *testing.T) {
	z := built(t, "x.", with("x.", a("*.x.", "2222"), a("*.x.", "1111"), mx("*.x.", "m.x."), a("b.a.x.", "3333"), txt("w.x.", "t"), txt("*.w.x.", "u"), a("d.*.v.x.", "4444"), a("*.e.*.x.", "5555"))...)
	looks(t, z, "q.x.", api.A, found(a("q.x.", "1111"), a("q.x.", "2222")))
	looks(t, z, "q.q.x.", api.MX, found(mx("q.q.x.", "m.x.")))
	looks(t, z, "q.x.", api.TXT, empty("x."))
	looks(t, z, "*.x.", api.A, found(a("*.x.", "1111"), a("*.x.", "2222")))
	looks(t, z, "a.x.", api.A, empty("x."))
	looks(t, z, "b.a.x.", api.A, found(a("b.a.x.", "3333")))
	looks(t, z, "b.a.x.", api.MX, empty("x."))
	looks(t, z, "q.a.x.", api.A, missing("x."))
	looks(t, z, "q.b.a.x.", api.A, missing("x."))
	looks(t, z, "w.x.", api.A, empty("x."))
	looks(t, z, "q.w.x.", api.TXT, found(txt("q.w.x.", "u")))
	looks(t, z, "q.w.x.", api.A, empty("x."))
	looks(t, z, "q.p.w.x.", api.TXT, found(txt("q.p.w.x.", "u")))
	looks(t, z, "x.", api.A, empty("x."))
	// A star that is there, but has no records, stands for nothing; nor does a star for what is below itself.
	looks(t, z, "q.v.x.", api.A, missing("x."))
	looks(t, z, "*.v.x.", api.A, empty("x."))
	looks(t, z, "d.*.v.x.", api.A, found(a("d.*.v.x.", "4444")))
	looks(t, z, "q.*.x.", api.A, missing("x."))
	looks(t, z, "q.e.*.x.", api.A, found(a("q.e.*.x.", "5555")))
	// A star's NS stand for names as its other records do; at the star itself they are a cut.
	z = built(t, "x.", with("x.", ns("*.x.", "g.x."), a("g.x.", "1111"))...)
	looks(t, z, "q.x.", api.NS, found(ns("q.x.", "g.x.")))
	looks(t, z, "q.x.", api.A, empty("x."))
	looks(t, z, "*.x.", api.A, zone.Reply{Authority: []record{ns("*.x.", "g.x.")}, Extra: []record{a("g.x.", "1111")}})
	looks(t, z, "q.*.x.", api.A, zone.Reply{Authority: []record{ns("*.x.", "g.x.")}, Extra: []record{a("g.x.", "1111")}})
	// The longest names have a star above them, too.
	far := strings.Repeat("a.", 125) + "x."
	z = built(t, far, soa(far, 60, 1, 7), ns(far, "n."), a("*."+far, "1111"))
	looks(t, z, "b."+far, api.A, found(a("b."+far, "1111")))
	looks(t, z, "bb."+far, api.A, zone.Reply{Code: msg.Refused})
}

// P19.1: CNAMEs are followed, but not if they are what was asked, and not out of the zone, nor farther than 8.
func TestLookupAliases(t *testing.T) {
	z := built(t, "x.", with("x.", cname("c.x.", "d.x."), cname("d.x.", "a.x."), a("a.x.", "1111"), txt("a.x.", "t"), cname("out.x.", "y."), cname("up.x.", "."), cname("long.x.", "out.x."), cname("none.x.", "q.none.x."), cname("root.x.", "x."), cname("*.w.x.", "a.x."), cname("s.x.", "q.w.x."), cname("e.x.", "f.e.x."), mx("f.e.x.", "m."))...)
	c, d := cname("c.x.", "d.x."), cname("d.x.", "a.x.")
	looks(t, z, "c.x.", api.A, found(c, d, a("a.x.", "1111")))
	looks(t, z, "d.x.", api.A, found(d, a("a.x.", "1111")))
	looks(t, z, "c.x.", api.TXT, found(c, d, txt("a.x.", "t")))
	looks(t, z, "c.x.", api.MX, empty("x.", c, d))
	looks(t, z, "c.x.", api.CNAME, found(c))
	looks(t, z, "out.x.", api.A, found(cname("out.x.", "y.")))
	looks(t, z, "up.x.", api.A, found(cname("up.x.", ".")))
	looks(t, z, "long.x.", api.A, found(cname("long.x.", "out.x."), cname("out.x.", "y.")))
	looks(t, z, "none.x.", api.A, missing("x.", cname("none.x.", "q.none.x.")))
	looks(t, z, "root.x.", api.SOA, found(cname("root.x.", "x."), soa("x.", 60, 1, 7)))
	looks(t, z, "q.w.x.", api.A, found(cname("q.w.x.", "a.x."), a("a.x.", "1111")))
	looks(t, z, "q.w.x.", api.CNAME, found(cname("q.w.x.", "a.x.")))
	looks(t, z, "s.x.", api.A, found(cname("s.x.", "q.w.x."), cname("q.w.x.", "a.x."), a("a.x.", "1111")))
	looks(t, z, "e.x.", api.MX, found(cname("e.x.", "f.e.x."), mx("f.e.x.", "m.")))
	looks(t, z, "e.x.", 0, empty("x.", cname("e.x.", "f.e.x.")))
}

// P19.1: how many CNAMEs are followed.
func TestLookupHops(t *testing.T) {
	step := func(i int) string { return string([]byte{'a' + byte(i)}) + ".x." }
	for n := 1; n < 12; n++ {
		l, row := with("x.", a(step(n), "1111")), []record{}
		for i := range n {
			row = append(row, cname(step(i), step(i+1)))
		}
		z := built(t, "x.", append(l, row...)...)
		if n < 8 {
			looks(t, z, "a.x.", api.A, found(append(row, a(step(n), "1111"))...))
			looks(t, z, "a.x.", api.TXT, empty("x.", row...))
			continue
		}
		looks(t, z, "a.x.", api.A, found(row[:8]...))
		looks(t, z, "a.x.", api.TXT, found(row[:8]...))
		// Seven lead to where it begins again.
		looks(t, z, step(n-7), api.A, found(append(slices.Clone(row[n-7:]), a(step(n), "1111"))...))
	}
	// Rings: each CNAME stands as often as it was met.
	z := built(t, "x.", with("x.", cname("r.x.", "r.x."), cname("a.x.", "b.x."), cname("b.x.", "c.x."), cname("c.x.", "a.x."), cname("*.w.x.", "q.w.x."))...)
	looks(t, z, "r.x.", api.A, found(slices.Repeat([]record{cname("r.x.", "r.x.")}, 8)...))
	looks(t, z, "r.x.", api.CNAME, found(cname("r.x.", "r.x.")))
	ring := slices.Repeat([]record{cname("a.x.", "b.x."), cname("b.x.", "c.x."), cname("c.x.", "a.x.")}, 3)
	looks(t, z, "a.x.", api.A, found(ring[:8]...))
	looks(t, z, "b.x.", api.A, found(ring[1:]...))
	looks(t, z, "q.w.x.", api.A, found(slices.Repeat([]record{cname("q.w.x.", "q.w.x.")}, 8)...))
	looks(t, z, "p.w.x.", api.A, found(append([]record{cname("p.w.x.", "q.w.x.")}, slices.Repeat([]record{cname("q.w.x.", "q.w.x.")}, 7)...)...))
}

// P19.1: the ninth step isn't taken, whatever stands there: no cut and no lack is told.
func TestLookupHopsThenElse(t *testing.T) {
	step := func(i int) string { return string([]byte{'a' + byte(i)}) + ".x." }
	for _, target := range []string{"none.x.", "q.s.x.", "y.", "x."} {
		for n := 6; n <= 9; n++ {
			row := []record{}
			for i := range n - 1 {
				row = append(row, cname(step(i), step(i+1)))
			}
			row = append(row, cname(step(n-1), target))
			z := built(t, "x.", append(with("x.", ns("s.x.", "far.")), row...)...)
			want := found(row[:min(n, 8)]...)
			switch {
			case n >= 8 || target == "y.":
			case target == "none.x.":
				want = missing("x.", row...)
			case target == "q.s.x.":
				want.Authority = []record{ns("s.x.", "far.")}
			default:
				want = empty("x.", row...)
			}
			looks(t, z, "a.x.", api.A, want)
		}
	}
}

// P19.1, P4: any zone answers as the chapter's words do; each record of an answer is the zone's, with no higher TTL.
func TestLookupBesideWords(t *testing.T) {
	draw := rand.New(rand.NewSource(193))
	kinds := map[string]int{}
	for range 1500 {
		origin, l := anyZone(draw)
		z := built(t, origin, l...)
		for range 60 {
			q := anyQuestion(draw, origin)
			r, want := z.Lookup(q), words(origin, l, q)
			if !alike(r, want) {
				t.Fatalf("%+v: %+v: %+v; not %+v", l, q, r, want)
			}
			kinds[kindOf(r)]++
			for _, one := range slices.Concat(r.Answers, r.Authority, r.Extra) {
				if !slices.ContainsFunc(l, func(of record) bool { return of.Type == one.Type && of.Data == one.Data && of.TTL >= one.TTL }) {
					t.Fatal(one, "is none of", l)
				}
			}
		}
	}
	for _, kind := range []string{"refused", "referred", "answered", "lacking", "no name", "no name behind aliases", "referred behind aliases", "lacking behind aliases"} {
		if kinds[kind] < 50 {
			t.Error(kind, kinds[kind])
		}
	}
}

// kindOf is what kind of reply one is.
func kindOf(r zone.Reply) string {
	kind := "answered"
	switch {
	case r.Code == msg.Refused:
		kind = "refused"
	case r.Code == msg.NoName:
		kind = "no name"
	case len(r.Authority) > 0 && r.Authority[0].Type == api.SOA:
		kind = "lacking"
	case len(r.Authority) > 0:
		kind = "referred"
	}
	if len(r.Answers) > 0 && r.Answers[0].Type == api.CNAME {
		kind += " behind aliases"
	}
	return kind
}

// P19.3: a record that has nothing to do with a question changes nothing of its answer.
func TestOtherRecords(t *testing.T) {
	draw := rand.New(rand.NewSource(194))
	for range 500 {
		origin, l := anyZone(draw)
		z := built(t, origin, l...)
		// Parts that no question and no target has.
		far := []record{a(below("far.", origin), "1111"), ns(below("q.far.", origin), below("far.", origin)), txt(below("*.far.", origin), "t"), cname(below("c.far.", origin), origin), other(below("p.far.", origin), "")}
		y := built(t, origin, append(l, far...)...)
		for range 30 {
			q := anyQuestion(draw, origin)
			if r, s := z.Lookup(q), y.Lookup(q); !alike(r, s) {
				t.Fatal(l, q, r, s)
			}
		}
	}
	// Another type's records at the name that is asked.
	l := with("x.", a("a.x.", "1111"), a("*.x.", "2222"), ns("s.x.", "g.s.x."), a("g.s.x.", "3333"))
	z := built(t, "x.", l...)
	y := built(t, "x.", append(l, txt("a.x.", "t"), txt("*.x.", "t"), txt("s.x.", "t"), txt("g.s.x.", "t"), a("h.s.x.", "4444"))...)
	for _, s := range []string{"a.x.", "q.x.", "s.x.", "q.s.x."} {
		q := api.Question{Name: s, Type: api.A}
		if r, again := z.Lookup(q), y.Lookup(q); !reflect.DeepEqual(r, again) {
			t.Error(q, r, again)
		}
	}
}

// parts are a name's, the lowest first.
func parts(s string) []string {
	if s == "." {
		return nil
	}
	return strings.Split(strings.TrimSuffix(s, "."), ".")
}

// ends tells whether a name is another one, or below it.
func ends(s, above string) bool {
	p, q := parts(s), parts(above)
	return len(p) >= len(q) && slices.Equal(p[len(p)-len(q):], q)
}

// words answers a question as the chapter's words do, by going through all records for each of them.
func words(origin string, l []record, q api.Question) zone.Reply {
	sorted := msg.Sort(l)
	n := q.Name
	of := func(s string, kind int) (some []record) {
		for _, r := range sorted {
			if r.Name == s && (r.Type == kind || kind == 0) {
				some = append(some, r)
			}
		}
		return some
	}
	there := func(s string) bool {
		return slices.ContainsFunc(sorted, func(r record) bool { return ends(r.Name, s) })
	}
	lowest := of(origin, api.SOA)[0]
	data := lowest.Data[len(lowest.Data)-4:]
	lowest.TTL = min(lowest.TTL, int(data[0])<<24|int(data[1])<<16|int(data[2])<<8|int(data[3]))
	if !ends(n, origin) {
		return zone.Reply{Code: 5}
	}
	reply := zone.Reply{}
	for {
		p := parts(n)
		depth := len(p) - len(parts(origin))
		for up := depth - 1; up >= 0; up-- {
			at := strings.Join(p[up:], ".") + "."
			if servers := of(at, api.NS); len(servers) > 0 {
				reply.Authority = servers
				for _, r := range sorted {
					if (r.Type == 1 || r.Type == 28) && slices.ContainsFunc(servers, func(s record) bool { return s.Data == wire(r.Name) }) {
						reply.Extra = append(reply.Extra, r)
					}
				}
				reply.Own = len(reply.Answers) > 0
				return reply
			}
		}
		reply.Own = true
		here := of(n, 0)
		if !there(n) {
			up := 1
			for ; !there(strings.Join(p[up:], ".") + "."); up++ {
			}
			star := of(strings.Join(append([]string{"*"}, p[up:]...), ".")+".", 0)
			if len(star) == 0 {
				reply.Code, reply.Authority = 3, []record{lowest}
				return reply
			}
			here = star
			for i := range here {
				here[i].Name = n
			}
		}
		if len(here) > 0 && here[0].Type == api.CNAME && q.Type != api.CNAME {
			reply.Answers = append(reply.Answers, here[0])
			n, _ = msg.Target(here[0])
			if !ends(n, origin) || len(reply.Answers) == 8 {
				return reply
			}
			continue
		}
		some := false
		for _, r := range here {
			if r.Type == q.Type {
				reply.Answers = append(reply.Answers, r)
				some = true
			}
		}
		if !some {
			reply.Authority = []record{lowest}
		}
		return reply
	}
}

// anyParts draws few parts.
func anyParts(draw *rand.Rand) string {
	s := ""
	for range 1 + draw.Intn(3) {
		s += []string{"a.", "b.", "s.", "*."}[draw.Intn(4)]
	}
	return s
}

// anyTarget draws a name, mostly of the zone.
func anyTarget(draw *rand.Rand, origin string) string {
	if draw.Intn(10) == 0 {
		return []string{"y.", ".", origin}[draw.Intn(3)]
	}
	return below(anyParts(draw), origin)
}

// anyZone draws an origin, and records of a zone of it.
func anyZone(draw *rand.Rand) (string, []record) {
	origin := []string{"x.", "o.x.", ".", "a.b."}[draw.Intn(4)]
	l := with(origin)
	for range draw.Intn(14) {
		s, data := below(anyParts(draw), origin), number(draw.Intn(4))
		if draw.Intn(8) == 0 {
			s = origin
		}
		target := anyTarget(draw, origin)
		r := []record{a(s, data), aaaa(s, data), txt(s, data), other(s, data), mx(s, target), ns(s, target), cname(s, target), cname(s, target)}[draw.Intn(8)]
		if _, e := zone.Build(origin, append(l, r)); e == api.OK {
			l = append(l, r)
		}
	}
	return origin, l
}

// anyQuestion draws a question, mostly of the zone.
func anyQuestion(draw *rand.Rand, origin string) api.Question {
	kinds := []int{api.A, api.A, api.AAAA, api.NS, api.SOA, api.CNAME, api.MX, api.TXT, 99, 98}
	return api.Question{Name: anyTarget(draw, origin), Type: kinds[draw.Intn(len(kinds))]}
}

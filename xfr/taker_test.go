package xfr_test

import (
	"math/rand"
	"slices"
	"testing"
	"unsafe"

	"rhyne/api"
	"rhyne/serial"
	"rhyne/xfr"
	"rhyne/zone"
)

// taker is a new one.
func taker(t testing.TB, have *zone.Zone, origin string) *xfr.Taker {
	t.Helper()
	k, e := xfr.New(have, origin)
	if e != api.OK || k == nil {
		t.Fatal(origin, e)
	}
	return k
}

// takes tells whether Take answers as it should.
func takes(t *testing.T, k *xfr.Taker, l []record, done bool, want api.Errno) {
	t.Helper()
	if got, e := k.Take(l); got != done || e != want {
		t.Errorf("Take of %d records: %v, %d; not %v, %d", len(l), got, e, done, want)
	}
}

// ends tells whether End answers as it should.
func ends(t *testing.T, k *xfr.Taker, z *zone.Zone, want api.Errno) {
	t.Helper()
	if got, e := k.End(); e != want || (got == nil) != (z == nil) || !zone.Same(got, z) {
		t.Errorf("End: %+v, %d; not %+v, %d", got.Records(), e, z.Records(), want)
	}
}

// isOver tells whether a taker gave up, for good.
func isOver(t *testing.T, k *xfr.Taker) {
	t.Helper()
	for range 2 {
		takes(t, k, nil, false, api.ErrState)
		takes(t, k, []record{soa("x.", 1), ns("x."), soa("x.", 1)}, false, api.ErrState)
		ends(t, k, nil, api.ErrState)
	}
}

// isThrough tells whether a taker has a zone, for good.
func isThrough(t *testing.T, k *xfr.Taker, z *zone.Zone) {
	t.Helper()
	for range 2 {
		ends(t, k, z, api.OK)
		takes(t, k, nil, false, api.ErrState)
		takes(t, k, []record{soa("x.", 99), {}}, false, api.ErrState)
	}
}

// P21.1: whose zone may be had.
func TestNew(t *testing.T) {
	z := x(t, 1)
	for _, s := range []string{"", "x", "X.", "..", ".x.", "x..", "?.", "\x00."} {
		for _, have := range []*zone.Zone{nil, z, {}} {
			if k, e := xfr.New(have, s); k != nil || e != api.ErrName {
				t.Error(s, k, e)
			}
		}
	}
	for _, c := range []struct {
		have   *zone.Zone
		origin string
	}{{z, "y."}, {z, "."}, {z, "a.x."}, {of(t, ".", 1), "x."}, {&zone.Zone{}, "x."}, {&zone.Zone{}, "."}} {
		if k, e := xfr.New(c.have, c.origin); k != nil || e != api.ErrArg {
			t.Error(c.origin, k, e)
		}
	}
	taker(t, nil, "x.")
	taker(t, nil, ".")
	taker(t, z, "x.")
	taker(t, of(t, ".", 1), ".")
}

// P1, P21.1: no taker, and one that New didn't make.
func TestNoTaker(t *testing.T) {
	for _, k := range []*xfr.Taker{nil, {}} {
		for range 2 {
			takes(t, k, nil, false, api.ErrArg)
			takes(t, k, xfr.Full(x(t, 1)), false, api.ErrArg)
			ends(t, k, nil, api.ErrArg)
		}
	}
}

// P21.1: a whole zone, whatever one had.
func TestTakesWhole(t *testing.T) {
	z := x(t, 5, one, two, three)
	for _, have := range []*zone.Zone{nil, x(t, 4), x(t, 5, one), z, x(t, 6, two)} {
		k := taker(t, have, "x.")
		takes(t, k, nil, false, api.OK)
		takes(t, k, []record{soa("x.", 5)}, false, api.OK)
		takes(t, k, []record{three, two}, false, api.OK)
		takes(t, k, nil, false, api.OK)
		takes(t, k, []record{ns("x."), one, two}, false, api.OK)
		takes(t, k, []record{soa("x.", 5)}, true, api.OK)
		isThrough(t, k, z)
	}
	root := of(t, ".", 1, a("a.", "1111"))
	k := taker(t, nil, ".")
	takes(t, k, xfr.Full(root), true, api.OK)
	isThrough(t, k, root)
}

// P21.1, P21.3: what is no whole zone. The last record of each list is the first one that isn't right.
func TestWholeRefuses(t *testing.T) {
	first, end := soa("x.", 5), ns("x.")
	longer, below := soa("x.", 5), soa("a.x.", 5)
	longer.TTL++
	bad := soa("x.", 5)
	bad.Data = bad.Data[1:]
	for _, l := range [][]record{
		{{}}, {one}, {ns("x.")}, {below}, {soa("y.", 5)}, {soa(".", 5)}, {{Name: "X.", Type: api.SOA}}, {{Type: api.SOA}}, {{Name: "x.", Type: -6}},
		{first, end, soa("x.", 4)}, {first, end, soa("x.", 6)}, {first, end, longer}, {first, end, below}, {first, one, end, {Type: api.SOA}}, {first, end, bad},
		{first, one, first}, {first, end, {}, first}, {first, end, a("y.", "1111"), first}, {first, end, a("b.x.", "111"), first}, {first, end, {Name: "x.", Type: -6}, first},
		{first, end, {Name: "x.", Type: api.CNAME, Data: "\x00"}, first}, {first, end, one, {Name: "b.x.", Type: api.A, TTL: 6, Data: "2222"}, first},
		{bad, end, bad}, {{Name: "x.", Type: api.SOA}, end, {Name: "x.", Type: api.SOA}},
		slices.Concat([]record{first, end}, many(299), []record{first}), slices.Concat([]record{first, end}, many(298), []record{one, first}),
		slices.Concat([]record{first, end}, slices.Repeat([]record{one}, 299), []record{first}),
	} {
		for _, have := range []*zone.Zone{nil, x(t, 4)} {
			k := taker(t, have, "x.")
			takes(t, k, l, false, api.ErrForm)
			isOver(t, k)
			k = taker(t, have, "x.")
			for _, r := range l[:len(l)-1] {
				takes(t, k, []record{r}, false, api.OK)
			}
			takes(t, k, l[len(l)-1:], false, api.ErrForm)
			isOver(t, k)
		}
	}
	// A record that comes twice counts once in the zone, and twice on its way there.
	k := taker(t, nil, "x.")
	takes(t, k, slices.Concat([]record{first, end}, slices.Repeat([]record{one}, 298), []record{first}), true, api.OK)
	isThrough(t, k, x(t, 5, one))
}

// P21.1: steps, each from the zone of the one ahead.
func TestTakesSteps(t *testing.T) {
	have := x(t, 5, one)
	for _, c := range []struct {
		l    []record
		want *zone.Zone
	}{
		{[]record{soa("x.", 6), soa("x.", 5), soa("x.", 6), soa("x.", 6)}, x(t, 6, one)},
		{[]record{soa("x.", 6), soa("x.", 5), one, soa("x.", 6), two, three, soa("x.", 6)}, x(t, 6, two, three)},
		{[]record{soa("x.", 7), soa("x.", 5), one, soa("x.", 6), two, soa("x.", 6), two, soa("x.", 7), one, soa("x.", 7)}, x(t, 7, one)},
		// The goal is reached when a step begins with it, be the way to it as it may.
		{[]record{soa("x.", 5), soa("x.", 5)}, have},
		{[]record{soa("x.", 5), soa("x.", 5)}, x(t, 5, one)},
		{[]record{soa("x.", 4), soa("x.", 5), soa("x.", 4), soa("x.", 4)}, x(t, 4, one)},
		{[]record{soa("x.", 7), soa("x.", 5), soa("x.", 9), soa("x.", 9), one, soa("x.", 7), soa("x.", 7)}, x(t, 7)},
		{[]record{soa("x.", 6), soa("x.", 5), one, one, soa("x.", 6), one, two, two, soa("x.", 6)}, x(t, 6, one, two)},
		{[]record{soa("x.", 6), soa("x.", 5), ns("x."), soa("x.", 6), ns("x."), soa("x.", 6)}, x(t, 6, one)},
	} {
		k := taker(t, have, "x.")
		takes(t, k, c.l, true, api.OK)
		isThrough(t, k, c.want)
		k = taker(t, have, "x.")
		for i, r := range c.l {
			takes(t, k, []record{r}, i == len(c.l)-1, api.OK)
		}
		isThrough(t, k, c.want)
	}
}

// P21.1, P21.3: what are no steps. The last record of each list is the first one that isn't right.
func TestStepsRefuse(t *testing.T) {
	have := x(t, 5, one)
	longer, below := soa("x.", 5), soa("a.x.", 5)
	longer.TTL++
	shorter := one
	shorter.TTL--
	goal, from := soa("x.", 6), soa("x.", 5)
	for _, l := range [][]record{
		// Not the SOA of the zone up to then, just so.
		{goal, goal}, {goal, soa("x.", 4)}, {goal, longer}, {goal, below}, {goal, {Type: api.SOA}}, {longer, longer},
		{goal, from, goal, from}, {goal, from, goal, soa("x.", 7)}, {goal, from, soa("x.", 7), goal}, {soa("x.", 7), from, goal, soa("x.", 7)},
		// What Apply refuses.
		{goal, from, two, goal, goal}, {goal, from, shorter, goal, goal}, {goal, from, {}, goal, goal}, {goal, from, goal, {}, goal}, {goal, from, goal, a("y.", "1111"), goal},
		{goal, from, goal, shorter, goal}, {goal, from, ns("x."), goal, goal}, {goal, from, below, goal}, {goal, from, {Name: "x.", Type: api.SOA}, goal},
		slices.Concat([]record{goal, from, goal}, many(298), []record{goal}),
		// In a later step.
		{soa("x.", 7), from, one, goal, two, goal, one, soa("x.", 7), soa("x.", 7)},
		{soa("x.", 7), from, one, goal, two, from},
	} {
		k := taker(t, have, "x.")
		takes(t, k, l, false, api.ErrForm)
		isOver(t, k)
		k = taker(t, have, "x.")
		for _, r := range l[:len(l)-1] {
			takes(t, k, []record{r}, false, api.OK)
		}
		takes(t, k, l[len(l)-1:], false, api.ErrForm)
		isOver(t, k)
	}
	if !zone.Same(have, x(t, 5, one)) {
		t.Error("the zone that one had is another one")
	}
	// Whoever has no zone can take no step.
	for _, second := range []record{goal, from, below, {Type: api.SOA}} {
		k := taker(t, nil, "x.")
		takes(t, k, []record{goal}, false, api.OK)
		takes(t, k, []record{second}, false, api.ErrForm)
		isOver(t, k)
	}
}

// P21.1: a step's second SOA isn't an end, though it be the goal: records may come behind it, and more must.
func TestSecondIsNoEnd(t *testing.T) {
	l := []record{soa("x.", 6), soa("x.", 5), soa("x.", 6)}
	k := taker(t, x(t, 5, one), "x.")
	takes(t, k, l, false, api.OK)
	ends(t, k, nil, api.ErrForm)
	isOver(t, k)
	k = taker(t, x(t, 5, one), "x.")
	takes(t, k, l, false, api.OK)
	takes(t, k, []record{two}, false, api.OK)
	takes(t, k, l[:1], true, api.OK)
	isThrough(t, k, x(t, 6, one, two))
}

// P21.1: records behind the end, in one Take and in the next one.
func TestBehindTheEnd(t *testing.T) {
	have, z := x(t, 5, one), x(t, 6, two)
	for _, l := range [][]record{xfr.Full(z), xfr.Since(history(t, 5, have, z), 5)} {
		for _, more := range []record{soa("x.", 6), soa("x.", 5), ns("x."), one, {}} {
			for from := range l {
				k := taker(t, have, "x.")
				takes(t, k, l[:from], false, api.OK)
				takes(t, k, slices.Concat(l[from:], []record{more}), false, api.ErrForm)
				isOver(t, k)
			}
			k := taker(t, have, "x.")
			takes(t, k, l, true, api.OK)
			takes(t, k, []record{more}, false, api.ErrState)
			isThrough(t, k, z)
		}
	}
}

// P21.1: the goal alone: one has what there is.
func TestGoalAlone(t *testing.T) {
	have := x(t, 5, one)
	longer := soa("x.", 5)
	longer.TTL++
	for _, goal := range []record{soa("x.", 5), longer, soa("x.", 4), soa("x.", 0), soa("x.", 5+1<<31), soa("x.", 6+1<<31)} {
		k := taker(t, have, "x.")
		takes(t, k, []record{goal}, false, api.OK)
		for range 2 {
			ends(t, k, have, api.OK)
		}
	}
	bad := soa("x.", 5)
	bad.Data = bad.Data[1:]
	negative := soa("x.", 5)
	negative.TTL = -1
	for _, goal := range []record{soa("x.", 6), soa("x.", 4+1<<31), bad, negative, {Name: "x.", Type: api.SOA}} {
		k := taker(t, have, "x.")
		takes(t, k, []record{goal}, false, api.OK)
		ends(t, k, nil, api.ErrForm)
		isOver(t, k)
	}
	k := taker(t, nil, "x.")
	takes(t, k, []record{soa("x.", 5)}, false, api.OK)
	ends(t, k, nil, api.ErrForm)
	isOver(t, k)
	// Nothing at all tells nothing of what there is.
	for _, z := range []*zone.Zone{nil, have} {
		k = taker(t, z, "x.")
		takes(t, k, nil, false, api.OK)
		ends(t, k, nil, api.ErrForm)
		isOver(t, k)
	}
	// A zone as great as may be is one with another SOA, too.
	great := x(t, 5, many(298)...)
	k = taker(t, great, "x.")
	takes(t, k, []record{longer}, false, api.OK)
	ends(t, k, great, api.OK)
}

// P21.1: 2000 records, and one more.
func TestMostRecords(t *testing.T) {
	// Whole: no zone has so many, but as many may come ahead of the goal.
	l := append([]record{soa("x.", 5)}, slices.Repeat([]record{one}, 2000)...)
	for _, size := range []int{1, 3, 1999, 2000} {
		k := taker(t, nil, "x.")
		parts, _ := xfr.Split(l[:2000], size)
		for _, p := range parts {
			takes(t, k, p, false, api.OK)
		}
		takes(t, k, nil, false, api.OK)
		takes(t, k, l[2000:], false, api.ErrForm)
		isOver(t, k)
	}
	k := taker(t, nil, "x.")
	takes(t, k, l, false, api.ErrForm)
	isOver(t, k)
	// Steps: to and fro between two versions, and to a third one.
	l = []record{soa("x.", 9)}
	for i := range 999 {
		l = append(l, soa("x.", 5+i%2), soa("x.", 6-i%2))
	}
	l[len(l)-1] = soa("x.", 9)
	for _, came := range [][]record{nil, {one}, {one, two}} {
		k := taker(t, x(t, 5, one), "x.")
		all := slices.Concat(l, came, l[:1])
		if len(all) > 2000 {
			takes(t, k, all, false, api.ErrForm)
			isOver(t, k)
			continue
		}
		takes(t, k, all, true, api.OK)
		isThrough(t, k, x(t, 9, one))
	}
}

// stand is how far a zone was handed over.
type stand int

const (
	waits stand = iota
	done
	wrong
)

// nextSOA is the place of the first SOA of records from a place on; -1: none.
func nextSOA(l []record, from int) int {
	if from < 0 {
		return -1
	}
	for i, r := range l[from:] {
		if r.Type == api.SOA {
			return from + i
		}
	}
	return -1
}

// verdict is what the chapter's words say of all records that came together.
func verdict(have *zone.Zone, origin string, l []record) (stand, *zone.Zone) {
	last, z, how := 0, (*zone.Zone)(nil), wrong
	switch {
	case len(l) == 0:
		return waits, nil
	case l[0].Type != api.SOA || l[0].Name != origin:
		return wrong, nil
	case len(l) == 1:
		return waits, nil
	case l[1].Type != api.SOA:
		last, z, how = byWhole(origin, l)
	case have != nil:
		last, z, how = bySteps(have, l)
	}
	if how == done && last != len(l)-1 || len(l) > 2000 {
		return wrong, nil
	}
	return how, z
}

// byWhole is the place of the end, and the zone of all records up to it.
func byWhole(origin string, l []record) (int, *zone.Zone, stand) {
	last := nextSOA(l, 1)
	if last < 0 {
		return 0, nil, waits
	}
	if l[last] != l[0] {
		return 0, nil, wrong
	}
	z, e := zone.Build(origin, l[:last])
	if e != api.OK {
		return 0, nil, wrong
	}
	return last, z, done
}

// bySteps is the place of the end, and the zone that steps make.
func bySteps(z *zone.Zone, l []record) (int, *zone.Zone, stand) {
	for at := 1; ; {
		if !slices.Contains(z.Records(), l[at]) {
			return 0, nil, wrong
		}
		if l[at] == l[0] {
			return at, z, done
		}
		to := nextSOA(l, at+1)
		next := nextSOA(l, to+1)
		if to < 0 || next < 0 {
			return 0, nil, waits
		}
		made, e := serial.Apply(z, serial.Step{From: l[at], Gone: l[at+1 : to], To: l[to], Came: l[to+1 : next]})
		if e != api.OK {
			return 0, nil, wrong
		}
		z, at = made, next
	}
}

// hasIt tells whether the goal alone says that one has the zone.
func hasIt(have *zone.Zone, l []record) bool {
	if have == nil || len(l) != 1 {
		return false
	}
	others := slices.DeleteFunc(have.Records(), func(r record) bool { return r.Type == api.SOA })
	z, e := zone.Build(have.Origin(), append(others, l[0]))
	return e == api.OK && !serial.Less(have.Serial(), z.Serial())
}

// beside hands records in pieces to a taker, and tells whether it answers as the words say; the answer: whether there was a zone.
func beside(t *testing.T, draw *rand.Rand, have *zone.Zone, l []record) bool {
	t.Helper()
	k := taker(t, have, "x.")
	how, z := waits, (*zone.Zone)(nil)
	for at := 0; at < len(l); {
		n := min(len(l)-at, draw.Intn(5))
		ahead := how
		if ahead == waits {
			how, z = verdict(have, "x.", l[:at+n])
		}
		switch {
		case ahead != waits:
			takes(t, k, l[at:at+n], false, api.ErrState)
		case how == wrong:
			takes(t, k, l[at:at+n], false, api.ErrForm)
		default:
			takes(t, k, l[at:at+n], how == done, api.OK)
		}
		at += n
	}
	switch {
	case how == done:
		isThrough(t, k, z)
	case how == wrong:
		isOver(t, k)
	case hasIt(have, l):
		ends(t, k, have, api.OK)
	default:
		ends(t, k, nil, api.ErrForm)
		isOver(t, k)
	}
	return how == done
}

// spoilt is a list of records that is changed a little.
func spoilt(draw *rand.Rand, l, other []record) []record {
	l = slices.Clone(l)
	for range draw.Intn(3) {
		if len(l) == 0 {
			break
		}
		i, j := draw.Intn(len(l)), draw.Intn(len(l))
		switch draw.Intn(8) {
		case 0:
			l = slices.Delete(l, i, i+1)
		case 1:
			l = slices.Insert(l, i, l[j])
		case 2:
			l[i], l[j] = l[j], l[i]
		case 3:
			l[i].TTL += 1 - 2*draw.Intn(2)
		case 4:
			l[i].Name = []string{"a.x.", "x.", "y.", "?"}[draw.Intn(4)]
		case 5:
			l = l[:i]
		case 6:
			l = slices.Insert(l, i, other[draw.Intn(len(other))])
		case 7:
			l[i].Data = l[j].Data
		}
	}
	return l
}

// P21.1, P21.3: whatever records come, in whatever parts, the taker answers as the chapter's words, gone through plainly, say.
func TestBesideWords(t *testing.T) {
	draw := rand.New(rand.NewSource(214))
	through := 0
	const rounds = 20000
	for range rounds {
		versions := anyVersions(t, draw, 1+draw.Intn(4))
		h := history(t, draw.Intn(5), versions...)
		have := versions[draw.Intn(len(versions))]
		l := xfr.Since(h, have.Serial())
		if draw.Intn(3) == 0 {
			l = xfr.Full(h.Last())
		}
		other := slices.Concat(xfr.Since(h, versions[0].Serial()), []record{{}, soa("a.x.", 1), soa("y.", 1), soa("x.", draw.Intn(1<<32))})
		if draw.Intn(5) == 0 {
			have = nil
		}
		if beside(t, draw, have, spoilt(draw, l, other)) {
			through++
		}
		if t.Failed() {
			t.Fatalf("%+v: %+v", have.Records(), l)
		}
	}
	if through < rounds/10 || through > rounds*9/10 {
		t.Error("too few of one kind:", through)
	}
}

// P21.3: what is cut off leaves no zone, wherever it is.
func TestCutOff(t *testing.T) {
	versions := []*zone.Zone{x(t, 5, one), x(t, 6, one, two), x(t, 7, three)}
	h := history(t, 5, versions...)
	for _, have := range append([]*zone.Zone{nil}, versions[:2]...) {
		for _, l := range [][]record{xfr.Full(versions[2]), xfr.Since(h, have.Serial())} {
			for n := range l {
				k := taker(t, have, "x.")
				takes(t, k, l[:n], false, api.OK)
				ends(t, k, nil, api.ErrForm)
				isOver(t, k)
			}
		}
	}
}

// P21.4: what is taken isn't changed, nor its spare room, and not kept; a zone that was had stays.
func TestTakeMemory(t *testing.T) {
	have, z := x(t, 5, one, two), x(t, 6, two, three)
	for _, l := range [][]record{xfr.Full(z), xfr.Since(history(t, 5, have, z), 5)} {
		want := append(slices.Clone(l), record{Name: "spare."})
		for size := range len(l) {
			k := taker(t, have, "x.")
			room := slices.Clone(want)
			for at := 0; at < len(l); at += size + 1 {
				end := min(len(l), at+size+1)
				takes(t, k, room[at:end], end == len(l), api.OK)
				if !slices.Equal(room[at:], want[at:]) {
					t.Fatal("Take changed what it took")
				}
				clear(room[:end])
			}
			isThrough(t, k, z)
		}
	}
	if !zone.Same(have, x(t, 5, one, two)) {
		t.Error("a zone was changed")
	}
}

// loose is a text in bytes that may still change.
func loose(s string) (string, []byte) {
	b := []byte(s)
	return unsafe.String(unsafe.SliceData(b), len(b)), b
}

// P21.4: texts aren't kept, nor shared.
func TestTextMemory(t *testing.T) {
	have, z := x(t, 5, one, two), x(t, 6, two, three)
	for _, l := range [][]record{xfr.Full(z), xfr.Since(history(t, 5, have, z), 5)} {
		origin, b := loose("x.")
		k := taker(t, have, origin)
		clear(b)
		for i, r := range l {
			name, ofName := loose(r.Name)
			data, ofData := loose(r.Data)
			r.Name, r.Data = name, data
			parts, _ := xfr.Split([]record{r}, 1)
			takes(t, k, []record{r}, i == len(l)-1, api.OK)
			clear(ofName)
			clear(ofData)
			tells(t, parts[0], l[i])
		}
		isThrough(t, k, z)
	}
}

// P1, P21.1: records of any kind, none of which is right.
func TestWildRecords(t *testing.T) {
	draw := rand.New(rand.NewSource(215))
	names := []string{"x.", "a.x.", ".", "", "?", "X.", "x"}
	kinds := []int{api.SOA, api.SOA, api.NS, api.A, 0, -1, 1 << 40}
	for range 20000 {
		var l []record
		for range draw.Intn(6) {
			l = append(l, record{Name: names[draw.Intn(len(names))], Type: kinds[draw.Intn(len(kinds))], TTL: draw.Intn(3) - 1, Data: []string{"", "\x00", "1111", soa("x.", 5).Data}[draw.Intn(4)]})
		}
		if draw.Intn(2) == 0 {
			l = slices.Insert(l, 0, soa("x.", 6), soa("x.", 5))
		}
		beside(t, draw, []*zone.Zone{nil, x(t, 5, one)}[draw.Intn(2)], l)
		if t.Failed() {
			t.Fatalf("%+v", l)
		}
	}
}

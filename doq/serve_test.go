package doq_test

import (
	"bytes"
	"math"
	"math/rand"
	"slices"
	"strings"
	"testing"

	"rhyne/api"
	"rhyne/doq"
	"rhyne/msg"
	"rhyne/serial"
	"rhyne/xfr"
	"rhyne/zone"
)

// on are messages as they stand on a stream.
func on(t testing.TB, l []message) []byte {
	t.Helper()
	var out []byte
	for _, m := range l {
		out = append(out, frame(string(put(t, m)))...)
	}
	return out
}

// serves tells whether Serve answers just those messages.
func serves(t *testing.T, h *serial.History, asked message, most int, want ...message) {
	t.Helper()
	got, code := doq.Serve(h, string(put(t, asked)), most)
	if code != doq.NoError || !bytes.Equal(got, on(t, want)) {
		t.Errorf("Serve of %+v in parts of %d: %.200x, %d; not %+v", asked, most, got, code, want)
	}
}

// ask is a message that asks one question.
func ask(s string, kind int, authority ...record) message {
	return message{Ask: []question{{Name: s, Type: kind}}, Authority: authority}
}

// told is an answer to such a message, with a code and nothing else.
func told(asked message, code int) message {
	return message{Answer: true, Kind: asked.Kind, Wanted: asked.Wanted, Code: code, Ask: asked.Ask}
}

// own is such an answer that has records.
func own(asked message, answers ...record) message {
	m := told(asked, msg.Fine)
	m.Own, m.Answers = true, answers
	return m
}

// owns are such answers, one of each list.
func owns(asked message, parts ...[]record) []message {
	var l []message
	for _, p := range parts {
		l = append(l, own(asked, p...))
	}
	return l
}

// P23.1: what isn't a question is answered by a code.
func TestServeOfNone(t *testing.T) {
	h := history(t, 3, x(t, 5, one))
	asked := ask("b.x.", api.A, soa("x.", 5))
	b := put(t, asked)
	wrong := [][]byte{nil, []byte("junk"), append(bytes.Clone(b), 0), append(bytes.Clone(b), make([]byte, 65535)...), {0, 0, 0, 0, 0, 1, 1, 0x2c, 0, 0, 0, 0}}
	for n := range b {
		wrong = append(wrong, b[:n])
	}
	for _, id := range []int{1, 255, 256, 65535} {
		m := asked
		m.Id = id
		wrong = append(wrong, put(t, m))
		m.Kind = 4
		wrong = append(wrong, put(t, m))
	}
	for _, m := range []message{{Answer: true}, told(asked, msg.Fine), {Answer: true, Kind: 4}, {Id: 1}, {Id: 1, Answer: true}} {
		wrong = append(wrong, put(t, m))
	}
	for _, h := range []*serial.History{nil, {}, h} {
		for _, b := range wrong {
			if got, code := doq.Serve(h, string(b), 1); got != nil || code != doq.Protocol {
				t.Errorf("%.50x: %.50x, %d", b, got, code)
			}
		}
	}
}

// P23.1: what is refused, and which fault is told of several.
func TestServeRefuses(t *testing.T) {
	h := history(t, 3, x(t, 5, one), x(t, 6, one, two))
	of5 := soa("x.", 5)
	q, other := question{Name: "b.x.", Type: api.A}, question{Name: "x.", Type: doq.Whole}
	for _, h := range []*serial.History{nil, h} {
		for kind := 1; kind < 16; kind++ {
			for _, l := range [][]question{{q}, {other}, {{Name: "y.", Type: doq.Changes}}} {
				asked := message{Kind: kind, Ask: l}
				serves(t, h, asked, 9, message{Answer: true, Kind: kind, Code: msg.NotDone, Ask: l})
			}
			for _, l := range [][]question{nil, {q, q}, {q, other}} {
				serves(t, h, message{Kind: kind, Ask: l}, 9, message{Answer: true, Kind: kind, Code: msg.NotDone})
			}
		}
		for _, l := range [][]question{nil, {q, q}, {q, other}, {other, q}, slices.Repeat([]question{other}, 300)} {
			serves(t, h, message{Ask: l}, 9, message{Answer: true, Code: msg.BadForm})
		}
	}
	for _, asked := range []message{ask("b.x.", api.A), ask("y.", api.A), ask("x.", doq.Whole), ask("y.", doq.Whole), ask("x.", doq.Changes), ask("x.", doq.Changes, of5)} {
		serves(t, nil, asked, 9, told(asked, msg.Failed))
		serves(t, &serial.History{}, asked, 9, told(asked, msg.Failed))
	}
	for _, s := range []string{"y.", ".", "a.x.", "b.x.", "*.x.", "x.x.", "ax."} {
		for _, asked := range []message{ask(s, doq.Whole), ask(s, doq.Changes), ask(s, doq.Changes, of5), ask(s, doq.Changes, soa(s, 5)), ask(s, doq.Changes, of5, of5)} {
			serves(t, h, asked, 9, told(asked, msg.Refused))
		}
	}
	lone := record{Name: "x.", Type: api.NS, TTL: 5, Data: "\x00"}
	for _, l := range [][]record{nil, {of5, of5}, {of5, soa("x.", 6)}, {of5, lone}, {lone, of5}, {lone}, {soa("y.", 5)}, {soa("a.x.", 5)}, {soa(".", 5)}, {{Name: "x.", Type: 7, Data: of5.Data}}} {
		asked := ask("x.", doq.Changes, l...)
		serves(t, h, asked, 9, told(asked, msg.BadForm))
		// Who doesn't know what the other one has can't be told by another list.
		asked.Answers, asked.Extra = []record{of5}, []record{of5}
		serves(t, h, asked, 9, told(asked, msg.BadForm))
	}
}

// P23.1: what each answer takes over of the question's message, and what it doesn't.
func TestServeTakesOver(t *testing.T) {
	h := history(t, 3, x(t, 5, one))
	for bits := range 16 {
		asked := ask("b.x.", api.A)
		asked.Wanted, asked.Own, asked.Cut, asked.Able = bits&1 != 0, bits&2 != 0, bits&4 != 0, bits&8 != 0
		asked.Code = bits
		asked.Answers, asked.Authority, asked.Extra = []record{two}, []record{soa("x.", 4), three}, []record{ns("y.")}
		want := message{Answer: true, Own: true, Wanted: asked.Wanted, Ask: asked.Ask, Answers: []record{one}}
		serves(t, h, asked, 1, want)
		asked.Ask = []question{{Name: "x.", Type: doq.Whole}}
		serves(t, h, asked, 9, message{Answer: true, Own: true, Wanted: asked.Wanted, Ask: asked.Ask, Answers: []record{soa("x.", 5), ns("x."), one, soa("x.", 5)}})
		asked.Kind = bits | 1
		serves(t, h, asked, 1, message{Answer: true, Kind: bits | 1, Code: msg.NotDone, Wanted: asked.Wanted, Ask: asked.Ask})
		asked.Ask = nil
		serves(t, h, asked, 1, message{Answer: true, Kind: bits | 1, Code: msg.NotDone, Wanted: asked.Wanted})
	}
	// Great letters are small ones in the answer.
	b := bytes.Replace(put(t, ask("b.x.", api.A)), []byte("\x01b\x01x"), []byte("\x01B\x01X"), 1)
	if got, code := doq.Serve(h, string(b), 1); code != doq.NoError || !bytes.Equal(got, on(t, owns(ask("b.x.", api.A), []record{one}))) {
		t.Errorf("%x, %d", got, code)
	}
}

// P23.1, P4: what the last version says, of any other type.
func TestServeLookup(t *testing.T) {
	alias := record{Name: "c.x.", Type: api.CNAME, TTL: 7, Data: "\x01b\x01x\x00"}
	away := record{Name: "s.x.", Type: api.NS, TTL: 8, Data: "\x01n\x01s\x01x\x00"}
	glue := a("n.s.x.", "4444")
	h := history(t, 3, x(t, 5, three), x(t, 6, one, two, alias, away, glue, a("*.w.x.", "5555")))
	for _, c := range []struct {
		s                         string
		kind, code                int
		own                       bool
		answers, authority, extra []record
	}{
		{"b.x.", api.A, msg.Fine, true, []record{one, two}, nil, nil},
		{"c.x.", api.A, msg.Fine, true, []record{alias, one, two}, nil, nil},
		{"q.w.x.", api.A, msg.Fine, true, []record{a("q.w.x.", "5555")}, nil, nil},
		{"x.", api.SOA, msg.Fine, true, []record{soa("x.", 6)}, nil, nil},
		{"x.", 250, msg.Fine, true, nil, []record{lack("x.", 6)}, nil},
		{"x.", 253, msg.Fine, true, nil, []record{lack("x.", 6)}, nil},
		{"b.x.", api.TXT, msg.Fine, true, nil, []record{lack("x.", 6)}, nil},
		{"a.x.", api.A, msg.NoName, true, nil, []record{lack("x.", 6)}, nil},
		{"q.s.x.", api.A, msg.Fine, false, nil, []record{away}, []record{glue}},
		{"y.", api.A, msg.Refused, false, nil, nil, nil},
		{".", 65535, msg.Refused, false, nil, nil, nil},
	} {
		asked := ask(c.s, c.kind)
		want := message{Answer: true, Own: c.own, Code: c.code, Ask: asked.Ask, Answers: c.answers, Authority: c.authority, Extra: c.extra}
		for _, most := range []int{math.MinInt, -1, 0, 1, 9, math.MaxInt} {
			serves(t, h, asked, most, want)
		}
	}
}

// P23.1: the whole zone, in parts.
func TestServeWhole(t *testing.T) {
	h := history(t, 3, x(t, 5, one), x(t, 6, one, two, three))
	asked := ask("x.", doq.Whole)
	asked.Wanted = true
	first := soa("x.", 6)
	serves(t, h, asked, 9, own(asked, first, ns("x."), three, one, two, first))
	serves(t, h, asked, 6, own(asked, first, ns("x."), three, one, two, first))
	serves(t, h, asked, 5, own(asked, first, ns("x."), three, one, two), own(asked, first))
	serves(t, h, asked, 4, own(asked, first, ns("x."), three, one), own(asked, two, first))
	for _, most := range []int{1, 0, -1, math.MinInt} {
		serves(t, h, asked, most, own(asked, first), own(asked, ns("x.")), own(asked, three), own(asked, one), own(asked, two), own(asked, first))
	}
	// Whoever tells what it has gets all.
	asked.Authority = []record{first}
	serves(t, h, asked, math.MaxInt, own(asked, first, ns("x."), three, one, two, first))
	// An origin that is the root.
	root := of(t, ".", 1, a("a.", "1111"))
	asked = ask(".", doq.Whole)
	serves(t, history(t, 0, root), asked, 9, own(asked, soa(".", 1), ns("."), a("a.", "1111"), soa(".", 1)))
}

// P23.1: what has changed, in parts.
func TestServeChanges(t *testing.T) {
	h := history(t, 2, x(t, 4), x(t, 5, one), x(t, 6, one, two), x(t, 9, three))
	last := soa("x.", 9)
	from5 := []record{last, soa("x.", 5), soa("x.", 6), two, soa("x.", 6), one, two, last, three, last}
	from6 := []record{last, soa("x.", 6), one, two, last, three, last}
	whole := []record{last, ns("x."), three, last}
	for _, c := range []struct {
		n    int
		want []record
	}{
		{9, []record{last}}, {10, []record{last}}, {9 + 1<<31 - 1, []record{last}}, {9 + 1<<31, []record{last}},
		{6, from6}, {5, from5}, {4, whole}, {7, whole}, {8, whole}, {0, whole}, {1<<32 - 1, whole}, {10 + 1<<31, whole},
	} {
		asked := ask("x.", doq.Changes, soa("x.", c.n))
		for most := 1; most < 12; most++ {
			parts, _ := xfr.Split(c.want, most)
			serves(t, h, asked, most, owns(asked, parts...)...)
		}
		for _, most := range []int{0, -5, math.MinInt} {
			parts, _ := xfr.Split(c.want, 1)
			serves(t, h, asked, most, owns(asked, parts...)...)
		}
	}
	// The serial alone counts, whatever else the SOA says.
	other := soa("x.", 9)
	other.TTL, other.Data = 0, "\x01o\x00\x01p\x01o\x00"+number(9)+strings.Repeat("\x00", 16)
	asked := ask("x.", doq.Changes, other)
	serves(t, h, asked, 3, own(asked, last))
}

// of1000 are so many records of 1000 bytes of data each.
func of1000(s string, n int) []record {
	var l []record
	for i := range n {
		l = append(l, record{Name: s, Type: 99, Data: number(i) + strings.Repeat("d", 996)})
	}
	return l
}

// P23.1: an answer that has more records than a message may have is one that failed.
func TestServeTooManyRecords(t *testing.T) {
	asked := ask("x.", doq.Whole)
	asked.Wanted = true
	failed := told(asked, msg.Failed)
	for count := 297; count <= 300; count++ {
		z := x(t, 5, many(count-2)...)
		all := xfr.Full(z)
		h := history(t, 0, z)
		for _, most := range []int{298, 299, 300, 301, 302, 600, math.MaxInt} {
			var want []message
			for from := 0; from < len(all); from += min(most, 400) {
				part := all[from:min(len(all), from+min(most, 400))]
				if len(part) > 299 { // with the question 300
					want = append(want, failed)
					continue
				}
				want = append(want, own(asked, part...))
			}
			serves(t, h, asked, most, want...)
		}
	}
	// Steps likewise: 298 records that go, one that comes, and 4 SOAs.
	y, z := x(t, 5, many(298)...), x(t, 6, of1000("b.x.", 1)...)
	h := history(t, 1, y, z)
	all := xfr.Since(h, 5)
	asked = ask("x.", doq.Changes, soa("x.", 5))
	failed = told(asked, msg.Failed)
	serves(t, h, asked, 300, failed, own(asked, all[300:]...))
	serves(t, h, asked, 299, own(asked, all[:299]...), own(asked, all[299:]...))
	serves(t, h, asked, 1000, failed)
}

// P23.1: an answer that has more bytes than a message may have is one that failed.
func TestServeTooManyBytes(t *testing.T) {
	for _, c := range []struct {
		last int
		ok   bool
	}{{0, true}, {733, true}, {734, true}, {735, false}, {736, false}, {999, false}} {
		l := append(of1000("a.x.", 64), record{Name: "a.x.", Type: 99, Data: strings.Repeat("e", c.last)})
		z := x(t, 5, l...)
		asked := ask("a.x.", 99)
		want := own(asked, z.Lookup(asked.Ask[0]).Answers...)
		if !c.ok {
			want = told(asked, msg.Failed)
		} else if n := len(put(t, want)); n != 64801+c.last {
			t.Fatal(n)
		}
		serves(t, history(t, 0, z), asked, 9, want)
	}
	// In the place of the parts that are too great, and of no others: 50 of 1000 bytes fit, 70 don't.
	z := x(t, 5, append(many(70), of1000("b.x.", 140)...)...)
	asked := ask("x.", doq.Whole)
	all := xfr.Full(z)
	failed := told(asked, msg.Failed)
	serves(t, history(t, 0, z), asked, 72, own(asked, all[:72]...), failed, failed)
	serves(t, history(t, 0, z), asked, 140, failed, failed)
	serves(t, history(t, 0, z), asked, 50, owns(asked, all[:50], all[50:100], all[100:150], all[150:200], all[200:])...)
	serves(t, history(t, 0, z), asked, 299, failed)
}

// plainly is what Serve answers by the chapter's words, gone through one by one.
func plainly(h *serial.History, asked message, most int) []message {
	m := message{Answer: true, Kind: asked.Kind, Wanted: asked.Wanted}
	if len(asked.Ask) == 1 {
		m.Ask = asked.Ask
	}
	bad := func(code int) []message {
		m.Code = code
		return []message{m}
	}
	if asked.Kind != 0 {
		return bad(4)
	}
	if len(asked.Ask) != 1 {
		return bad(1)
	}
	if h == nil {
		return bad(2)
	}
	q, z := asked.Ask[0], h.Last()
	var l []record
	switch q.Type {
	case 252:
		if q.Name != z.Origin() {
			return bad(5)
		}
		l = xfr.Full(z)
	case 251:
		if q.Name != z.Origin() {
			return bad(5)
		}
		if len(asked.Authority) != 1 || asked.Authority[0].Type != api.SOA || asked.Authority[0].Name != z.Origin() {
			return bad(1)
		}
		n, _ := msg.Serial(asked.Authority[0])
		l = xfr.Since(h, n)
	default:
		r := z.Lookup(q)
		m.Code, m.Own, m.Answers, m.Authority, m.Extra = r.Code, r.Own, r.Answers, r.Authority, r.Extra
		return []message{m}
	}
	var all []message
	for len(l) > 0 {
		n := min(len(l), max(1, most))
		part := m
		part.Own, part.Answers = true, l[:n]
		all, l = append(all, part), l[n:]
	}
	return all
}

// P1, P23.1: whatever bytes come, Serve answers as the chapter says.
func TestServeOfAnyBytes(t *testing.T) {
	rnd := rand.New(rand.NewSource(4))
	h := history(t, 2, x(t, 4), x(t, 5, one), x(t, 6, one, two), x(t, 9, three))
	var seeds [][]byte
	for _, asked := range []message{ask("a.x.", api.A), ask("b.x.", api.A), ask("x.", doq.Whole), ask("x.", doq.Changes, soa("x.", 5)), ask("x.", doq.Changes, soa("x.", 5), one), {}} {
		seeds = append(seeds, put(t, asked))
	}
	codes := map[int]int{}
	for range 60000 {
		wild := bytes.Clone(seeds[rnd.Intn(len(seeds))])
		for range rnd.Intn(4) {
			at := rnd.Intn(len(wild))
			switch rnd.Intn(3) {
			case 0:
				wild[at] = byte(rnd.Intn(256))
			case 1:
				wild[at] ^= 1 << rnd.Intn(8)
			default:
				wild[at] = byte(rnd.Intn(10))
			}
		}
		if rnd.Intn(20) == 0 {
			wild = wild[:rnd.Intn(len(wild)+1)]
		}
		most := rnd.Intn(8) - 1
		of := []*serial.History{h, h, h, nil}[rnd.Intn(4)]
		asked, e := msg.Get(wild)
		if e != api.OK || asked.Id != 0 || asked.Answer {
			if got, code := doq.Serve(of, string(wild), most); got != nil || code != doq.Protocol {
				t.Errorf("%x: %x, %d", wild, got, code)
			}
			codes[-1]++
			continue
		}
		want := plainly(of, asked, most)
		codes[want[0].Code]++
		serves(t, of, asked, most, want...)
		if got, code := doq.Serve(of, string(wild), most); code != doq.NoError || !bytes.Equal(got, on(t, want)) {
			t.Errorf("%x: %x, %d", wild, got, code)
		}
	}
	for code := -1; code <= msg.Refused; code++ {
		if codes[code] == 0 {
			t.Error("never came", code)
		}
	}
}

// P1: a history whose version Build didn't make.
func TestServeOfUnmadeZone(t *testing.T) {
	h, e := serial.New(&zone.Zone{}, 3)
	if e != api.OK {
		t.Fatal(e)
	}
	for _, s := range []string{".", "x."} {
		for _, kind := range []int{api.A, doq.Whole, doq.Changes} {
			for _, l := range [][]record{nil, {soa(".", 5)}, {soa("x.", 5)}} {
				asked := ask(s, kind, l...)
				want := told(asked, msg.Refused)
				if kind == api.A {
					want.Code = msg.Failed
				}
				serves(t, h, asked, 1, want)
			}
		}
	}
}

// P23.3: what is handed in stays as it is, and isn't kept; answers are new memory.
func TestServeMemory(t *testing.T) {
	h := history(t, 3, x(t, 5, one), x(t, 6, one, two))
	for _, asked := range []message{ask("b.x.", api.A), ask("x.", doq.Whole), ask("x.", doq.Changes, soa("x.", 5)), {Kind: 4}} {
		b := put(t, asked)
		before := bytes.Clone(b)
		got, code := doq.Serve(h, fleeting(b), 2)
		if code != doq.NoError || !bytes.Equal(b, before) {
			t.Error(asked, code)
		}
		clear(b)
		want := on(t, plainly(h, asked, 2))
		if !bytes.Equal(got, want) {
			t.Errorf("%+v: %x", asked, got)
		}
		clear(got[:cap(got)])
		if again, _ := doq.Serve(h, string(before), 2); !bytes.Equal(again, want) {
			t.Errorf("%+v: %x", asked, again)
		}
	}
	if steps, ok := h.Since(5); !ok || len(steps) != 1 || !zone.Same(h.Last(), x(t, 6, one, two)) {
		t.Error("the history changed")
	}
}

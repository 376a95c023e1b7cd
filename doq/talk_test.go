package doq_test

import (
	"math/rand"
	"testing"

	"rhyne/api"
	"rhyne/doq"
	"rhyne/msg"
	"rhyne/serial"
	"rhyne/xfr"
	"rhyne/zone"
)

// inPieces are all messages of a stream that comes in pieces, and the code with which it ends.
func inPieces(t *testing.T, rnd *rand.Rand, b []byte) ([]string, int) {
	t.Helper()
	r := &doq.Reader{}
	var l []string
	most := 1 + rnd.Intn(1+len(b))
	for len(b) > 0 {
		n := 1 + rnd.Intn(min(len(b), most))
		feeds(t, r, string(b[:n]), api.OK)
		b = b[n:]
		for s, ok := r.Next(); ok; s, ok = r.Next() {
			l = append(l, s)
		}
	}
	return l, r.End()
}

// talk is what one who asks accepts of one who serves, and how the answers' stream, of which some bytes may be cut off, ends.
func talk(t *testing.T, rnd *rand.Rand, h *serial.History, q question, have *zone.Zone, cut int) ([]message, int) {
	t.Helper()
	asked, e := doq.Ask(q, have)
	if e != api.OK {
		t.Fatal(q, e)
	}
	questions, code := inPieces(t, rnd, asked)
	if len(questions) != 1 || code != doq.NoError {
		t.Fatal(q, questions, code)
	}
	told, code := doq.Serve(h, questions[0], 1+rnd.Intn(20))
	if code != doq.NoError {
		t.Fatal(q, code)
	}
	texts, code := inPieces(t, rnd, told[:max(0, len(told)-cut)])
	var l []message
	for _, s := range texts {
		m, e := doq.Accept(q, s)
		if e != api.OK {
			t.Fatal(q, e)
		}
		l = append(l, m)
	}
	return l, code
}

// wildZone is a version of x. with that serial.
func wildZone(t *testing.T, rnd *rand.Rand, n int) *zone.Zone {
	t.Helper()
	names := []string{"a.x.", "b.x.", "*.b.x.", "c.b.x.", "d.x."}
	var l []record
	for range rnd.Intn(12) {
		l = append(l, a(names[rnd.Intn(4)], number(rnd.Intn(6))))
	}
	switch rnd.Intn(3) {
	case 0:
		l = append(l, record{Name: "d.x.", Type: api.CNAME, TTL: 7, Data: "\x01a\x01x\x00"})
	case 1:
		l = append(l, record{Name: "d.x.", Type: api.NS, TTL: 8, Data: "\x01e\x01d\x01x\x00"}, a("e.d.x.", "4444"))
	}
	return x(t, n, l...)
}

// P4, P23.2: what is accepted of a question is what the last version says.
func TestStubHearsTheZone(t *testing.T) {
	rnd := rand.New(rand.NewSource(5))
	names := []string{"x.", "a.x.", "b.x.", "q.b.x.", "c.b.x.", "d.x.", "e.d.x.", "f.x.", "y.", "."}
	kinds := []int{api.A, api.NS, api.CNAME, api.SOA, api.TXT, 250, 253, 255, 65535}
	for range 300 {
		h := history(t, 2, wildZone(t, rnd, 1), wildZone(t, rnd, 2))
		for range 30 {
			q := question{Name: names[rnd.Intn(len(names))], Type: kinds[rnd.Intn(len(kinds))]}
			r := h.Last().Lookup(q)
			want := message{Answer: true, Wanted: true, Code: r.Code, Own: r.Own, Ask: []question{q}, Answers: r.Answers, Authority: r.Authority, Extra: r.Extra}
			l, code := talk(t, rnd, h, q, nil, 0)
			if code != doq.NoError || len(l) != 1 || !same(l[0], want) {
				t.Fatalf("%+v: %+v, %d; not %+v", q, l, code, want)
			}
		}
	}
}

// takeOver is the zone that one who has a zone, or none, has behind a talk.
func takeOver(t *testing.T, rnd *rand.Rand, h *serial.History, have *zone.Zone, cut int) (*zone.Zone, api.Errno) {
	t.Helper()
	q := question{Name: "x.", Type: doq.Whole}
	if have != nil {
		q.Type = doq.Changes
	}
	l, code := talk(t, rnd, h, q, have, cut)
	if (code == doq.NoError) != (cut == 0) {
		t.Fatal(cut, code)
	}
	k, e := xfr.New(have, "x.")
	if e != api.OK {
		t.Fatal(e)
	}
	for _, m := range l {
		if m.Code != msg.Fine || !m.Own || len(m.Authority)+len(m.Extra) > 0 {
			t.Fatalf("%+v", m)
		}
		if _, e := k.Take(m.Answers); e != api.OK {
			t.Fatal(e)
		}
	}
	return k.End()
}

// P4, P23.2: who takes a zone over has the last version, whichever one it had; what is cut off leaves it what it had.
func TestSecondaryHasTheLast(t *testing.T) {
	rnd := rand.New(rand.NewSource(6))
	for range 150 {
		h := history(t, rnd.Intn(4), wildZone(t, rnd, 1))
		var have *zone.Zone
		for n := 2; n < 12; n++ {
			// Of the last message at least a byte is missing.
			if _, e := takeOver(t, rnd, h, have, 1+rnd.Intn(20)); e != api.ErrForm {
				t.Fatal(have.Serial(), h.Last().Serial(), e)
			}
			z, e := takeOver(t, rnd, h, have, 0)
			if e != api.OK || !zone.Same(z, h.Last()) {
				t.Fatal(have.Serial(), h.Last().Serial(), e)
			}
			have = z
			for range rnd.Intn(4) {
				n++
				if e := h.Add(wildZone(t, rnd, n)); e != api.OK {
					t.Fatal(e)
				}
			}
		}
	}
}

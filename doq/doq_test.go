package doq_test

import (
	"bytes"
	"encoding/hex"
	"math"
	"math/rand"
	"reflect"
	"slices"
	"strings"
	"testing"
	"unsafe"

	"rhyne/api"
	"rhyne/doq"
	"rhyne/msg"
	"rhyne/serial"
	"rhyne/zone"
)

// short forms of the types, as the tests have many of them.
type (
	message  = msg.Message
	record   = api.Record
	question = api.Question
)

// number is a number in 4 bytes.
func number(n int) string { return string([]byte{byte(n >> 24), byte(n >> 16), byte(n >> 8), byte(n)}) }

// soa is the SOA of an origin, with a serial. Whoever looks for what isn't there may keep that for 9.
func soa(origin string, n int) record {
	return record{Name: origin, Type: api.SOA, TTL: 60, Data: "\x00\x00" + number(n) + strings.Repeat(number(9), 4)}
}

// lack is the SOA as it says that something isn't there.
func lack(origin string, n int) record {
	r := soa(origin, n)
	r.TTL = 9
	return r
}

// ns is the NS of an origin.
func ns(origin string) record { return record{Name: origin, Type: api.NS, TTL: 60, Data: "\x00"} }

// a is an A.
func a(s, data string) record { return record{Name: s, Type: api.A, TTL: 5, Data: data} }

// of is the zone of an origin with a serial, an NS and those records.
func of(t testing.TB, origin string, n int, l ...record) *zone.Zone {
	t.Helper()
	z, e := zone.Build(origin, append([]record{soa(origin, n), ns(origin)}, l...))
	if e != api.OK {
		t.Fatalf("Build of %+v: %d", l, e)
	}
	return z
}

// x is of of x.
func x(t testing.TB, n int, l ...record) *zone.Zone {
	t.Helper()
	return of(t, "x.", n, l...)
}

// history is one of those versions, one behind the other.
func history(t testing.TB, most int, versions ...*zone.Zone) *serial.History {
	t.Helper()
	h, e := serial.New(versions[0], most)
	if e != api.OK {
		t.Fatal(most, e)
	}
	for _, z := range versions[1:] {
		if e := h.Add(z); e != api.OK {
			t.Fatal(z.Serial(), e)
		}
	}
	return h
}

// The records that most tests have.
var one, two, three = a("b.x.", "1111"), a("b.x.", "2222"), a("a.x.", "3333")

// many are so many records of x.
func many(n int) []record {
	var l []record
	for i := range n {
		l = append(l, a("a.x.", number(i)))
	}
	return l
}

// put are a message's bytes.
func put(t testing.TB, m message) []byte {
	t.Helper()
	b, e := msg.Put(m)
	if e != api.OK {
		t.Fatalf("Put of %+v: %d", m, e)
	}
	return b
}

// same tells whether two messages are one; nil and empty lists are.
func same(m, n message) bool {
	equal := slices.Equal(m.Ask, n.Ask) && slices.Equal(m.Answers, n.Answers) && slices.Equal(m.Authority, n.Authority) && slices.Equal(m.Extra, n.Extra)
	m.Ask, m.Answers, m.Authority, m.Extra = nil, nil, nil, nil
	n.Ask, n.Answers, n.Authority, n.Extra = nil, nil, nil, nil
	return equal && reflect.DeepEqual(m, n)
}

// roomy is b with spare room behind it that is filled.
func roomy(b []byte) []byte {
	full := append(bytes.Clone(b), strings.Repeat("\xee", 400)...)
	return full[:len(b)]
}

// fleeting is a text whose bytes the test changes behind a call.
func fleeting(b []byte) string { return unsafe.String(unsafe.SliceData(b), len(b)) }

// notNames are texts that are no names.
var notNames = []string{"", "a", "A.", "..", ".a.", "a..", "?.", "a b.", "\x00.", strings.Repeat("a", 64) + ".", strings.Repeat("a.", 128)}

// P23.1: the numbers of the chapter.
func TestNumbers(t *testing.T) {
	got := [...]int{doq.NoError, doq.Internal, doq.Protocol, doq.Cancel, doq.Excess, doq.Changes, doq.Whole}
	if got != [...]int{0, 1, 2, 3, 4, 251, 252} {
		t.Error(got)
	}
}

// P23.1: a message behind its count.
func TestFrame(t *testing.T) {
	for _, n := range []int{1, 2, 3, 255, 256, 257, 4660, 65279, 65280, 65534, 65535} {
		b := bytes.Repeat([]byte{0xab}, n)
		b[n-1] = 0xcd
		want := append([]byte{byte(n / 256), byte(n % 256)}, b...)
		if got, e := doq.Frame(b); e != api.OK || !bytes.Equal(got, want) {
			t.Error(n, len(got), e)
		}
	}
	for _, n := range []int{65536, 65537, 65536 + 256, 1 << 20} {
		if got, e := doq.Frame(make([]byte, n)); got != nil || e != api.ErrBig {
			t.Error(n, len(got), e)
		}
	}
	for _, b := range [][]byte{nil, {}, make([]byte, 0, 9)} {
		if got, e := doq.Frame(b); got != nil || e != api.ErrArg {
			t.Error(got, e)
		}
	}
	// The chapter's example.
	if got, e := doq.Frame([]byte("ab")); e != api.OK || hex.EncodeToString(got) != "00026162" {
		t.Errorf("%x, %d", got, e)
	}
}

// asks tells whether Ask makes just that message.
func asks(t *testing.T, q question, have *zone.Zone, authority ...record) {
	t.Helper()
	want := put(t, message{Wanted: true, Ask: []question{q}, Authority: authority})
	want = append([]byte{byte(len(want) >> 8), byte(len(want))}, want...)
	if got, e := doq.Ask(q, have); e != api.OK || !bytes.Equal(got, want) {
		t.Errorf("Ask of %+v: %x, %d; not %x", q, got, e, want)
	}
}

// P23.1: a question; who has a zone says which, if it asks for changes.
func TestAsk(t *testing.T) {
	if got, e := doq.Ask(question{Name: "a.", Type: api.A}, nil); e != api.OK || hex.EncodeToString(got) != "0013"+"00000100000100000000000001610000010001" {
		t.Errorf("%x, %d", got, e)
	}
	longest := strings.Repeat(strings.Repeat("l", 63)+".", 3) + strings.Repeat("l", 61) + "."
	for _, have := range []*zone.Zone{nil, {}, x(t, 5), of(t, ".", 1<<32-1, a("a.", "1111")), of(t, longest, 1)} {
		for _, s := range []string{"x.", ".", "a.x.", "*.x.", longest} {
			for _, kind := range []int{1, api.SOA, 250, doq.Whole, 253, 255, 65535} {
				asks(t, question{Name: s, Type: kind}, have)
			}
		}
	}
	for _, s := range []string{"x.", ".", "y.", "a.x.", longest} {
		q := question{Name: s, Type: doq.Changes}
		asks(t, q, nil)
		asks(t, q, &zone.Zone{})
		asks(t, q, x(t, 5), soa("x.", 5))
		asks(t, q, x(t, 1<<32-1, one, two, a("x.", "1111")), soa("x.", 1<<32-1))
		asks(t, q, of(t, ".", 0), soa(".", 0))
		asks(t, q, of(t, longest, 7), soa(longest, 7))
		asks(t, q, x(t, 5, many(298)...), soa("x.", 5))
	}
	// The SOA as it is, though its last number is less than its TTL, or greater.
	brief := soa("x.", 5)
	brief.TTL = 3
	z, _ := zone.Build("x.", []record{brief, ns("x.")})
	asks(t, question{Name: "x.", Type: doq.Changes}, z, brief)
}

// P23.1: what is no question.
func TestAskRefuses(t *testing.T) {
	var wrong []question
	for _, s := range notNames {
		for _, kind := range []int{api.A, doq.Changes, doq.Whole} {
			wrong = append(wrong, question{Name: s, Type: kind})
		}
	}
	for _, kind := range []int{0, -1, 65536, 65536 + doq.Changes, math.MinInt, math.MaxInt} {
		wrong = append(wrong, question{Name: "x.", Type: kind})
	}
	for _, q := range wrong {
		for _, have := range []*zone.Zone{nil, {}, x(t, 5)} {
			if got, e := doq.Ask(q, have); got != nil || e != api.ErrForm {
				t.Errorf("%+v: %x, %d", q, got, e)
			}
		}
	}
}

// accepts tells whether Accept answers as it should.
func accepts(t *testing.T, q question, b []byte, want message, refused api.Errno) {
	t.Helper()
	if m, e := doq.Accept(q, string(b)); e != refused || !same(m, want) {
		t.Errorf("Accept of %+v, %.100x: %+v, %d; not %+v, %d", q, b, m, e, want, refused)
	}
}

// answer is an answer to a question in which each part is there.
func answer(q question) message {
	return message{
		Answer: true, Kind: 3, Own: true, Cut: true, Wanted: true, Able: true, Code: 9, Ask: []question{q},
		Answers: []record{one, two, one}, Authority: []record{soa("x.", 5), ns("x.")}, Extra: []record{three},
	}
}

// P23.1: which answers are taken.
func TestAccept(t *testing.T) {
	for _, q := range []question{{Name: "b.x.", Type: api.A}, {Name: ".", Type: 65535}, {Name: "x.", Type: doq.Whole}, {Name: "*.x.", Type: 1}} {
		whole := answer(q)
		accepts(t, q, put(t, whole), whole, api.OK)
		least := message{Answer: true, Ask: []question{q}}
		accepts(t, q, put(t, least), least, api.OK)
		for code := range 16 {
			least.Code = code
			accepts(t, q, put(t, least), least, api.OK)
		}
	}
	// As many records as may be.
	q := question{Name: "a.x.", Type: api.A}
	full := message{Answer: true, Ask: []question{q}, Answers: many(299)}
	accepts(t, q, put(t, full), full, api.OK)
	// Great letters count as small ones.
	b := put(t, message{Answer: true, Ask: []question{q}})
	great := bytes.Replace(b, []byte("\x01a\x01x"), []byte("\x01A\x01X"), 1)
	if bytes.Equal(b, great) {
		t.Fatalf("%x", b)
	}
	accepts(t, q, great, message{Answer: true, Ask: []question{q}}, api.OK)
}

// P23.1: what is an answer to something else, or none.
func TestAcceptOfOthers(t *testing.T) {
	q := question{Name: "b.x.", Type: api.A}
	for _, other := range []message{
		{}, {Answer: true}, {Ask: []question{q}}, {Id: 1, Answer: true, Ask: []question{q}}, {Id: 256, Answer: true, Ask: []question{q}}, {Id: 65535, Answer: true, Ask: []question{q}},
		{Answer: true, Ask: []question{q, q}}, {Answer: true, Ask: []question{q, {Name: "c.x.", Type: api.A}}}, {Answer: true, Ask: []question{{Name: "c.x.", Type: api.A}, q}},
		{Answer: true, Ask: []question{{Name: "b.x.", Type: api.AAAA}}}, {Answer: true, Ask: []question{{Name: "x.", Type: api.A}}}, {Answer: true, Ask: []question{{Name: "a.b.x.", Type: api.A}}},
		{Answer: true, Answers: []record{one, two}}, {Id: 1, Ask: []question{{Name: "y.", Type: 2}}},
	} {
		accepts(t, q, put(t, other), message{}, api.ErrState)
	}
	// What isn't a question has no answer.
	b := put(t, message{Answer: true, Ask: []question{q}})
	for _, wrong := range []question{{}, {Name: "B.x.", Type: api.A}, {Name: "b.x", Type: api.A}, {Name: "b.x.", Type: -65535}, {Name: "b.x.", Type: 65537}, {Name: "b.x."}} {
		accepts(t, wrong, b, message{}, api.ErrState)
		accepts(t, wrong, b[1:], message{}, api.ErrForm)
	}
	for _, s := range notNames {
		accepts(t, question{Name: s, Type: api.A}, b, message{}, api.ErrState)
	}
}

// P23.1: what is no message.
func TestAcceptOfNone(t *testing.T) {
	q := question{Name: "b.x.", Type: api.A}
	b := put(t, answer(q))
	for n := range b {
		accepts(t, q, b[:n], message{}, api.ErrForm)
	}
	accepts(t, q, append(bytes.Clone(b), 0), message{}, api.ErrForm)
	for _, n := range []int{65535, 65536, 1 << 20} {
		accepts(t, q, append(bytes.Clone(b), make([]byte, n-len(b))...), message{}, api.ErrForm)
	}
	// One record too many; the same of another Id, though that alone is another error.
	head := []byte{0, 0, 0x80, 0, 0, 1, 1, 0x2c, 0, 0, 0, 0}
	accepts(t, q, head, message{}, api.ErrForm)
	head[0] = 1
	accepts(t, q, head, message{}, api.ErrForm)
}

// P1, P23.1: whatever bytes come, Accept tells what msg.Get does of them.
func TestAcceptOfAnyBytes(t *testing.T) {
	rnd := rand.New(rand.NewSource(1))
	q := question{Name: "b.x.", Type: api.A}
	b := put(t, answer(q))
	taken := 0
	for range 30000 {
		wild := bytes.Clone(b)
		for range 1 + rnd.Intn(3) {
			wild[rnd.Intn(len(wild))] = byte(rnd.Intn(256))
		}
		if rnd.Intn(9) == 0 {
			wild = wild[:rnd.Intn(len(wild)+1)]
		}
		m, e := msg.Get(wild)
		switch {
		case e != api.OK:
			accepts(t, q, wild, message{}, api.ErrForm)
		case m.Id != 0 || !m.Answer || len(m.Ask) != 1 || m.Ask[0].Name != q.Name || m.Ask[0].Type != q.Type:
			accepts(t, q, wild, message{}, api.ErrState)
		default:
			accepts(t, q, wild, m, api.OK)
			taken++
		}
	}
	if taken == 0 {
		t.Error("nothing was accepted")
	}
}

// P23.3: what is handed in stays as it is, and isn't kept; answers are new memory.
func TestMemory(t *testing.T) {
	b := roomy([]byte("abc"))
	got, _ := doq.Frame(b)
	clear(got[:cap(got)])
	if string(b) != "abc" || !bytes.Equal(b[:cap(b)][3:403], bytes.Repeat([]byte{0xee}, 400)) {
		t.Errorf("%x", b[:cap(b)])
	}
	z := x(t, 5, one)
	q := question{Name: "x.", Type: doq.Changes}
	first, _ := doq.Ask(q, z)
	want := bytes.Clone(first)
	clear(first[:cap(first)])
	if second, e := doq.Ask(q, z); e != api.OK || !bytes.Equal(second, want) || !zone.Same(z, x(t, 5, one)) {
		t.Errorf("%x, %d", second, e)
	}
	q = question{Name: "b.x.", Type: api.A}
	b = put(t, answer(q))
	m, e := doq.Accept(q, fleeting(b))
	if e != api.OK || !same(m, answer(q)) {
		t.Error(m, e)
	}
	clear(b)
	if !same(m, answer(q)) {
		t.Error("the message changes with the bytes", m)
	}
	clear(m.Answers[:cap(m.Answers)])
	if rest := answer(q); !slices.Equal(m.Authority, rest.Authority) || !slices.Equal(m.Extra, rest.Extra) {
		t.Error("lists share their memory", m)
	}
	clear(m.Authority[:cap(m.Authority)])
	if !slices.Equal(m.Extra, answer(q).Extra) {
		t.Error("lists share their memory", m)
	}
	name := []byte("b.x.")
	asked, _ := doq.Ask(question{Name: fleeting(name), Type: api.A}, nil)
	clear(name)
	if want, _ := doq.Ask(q, nil); !bytes.Equal(asked, want) {
		t.Errorf("%x", asked)
	}
}

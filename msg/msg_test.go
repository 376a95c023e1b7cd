package msg_test

import (
	"bytes"
	"encoding/hex"
	"math"
	"math/rand"
	"reflect"
	"slices"
	"strings"
	"testing"

	"rhyne/api"
	"rhyne/msg"
	"rhyne/name"
)

// short forms of the types, as the tests have many of them.
type (
	message  = msg.Message
	record   = api.Record
	question = api.Question
)

func fromHex(t *testing.T, s string) []byte {
	t.Helper()
	b, err := hex.DecodeString(strings.ReplaceAll(s, " ", ""))
	if err != nil {
		t.Fatal(err)
	}
	return b
}

// roomy is b with spare room behind it that is filled.
func roomy(b []byte) []byte {
	full := append(bytes.Clone(b), strings.Repeat("\xee", 400)...)
	return full[:len(b)]
}

// text is n bytes.
func text(n int) string { return strings.Repeat("t", n) }

// wire is a name's bytes.
func wire(s string) string {
	b, e := name.Wire(s)
	if e != api.OK {
		panic(s)
	}
	return string(b)
}

// soaData is the data of an SOA.
func soaData(serial, last int) string {
	number := func(n int) string { return string([]byte{byte(n >> 24), byte(n >> 16), byte(n >> 8), byte(n)}) }
	return wire("n.x.") + wire("h.x.") + number(serial) + strings.Repeat(number(7), 3) + number(last)
}

// same tells whether two messages are one; nil and empty lists are.
func same(m, n message) bool {
	equal := slices.Equal(m.Ask, n.Ask) && slices.Equal(m.Answers, n.Answers) && slices.Equal(m.Authority, n.Authority) && slices.Equal(m.Extra, n.Extra)
	m.Ask, m.Answers, m.Authority, m.Extra = nil, nil, nil, nil
	n.Ask, n.Answers, n.Authority, n.Extra = nil, nil, nil, nil
	return equal && reflect.DeepEqual(m, n)
}

func puts(t *testing.T, m message, want []byte) {
	t.Helper()
	if b, e := msg.Put(m); e != api.OK || !bytes.Equal(b, want) {
		t.Errorf("Put of %+v: %x, %d; not %x", m, b, e, want)
	}
}

func gets(t *testing.T, b []byte, want message) {
	t.Helper()
	if m, e := msg.Get(b); e != api.OK || !same(m, want) {
		t.Errorf("Get of %.200x: %+v, %d; not %+v", b, m, e, want)
	}
}

// refuses tells whether Get refuses bytes as it should.
func refuses(t *testing.T, b []byte, want api.Errno) {
	t.Helper()
	if m, e := msg.Get(b); e != want || !reflect.DeepEqual(m, message{}) {
		t.Errorf("Get of %.200x: %+v, %d; not %d", b, m, e, want)
	}
}

// putRefuses tells whether Put refuses a message as it should.
func putRefuses(t *testing.T, m message, want api.Errno) {
	t.Helper()
	if b, e := msg.Put(m); e != want || len(b) != 0 {
		t.Errorf("Put of a message: %d bytes, %d; not %d", len(b), e, want)
	}
}

// taken tells whether Put takes a message, that then comes back, or refuses it as one that isn't in form.
func taken(t *testing.T, m message, ok bool) {
	t.Helper()
	if !ok {
		putRefuses(t, m, api.ErrForm)
		return
	}
	b, e := msg.Put(m)
	if e != api.OK {
		t.Errorf("Put of %+v: %d", m, e)
		return
	}
	gets(t, b, m)
}

// full is a message of which each part is there, and its bytes.
func full(t *testing.T) (message, []byte) {
	m := message{
		Id: 0x1234, Answer: true, Kind: 5, Own: true, Cut: true, Wanted: true, Able: true, Code: 3,
		Ask: []question{{Name: "w.x.", Type: api.MX}, {Name: ".", Type: 0xabcd}},
		Answers: []record{
			{Name: "w.x.", Type: api.CNAME, TTL: 9, Data: wire("y.")},
			{Name: "y.", Type: api.MX, TTL: 1<<31 - 1, Data: "\x01\x02" + wire("w.x.")},
			{Name: "q.y.", Type: api.TXT, Data: "\x02hi\x00"},
		},
		Authority: []record{{Name: "x.", Type: api.NS, TTL: 0x01020304, Data: wire("n.x.")}, {Name: "x.", Type: api.SOA, TTL: 1, Data: soaData(258, 3)}},
		Extra:     []record{{Name: "n.x.", Type: api.A, TTL: 1, Data: "1234"}, {Name: "n.x.", Type: api.AAAA, TTL: 1, Data: "0123456789abcdef"}, {Name: ".", Type: 99, Data: ""}},
	}
	b := fromHex(t, "1234 af83 0002 0003 0002 0003"+
		"0177 0178 00 000f 0001"+ // w.x. is at 12, x. at 14
		"00 abcd 0001"+
		"c00c 0005 0001 00000009 0003 0179 00"+
		"0179 00 000f 0001 7fffffff 0007 0102 0177 0178 00"+ // y. is at 41, as no name in data counts
		"0171 c029 0010 0001 00000000 0004 02 6869 00"+
		"c00e 0002 0001 01020304 0005 016e 0178 00"+
		"c00e 0006 0001 00000001 001e 016e 0178 00 0168 0178 00 00000102 00000007 00000007 00000007 00000003"+
		"016e c00e 0001 0001 00000001 0004 31323334"+ // n.x. is at 138
		"c08a 001c 0001 00000001 0010 30313233343536373839616263646566"+
		"00 0063 0001 00000000 0000")
	return m, b
}

// P18.1, P18.2: the bytes of a message, and the message of these.
func TestWholeMessage(t *testing.T) {
	m, b := full(t)
	puts(t, m, b)
	gets(t, b, m)
	puts(t, message{}, make([]byte, 12))
	gets(t, make([]byte, 12), message{})
	asks := message{Wanted: true, Ask: []question{{Name: "a.", Type: api.A}}}
	puts(t, asks, fromHex(t, "00 00 01 00 00 01 00 00 00 00 00 00 01 61 00 00 01 00 01"))
	gets(t, fromHex(t, "00 00 01 00 00 01 00 00 00 00 00 00 01 61 00 00 01 00 01"), asks)
}

// P18.1: each bit and number of the first bytes.
func TestHead(t *testing.T) {
	for _, c := range []struct {
		m    message
		want string
	}{
		{message{Id: 0xa1b2}, "a1b2 0000"}, {message{Id: 65535}, "ffff 0000"}, {message{Id: 1}, "0001 0000"},
		{message{Answer: true}, "0000 8000"}, {message{Own: true}, "0000 0400"}, {message{Cut: true}, "0000 0200"}, {message{Wanted: true}, "0000 0100"}, {message{Able: true}, "0000 0080"},
		{message{Kind: 1}, "0000 0800"}, {message{Kind: 15}, "0000 7800"}, {message{Code: msg.Refused}, "0000 0005"}, {message{Code: 15}, "0000 000f"},
	} {
		b := append(fromHex(t, c.want), make([]byte, 8)...)
		puts(t, c.m, b)
		gets(t, b, c.m)
	}
	// The three bits between Able and Code may be any.
	for bits := range 8 {
		gets(t, append([]byte{0, 7, 0x81, byte(0x82 | bits<<4), 0}, make([]byte, 7)...), message{Id: 7, Answer: true, Wanted: true, Able: true, Code: 2})
	}
	for at := range 256 {
		b := append([]byte{0, 0, byte(at), byte(at)}, make([]byte, 8)...)
		m, e := msg.Get(b)
		b[3] &= 0x8f
		if again, f := msg.Put(m); e != api.OK || f != api.OK || !bytes.Equal(again, b) {
			t.Errorf("%x: %+v, %x", b, m, again)
		}
	}
	if got := [...]int{msg.Fine, msg.BadForm, msg.Failed, msg.NoName, msg.NotDone, msg.Refused}; got != [...]int{0, 1, 2, 3, 4, 5} {
		t.Error(got)
	}
}

// P18.1: the limits of a message's numbers.
func TestLimitsOfNumbers(t *testing.T) {
	for n, ok := range map[int]bool{math.MinInt: false, -1: false, 0: true, 15: true, 16: false, 255: false, 256: false, 1 << 32: false, math.MaxInt: false} {
		taken(t, message{Kind: n}, ok)
		taken(t, message{Code: n}, ok)
	}
	for n, ok := range map[int]bool{math.MinInt: false, -1: false, 0: true, 1: true, 255: true, 256: true, 65535: true, 65536: false, 1 << 32: false, math.MaxInt: false} {
		taken(t, message{Id: n}, ok)
		of := ok && n != 0
		taken(t, message{Ask: []question{{Name: "a.", Type: n}}}, of)
		if n > 16 {
			taken(t, message{Answers: []record{{Name: "a.", Type: n}}}, of)
		}
	}
	for n, ok := range map[int]bool{math.MinInt: false, -1: false, 0: true, 1 << 24: true, 1<<31 - 1: true, 1 << 31: false, 1<<32 - 1: false, 1 << 32: false, math.MaxInt: false} {
		taken(t, message{Authority: []record{{Name: "a.", Type: 99, TTL: n}}}, ok)
	}
	for n, ok := range map[int]bool{0: true, 1: true, 255: true, 256: true, 999: true, 1000: true, 1001: false, 65535: false, 65536: false, 1 << 20: false} {
		taken(t, message{Extra: []record{{Name: "a.", Type: 99, Data: text(n)}}}, ok)
	}
}

// P18.1: a name, or data, that isn't right, in each list, wherever it stands in it.
func TestPutWrongParts(t *testing.T) {
	good := record{Name: "a.", Type: api.A, Data: "1234"}
	bad := []record{{Name: "a", Type: api.A, Data: "1234"}, {Name: "A.", Type: api.A, Data: "1234"}, {Name: "", Type: 99}, {Name: "a.", Type: api.A, Data: "123"}, {Name: "a.", Type: api.NS, Data: "\x01"}, {Name: "a.", Type: 0}, {}}
	for _, r := range bad {
		for _, l := range [][]record{{r}, {good, r}, {r, good}, {good, r, good}} {
			putRefuses(t, message{Answers: l}, api.ErrForm)
			putRefuses(t, message{Authority: l}, api.ErrForm)
			putRefuses(t, message{Extra: l}, api.ErrForm)
		}
	}
	for _, q := range []question{{Name: "a", Type: 1}, {Name: "", Type: 1}, {Name: "A.", Type: 1}, {Name: "a..", Type: 1}, {Name: "a."}, {Name: "a.", Type: -1}, {}} {
		putRefuses(t, message{Ask: []question{q}}, api.ErrForm)
		putRefuses(t, message{Ask: []question{{Name: "a.", Type: 1}, q}}, api.ErrForm)
		putRefuses(t, message{Ask: []question{q}, Answers: []record{good}}, api.ErrForm)
	}
}

// many is n records that are small.
func many(n int) []record {
	return slices.Repeat([]record{{Name: ".", Type: 99}}, n)
}

// P18.1: how many questions and records there may be; more are told ahead of all else.
func TestLimitOfRecords(t *testing.T) {
	asks := func(n int) []question { return slices.Repeat([]question{{Name: ".", Type: 1}}, n) }
	for _, m := range []message{{Ask: asks(300)}, {Answers: many(300)}, {Authority: many(300)}, {Extra: many(300)}, {Ask: asks(75), Answers: many(75), Authority: many(75), Extra: many(75)}} {
		taken(t, m, true)
		for _, l := range []*[]record{&m.Answers, &m.Authority, &m.Extra} {
			held := *l
			*l = append(slices.Clone(held), many(1)...)
			putRefuses(t, m, api.ErrBig)
			*l = append(slices.Clone(held), record{})
			putRefuses(t, m, api.ErrBig)
			*l = held
		}
		m.Ask = append(m.Ask, question{})
		putRefuses(t, m, api.ErrBig)
	}
	putRefuses(t, message{Id: -1, Extra: make([]record, 301)}, api.ErrBig)
	putRefuses(t, message{Id: -1, Extra: make([]record, 300)}, api.ErrForm)
	for _, counts := range []string{"012d 0000 0000 0000", "0000 012d 0000 0000", "0000 0000 012d 0000", "0000 0000 0000 012d", "004c 004b 004b 004b", "ffff ffff ffff ffff", "0001 0000 0000 012c"} {
		head := append(make([]byte, 4), fromHex(t, counts)...)
		refuses(t, head, api.ErrBig)
		refuses(t, append(head, make([]byte, 11*301)...), api.ErrBig)
		refuses(t, head[:11], api.ErrForm)
	}
	refuses(t, append(make([]byte, 4), fromHex(t, "012c 0000 0000 0000")...), api.ErrForm)
	refuses(t, append(make([]byte, 4), fromHex(t, "004b 004b 004b 004b")...), api.ErrForm)
}

// P18.1: how many bytes there may be; what isn't in form is told ahead of it by Put, and behind it by Get.
func TestLimitOfBytes(t *testing.T) {
	// Each of these has 1011 bytes, so that 64 of them leave room for 819.
	l := slices.Repeat([]record{{Name: ".", Type: 99, Data: text(1000)}}, 64)
	for n, ok := range map[int]bool{0: true, 807: true, 808: true, 809: false, 1000: false} {
		m := message{Answers: l, Extra: []record{{Name: ".", Type: 99, Data: text(n)}}}
		if !ok {
			putRefuses(t, m, api.ErrBig)
			m.Code = 16
			putRefuses(t, m, api.ErrForm)
			continue
		}
		b, e := msg.Put(m)
		if e != api.OK || len(b) != 65535-808+n {
			t.Error(n, len(b), e)
		}
		gets(t, b, m)
		if n == 808 {
			refuses(t, append(b, 0), api.ErrBig)
			refuses(t, b[:len(b)-1], api.ErrForm)
		}
	}
	putRefuses(t, message{Answers: slices.Repeat(l, 4)}, api.ErrBig)
	putRefuses(t, message{Answers: append(slices.Repeat(l, 4), record{})}, api.ErrForm)
	refuses(t, make([]byte, 65536), api.ErrBig)
	refuses(t, make([]byte, 1<<20), api.ErrBig)
	refuses(t, make([]byte, 65535), api.ErrForm)
}

// P18.1: bytes that end too soon, or go on, are no message's.
func TestGetEnds(t *testing.T) {
	_, b := full(t)
	for i := range b {
		refuses(t, b[:i], api.ErrForm)
	}
	for _, more := range []string{"\x00", "\x01", "\x00\x00\x01\x00\x01", text(100)} {
		refuses(t, append(bytes.Clone(b), more...), api.ErrForm)
	}
	refuses(t, nil, api.ErrForm)
	// A count that is another one's, too.
	for at := 5; at < 12; at += 2 {
		for _, by := range []byte{1, 255} {
			c := bytes.Clone(b)
			c[at] += by
			refuses(t, c, api.ErrForm)
		}
	}
}

// P18.2, P4: messages of any kind come back from their bytes, with each record as it was.
func TestComesBack(t *testing.T) {
	draw := rand.New(rand.NewSource(181))
	for range 5000 {
		m := anyMessage(draw)
		b, e := msg.Put(m)
		if e != api.OK {
			t.Fatalf("Put of %+v: %d", m, e)
		}
		gets(t, b, m)
		for range 10 {
			refuses(t, b[:draw.Intn(len(b))], api.ErrForm)
		}
	}
}

// anyName draws a name of few parts.
func anyName(draw *rand.Rand) string {
	if draw.Intn(8) == 0 {
		return "."
	}
	s := ""
	for range 1 + draw.Intn(4) {
		s += []string{"a", "b", "*", "www", "x-y", "_z", strings.Repeat("l", 63)}[draw.Intn(7)] + "."
	}
	if len(s) > 254 {
		return "a."
	}
	return s
}

// anyRecord draws a record.
func anyRecord(draw *rand.Rand) record {
	r := record{Name: anyName(draw), TTL: draw.Intn(1 << 31)}
	bytes := make([]byte, 1000)
	draw.Read(bytes)
	kinds := []int{api.A, api.NS, api.CNAME, api.SOA, api.MX, api.TXT, api.AAAA, 1 + draw.Intn(65535)}
	r.Type = kinds[draw.Intn(len(kinds))]
	switch r.Type {
	case api.A:
		r.Data = string(bytes[:4])
	case api.AAAA:
		r.Data = string(bytes[:16])
	case api.NS, api.CNAME:
		r.Data = wire(anyName(draw))
	case api.MX:
		r.Data = string(bytes[:2]) + wire(anyName(draw))
	case api.SOA:
		r.Data = wire(anyName(draw)) + wire(anyName(draw)) + string(bytes[:20])
	case api.TXT:
		for range 1 + draw.Intn(3) {
			n := draw.Intn(256)
			r.Data += string([]byte{byte(n)}) + string(bytes[:n])
		}
	default:
		r.Data = string(bytes[:draw.Intn(1001)])
	}
	return r
}

// anyMessage draws a message.
func anyMessage(draw *rand.Rand) message {
	m := message{
		Id: draw.Intn(65536), Answer: draw.Intn(2) == 0, Kind: draw.Intn(16), Own: draw.Intn(2) == 0, Cut: draw.Intn(2) == 0,
		Wanted: draw.Intn(2) == 0, Able: draw.Intn(2) == 0, Code: draw.Intn(16),
	}
	for range draw.Intn(3) {
		m.Ask = append(m.Ask, question{Name: anyName(draw), Type: 1 + draw.Intn(65535)})
	}
	for _, l := range []*[]record{&m.Answers, &m.Authority, &m.Extra} {
		for range draw.Intn(6) {
			*l = append(*l, anyRecord(draw))
		}
	}
	return m
}

// P18.3: what is handed in isn't changed, nor its spare room, and nothing of it is kept.
func TestArgumentsStay(t *testing.T) {
	m, b := full(t)
	held, _ := full(t)
	for _, l := range []*[]record{&m.Answers, &m.Authority, &m.Extra} {
		*l = append(*l, record{Name: "spare."})[:len(*l)]
	}
	out, _ := msg.Put(m)
	clear(out[:cap(out)])
	puts(t, m, b)
	if !same(m, held) || m.Extra[:len(m.Extra)+1][len(m.Extra)].Name != "spare." {
		t.Errorf("%+v", m)
	}
	clear(m.Answers)
	clear(m.Ask)
	b = roomy(b)
	before := string(b[:cap(b)])
	got, e := msg.Get(b)
	if string(b[:cap(b)]) != before || e != api.OK {
		t.Error("Get changed its bytes", e)
	}
	clear(b[:cap(b)])
	if !same(got, held) {
		t.Errorf("%+v", got)
	}
	clear(got.Answers[:cap(got.Answers)])
	clear(got.Ask[:cap(got.Ask)])
	if !slices.Equal(got.Authority, held.Authority) || !slices.Equal(got.Extra, held.Extra) {
		t.Error("lists of one answer share their memory")
	}
}

// P1, P18.1: Get answers for any bytes; what it answers is a message, that comes back.
func TestAnyBytes(t *testing.T) {
	draw := rand.New(rand.NewSource(182))
	messages := 0
	for i := range 40000 {
		var b []byte
		if i%2 == 0 {
			b, _ = msg.Put(anyMessage(draw))
			for range draw.Intn(4) {
				b[draw.Intn(len(b))] = byte(draw.Intn(256))
			}
		} else {
			b = make([]byte, draw.Intn(60))
			draw.Read(b)
			for at := 4; at < min(12, len(b)); at++ {
				b[at] = byte(at&1) & b[at]
			}
		}
		m, e := msg.Get(b)
		if e != api.OK {
			if e != api.ErrForm && e != api.ErrBig || !reflect.DeepEqual(m, message{}) {
				t.Fatalf("Get of %x: %+v, %d", b, m, e)
			}
			continue
		}
		messages++
		again, e := msg.Put(m)
		if e != api.OK {
			t.Fatalf("Put of %+v: %d", m, e)
		}
		gets(t, again, m)
	}
	if messages < 4000 || messages > 36000 {
		t.Error(messages, "messages")
	}
}

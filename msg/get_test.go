package msg_test

import (
	"strings"
	"testing"

	"rhyne/api"
)

// behind is the bytes of a message that has, behind its head, one record, or what should be one.
func behind(record string) []byte {
	return []byte("\x00\x00\x00\x00\x00\x00\x00\x01\x00\x00\x00\x00" + record)
}

// asking is the bytes of a message that has, behind its head, one question, or what should be one.
func asking(question string) []byte {
	return []byte("\x00\x00\x00\x00\x00\x01\x00\x00\x00\x00\x00\x00" + question)
}

// getsOne tells whether Get finds a record behind the head.
func getsOne(t *testing.T, b string, want record) {
	t.Helper()
	gets(t, behind(b), message{Answers: []record{want}})
}

// rest is the class and the TTL of most records below.
const rest = "\x00\x01\x00\x00\x00\x05"

// P18.1: letters count as small ones, in owners' names and in data that has names; in other data they stay.
func TestGetLetters(t *testing.T) {
	gets(t, asking("\x03WwW\x01X\x00\x00\x01\x00\x01"), message{Ask: []question{{Name: "www.x.", Type: api.A}}})
	getsOne(t, "\x02aB\x01X\x00\x00\x02"+rest+"\x00\x05\x01N\x01X\x00", record{Name: "ab.x.", Type: api.NS, TTL: 5, Data: wire("n.x.")})
	getsOne(t, "\x01X\x00\x00\x05"+rest+"\x00\x03\x01Y\x00", record{Name: "x.", Type: api.CNAME, TTL: 5, Data: wire("y.")})
	getsOne(t, "\x01X\x00\x00\x0f"+rest+"\x00\x05AB\x01Y\x00", record{Name: "x.", Type: api.MX, TTL: 5, Data: "AB" + wire("y.")})
	getsOne(t, "\x01X\x00\x00\x06"+rest+"\x00\x1a\x01Y\x00\x01Z\x00"+strings.Repeat("N", 20), record{Name: "x.", Type: api.SOA, TTL: 5, Data: wire("y.") + wire("z.") + strings.Repeat("N", 20)})
	getsOne(t, "\x01X\x00\x00\x10"+rest+"\x00\x03\x02Ab", record{Name: "x.", Type: api.TXT, TTL: 5, Data: "\x02Ab"})
	getsOne(t, "\x01X\x00\x00\x01"+rest+"\x00\x04ABCD", record{Name: "x.", Type: api.A, TTL: 5, Data: "ABCD"})
	getsOne(t, "\x01X\x00\x00\x63"+rest+"\x00\x04ABCD", record{Name: "x.", Type: 99, TTL: 5, Data: "ABCD"})
}

// P18.1: names may be written short in any way, in data too, and count there as all of them.
func TestGetShort(t *testing.T) {
	getsOne(t, "\x01x\x00\x00\x02"+rest+"\x00\x02\xc0\x0c", record{Name: "x.", Type: api.NS, TTL: 5, Data: wire("x.")})
	getsOne(t, "\x01x\x00\x00\x05"+rest+"\x00\x04\x01y\xc0\x0c", record{Name: "x.", Type: api.CNAME, TTL: 5, Data: wire("y.x.")})
	getsOne(t, "\x01x\x00\x00\x0f"+rest+"\x00\x04\xff\xff\xc0\x0c", record{Name: "x.", Type: api.MX, TTL: 5, Data: "\xff\xff" + wire("x.")})
	// Of an SOA both, the second one by the first; the first byte of that is at 25.
	getsOne(t, "\x01x\x00\x00\x06"+rest+"\x00\x1c\x01n\xc0\x0c\x01h\xc0\x19"+strings.Repeat("\xc0", 20), record{Name: "x.", Type: api.SOA, TTL: 5, Data: wire("n.x.") + wire("h.n.x.") + strings.Repeat("\xc0", 20)})
	// By a place in the head, by one that is a place, and by one in data that has no names.
	getsOne(t, "\xc0\x00\x00\x02"+rest+"\x00\x02\xc0\x04", record{Name: ".", Type: api.NS, TTL: 5, Data: wire(".")})
	gets(t, asking("\x01x\xc0\x00\x00\x01\x00\x01"), message{Ask: []question{{Name: "x.", Type: api.A}}})
	two := behind("\x01x\x00\x00\x63" + rest + "\x00\x03\x01Z\x00" + "\x01y\xc0\x19\x00\x02" + rest + "\x00\x02\xc0\x1c")
	two[7] = 2
	gets(t, two, message{Answers: []record{{Name: "x.", Type: 99, TTL: 5, Data: "\x01Z\x00"}, {Name: "y.z.", Type: api.NS, TTL: 5, Data: wire("y.z.")}}})
	// In other data two such bytes are bytes.
	getsOne(t, "\x01x\x00\x00\x63"+rest+"\x00\x02\xc0\x0c", record{Name: "x.", Type: 99, TTL: 5, Data: "\xc0\x0c"})
	getsOne(t, "\x01x\x00\x00\x10"+rest+"\x00\x03\x02\xc0\x0c", record{Name: "x.", Type: api.TXT, TTL: 5, Data: "\x02\xc0\x0c"})
	// A place that isn't below, or leads to no name.
	for _, place := range []string{"\xc0\x19", "\xc0\x1a", "\xc0\x0d", "\xff\xff", "\x01y\xc0\x19", "\xc0", "\x40"} {
		refuses(t, behind("\x01x\x00\x00\x02"+rest+"\x00"+string([]byte{byte(len(place))})+place), api.ErrForm)
	}
	refuses(t, behind("\xc0\x0c\x00\x02"+rest+"\x00\x01\x00"), api.ErrForm)
	refuses(t, asking("\xc0\x0c\x00\x01\x00\x01"), api.ErrForm)
	refuses(t, asking("\x01 \x00\x00\x01\x00\x01"), api.ErrForm)
}

// P18.1: data of names has these, and nothing less or more.
func TestGetDataOfNames(t *testing.T) {
	for kind, data := range map[string]string{"\x00\x02": "\x01y\x00", "\x00\x05": "\x01y\x00", "\x00\x0f": "AB\x01y\x00", "\x00\x06": "\x01y\x00\x01z\x00" + strings.Repeat("N", 20)} {
		for n := range 40 {
			long := (data + strings.Repeat("\x00", 40))[:n]
			b := behind("\x01x\x00" + kind + rest + "\x00" + string([]byte{byte(n)}) + long)
			if n == len(data) {
				getsOne(t, string(b[12:]), record{Name: "x.", Type: int(kind[1]), TTL: 5, Data: data})
				continue
			}
			refuses(t, b, api.ErrForm)
			// Bytes of what stands behind don't count as the data's.
			refuses(t, append(b, data[min(n, len(data)):]...), api.ErrForm)
			again := append(behind("\x01x\x00"+kind+rest+"\x00"+string([]byte{byte(n)})+data), "\x00\x00\x63"+rest+"\x00\x00"...)
			again[7] = 2
			refuses(t, again, api.ErrForm)
		}
	}
	for kind, size := range map[string]int{"\x00\x01": 4, "\x00\x1c": 16} {
		for n := range 20 {
			b := behind("\x01x\x00" + kind + rest + "\x00" + string([]byte{byte(n)}) + text(n))
			if n == size {
				getsOne(t, string(b[12:]), record{Name: "x.", Type: int(kind[1]), TTL: 5, Data: text(n)})
				continue
			}
			refuses(t, b, api.ErrForm)
		}
	}
}

// P18.1: numbers of questions and records that aren't as said.
func TestGetWrongNumbers(t *testing.T) {
	gets(t, asking("\x01x\x00\xff\xff\x00\x01"), message{Ask: []question{{Name: "x.", Type: 65535}}})
	gets(t, asking("\x01x\x00\x01\x00\x00\x01"), message{Ask: []question{{Name: "x.", Type: 256}}})
	for _, numbers := range []string{"\x00\x00\x00\x01", "\x00\x01\x00\x00", "\x00\x01\x00\x02", "\x00\x01\x01\x01", "\x00\x01\x01\x00", "\x00\x01\x00\xff", "\x00\x01\x80\x01"} {
		refuses(t, asking("\x01x\x00"+numbers), api.ErrForm)
		refuses(t, behind("\x01x\x00"+numbers+"\x00\x00\x00\x05\x00\x041234"), api.ErrForm)
	}
	for _, ttl := range []string{"\x80\x00\x00\x00", "\xff\xff\xff\xff", "\x80\x00\x00\x05"} {
		refuses(t, behind("\x01x\x00\x00\x01\x00\x01"+ttl+"\x00\x041234"), api.ErrForm)
	}
	getsOne(t, "\x01x\x00\x00\x01\x00\x01\x7f\xff\xff\xff\x00\x041234", record{Name: "x.", Type: api.A, TTL: 1<<31 - 1, Data: "1234"})
	getsOne(t, "\x01x\x00\x00\x63"+rest+"\x03\xe8"+text(1000), record{Name: "x.", Type: 99, TTL: 5, Data: text(1000)})
	refuses(t, behind("\x01x\x00\x00\x63"+rest+"\x03\xe9"+text(1001)), api.ErrForm)
	refuses(t, behind("\x01x\x00\x00\x63"+rest+"\xff\xff"+text(1000)), api.ErrForm)
	refuses(t, behind("\x01x\x00\x00\x10"+rest+"\x00\x00"), api.ErrForm)
	refuses(t, behind("\x01x\x00\x00\x10"+rest+"\x00\x02\x02a"), api.ErrForm)
	refuses(t, behind("\x01x\x00\x00\x10"+rest+"\x00\x04\x02ab\x01"), api.ErrForm)
}

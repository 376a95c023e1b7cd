package packet_test

import (
	"bytes"
	"encoding/hex"
	"math"
	"math/rand"
	"reflect"
	"strings"
	"testing"

	"rhyne/api"
	"rhyne/packet"
	"rhyne/vlq"
)

const (
	maxNumber  = 1<<62 - 1
	maxVersion = 1<<32 - 1
)

func fromHex(t *testing.T, s string) []byte {
	t.Helper()
	b, err := hex.DecodeString(strings.ReplaceAll(s, " ", ""))
	if err != nil {
		t.Fatal(err)
	}
	return b
}

// roomy is b with spare room behind it that is filled.
func roomy(b []byte) []byte {
	full := append(bytes.Clone(b), strings.Repeat("\xee", 200)...)
	return full[:len(b)]
}

// named is a name of n bytes.
func named(n int) string { return strings.Repeat("n", n) }

// initial and its like are headers in form, of which a test changes a part.
func initial() packet.Header {
	return packet.Header{Kind: packet.Initial, Version: 1, Dst: "abc", Src: "de", Token: "tok", Length: 9, Number: 0x123456, Size: 3}
}

func zeroRTT() packet.Header {
	return packet.Header{Kind: packet.ZeroRTT, Version: 1, Dst: "abc", Src: "de", Length: 9, Number: 0x123456, Size: 3}
}

func handshake() packet.Header {
	h := zeroRTT()
	h.Kind = packet.Handshake
	return h
}

func retry() packet.Header {
	return packet.Header{Kind: packet.Retry, Version: 1, Dst: "abc", Src: "de", Token: "tok"}
}

func short() packet.Header {
	return packet.Header{Kind: packet.Short, Dst: "abc", Number: 0x123456, Size: 3}
}

func versions() packet.Header {
	return packet.Header{Kind: packet.Versions, Dst: "abc", Src: "de", List: []int{1, 2}}
}

func allKinds() []packet.Header {
	return []packet.Header{initial(), zeroRTT(), handshake(), retry(), short(), versions()}
}

// changed is a header with a part changed.
func changed(h packet.Header, change func(*packet.Header)) packet.Header {
	change(&h)
	return h
}

func puts(t *testing.T, h packet.Header, want []byte) {
	t.Helper()
	if b, e := packet.Put(h); e != api.OK || !bytes.Equal(b, want) {
		t.Errorf("Put of %+v: %x, %d; not %x", h, b, e, want)
	}
}

// taken tells whether Put takes a header, or refuses it as it should.
func taken(t *testing.T, h packet.Header, ok bool) {
	t.Helper()
	b, e := packet.Put(h)
	if ok && (e != api.OK || len(b) == 0) || !ok && (e != api.ErrForm || len(b) != 0) {
		t.Errorf("Put of %+v: %x, %d", h, b, e)
	}
}

func gets(t *testing.T, b []byte, own int, want packet.Header, at, end int) {
	t.Helper()
	h, i, j, e := packet.Get(b, own)
	if len(h.List) == 0 && len(want.List) == 0 {
		h.List, want.List = nil, nil
	}
	if e != api.OK || i != at || j != end || !reflect.DeepEqual(h, want) {
		t.Errorf("Get of %x: %+v, %d, %d, %d; not %+v, %d, %d", b, h, i, j, e, want, at, end)
	}
}

func refuses(t *testing.T, b []byte, own int, want api.Errno) {
	t.Helper()
	h, i, j, e := packet.Get(b, own)
	if e != want || i != 0 || j != 0 || !reflect.DeepEqual(h, packet.Header{}) {
		t.Errorf("Get of %x for %d: %+v, %d, %d, %d; not %d", b, own, h, i, j, e, want)
	}
}

// P8.1: the bytes of each kind.
func TestPutOfEachKind(t *testing.T) {
	for _, c := range []struct {
		h    packet.Header
		want string
	}{
		{initial(), "c2 00000001 03 616263 02 6465 03 746f6b 4009 123456"},
		{zeroRTT(), "d2 00000001 03 616263 02 6465 4009 123456"},
		{handshake(), "e2 00000001 03 616263 02 6465 4009 123456"},
		{retry(), "f0 00000001 03 616263 02 6465 746f6b"},
		{short(), "42 616263 123456"},
		{versions(), "c0 00000000 03 616263 02 6465 00000001 00000002"},
		{packet.Header{Kind: packet.Short, Dst: "ab", Number: 258, Size: 1}, "40 6162 02"},
		{packet.Header{Kind: packet.Short, Number: maxNumber, Size: 4, Phase: true}, "47 ffffffff"},
		{packet.Header{Version: maxVersion, Size: 1}, "c0 ffffffff 00 00 00 4000 00"},
		{packet.Header{Version: 0x6b3343cf, Length: 16383, Number: 0x1a2b3c4d5e6f, Size: 4}, "c3 6b3343cf 00 00 00 7fff 3c4d5e6f"},
		{packet.Header{Kind: packet.ZeroRTT, Version: 0x01020304, Length: 63, Number: 0x99ff, Size: 2}, "d1 01020304 00 00 403f 99ff"},
		{packet.Header{Kind: packet.Retry, Version: 256}, "f0 00000100 00 00"},
		{packet.Header{Kind: packet.Versions, List: []int{0, maxVersion}}, "c0 00000000 00 00 00000000 ffffffff"},
	} {
		puts(t, c.h, fromHex(t, c.want))
	}
	long := packet.Header{Version: 1, Dst: named(20), Src: named(20), Token: named(512), Size: 1}
	puts(t, long, []byte("\xc0\x00\x00\x00\x01\x14"+named(20)+"\x14"+named(20)+"\x42\x00"+named(512)+"\x40\x00\x00"))
}

// P8.1: the number's lowest bytes, for each size.
func TestPutOfEachSize(t *testing.T) {
	for size := 1; size <= 4; size++ {
		low := fromHex(t, "a1b2c3d4")[4-size:]
		first := byte(size - 1)
		n := 0x123456a1b2c3d4
		puts(t, changed(short(), func(h *packet.Header) { h.Number, h.Size = n, size }), append([]byte{0x40 | first, 'a', 'b', 'c'}, low...))
		puts(t, changed(short(), func(h *packet.Header) { h.Number, h.Size, h.Phase = n, size, true }), append([]byte{0x44 | first, 'a', 'b', 'c'}, low...))
		front := "\x00\x00\x00\x01\x03abc\x02de"
		puts(t, changed(initial(), func(h *packet.Header) { h.Number, h.Size = n, size }), append([]byte{0xc0 | first}, front+"\x03tok\x40\x09"+string(low)...))
		puts(t, changed(zeroRTT(), func(h *packet.Header) { h.Number, h.Size = n, size }), append([]byte{0xd0 | first}, front+"\x40\x09"+string(low)...))
		puts(t, changed(handshake(), func(h *packet.Header) { h.Number, h.Size = n, size }), append([]byte{0xe0 | first}, front+"\x40\x09"+string(low)...))
	}
}

// P8.1: each part's limits, and one beyond them, in each kind that has the part.
func TestLimitsOfParts(t *testing.T) {
	for _, h := range []packet.Header{initial(), zeroRTT(), handshake()} {
		for n, ok := range map[int]bool{math.MinInt: false, -1: false, 0: true, 1: true, 16383: true, 16384: false, math.MaxInt: false} {
			taken(t, changed(h, func(h *packet.Header) { h.Length = n }), ok)
		}
	}
	for _, h := range []packet.Header{initial(), zeroRTT(), handshake(), short()} {
		for n, ok := range map[int]bool{math.MinInt: false, -1: false, 0: true, maxNumber: true, maxNumber + 1: false, math.MaxInt: false} {
			taken(t, changed(h, func(h *packet.Header) { h.Number = n }), ok)
		}
		for n, ok := range map[int]bool{math.MinInt: false, -1: false, 0: false, 1: true, 4: true, 5: false, 8: false, math.MaxInt: false} {
			taken(t, changed(h, func(h *packet.Header) { h.Size = n }), ok)
		}
	}
	for _, h := range []packet.Header{initial(), zeroRTT(), handshake(), retry()} {
		for n, ok := range map[int]bool{math.MinInt: false, -1: false, 0: false, 1: true, maxVersion: true, maxVersion + 1: false, math.MaxInt: false} {
			taken(t, changed(h, func(h *packet.Header) { h.Version = n }), ok)
		}
	}
	for _, h := range []packet.Header{initial(), retry()} {
		for n, ok := range map[int]bool{0: true, 1: true, 512: true, 513: false, 70000: false} {
			taken(t, changed(h, func(h *packet.Header) { h.Token = named(n) }), ok)
		}
	}
	for _, h := range allKinds() {
		for n, ok := range map[int]bool{0: true, 1: true, 20: true, 21: false, 255: false, 256: false, 276: false} {
			taken(t, changed(h, func(h *packet.Header) { h.Dst = named(n) }), ok)
			taken(t, changed(h, func(h *packet.Header) { h.Src = named(n) }), ok && (h.Kind != packet.Short || n == 0))
		}
	}
}

// P8.1: what a Versions lists.
func TestLimitsOfVersions(t *testing.T) {
	for n, ok := range map[int]bool{0: false, 1: true, 15: true, 16: true, 17: false, 1000: false} {
		taken(t, changed(versions(), func(h *packet.Header) { h.List = make([]int, n) }), ok)
	}
	for n, ok := range map[int]bool{math.MinInt: false, -1: false, 0: true, maxVersion: true, maxVersion + 1: false, math.MaxInt: false} {
		taken(t, changed(versions(), func(h *packet.Header) { h.List = []int{n} }), ok)
		taken(t, changed(versions(), func(h *packet.Header) { h.List = []int{7, 8, n} }), ok)
	}
	taken(t, changed(versions(), func(h *packet.Header) { h.List = nil }), false)
}

// P8.1: a part that isn't the kind's.
func TestPartsOfOtherKinds(t *testing.T) {
	ok := map[string]string{
		"version": "IZHR", "length": "IZH", "number": "IZHS", "size": "IZHS", "phase": "S", "token": "IR", "src": "IZHRV", "list": "V",
	}
	parts := map[string]func(*packet.Header){
		"version": func(h *packet.Header) { h.Version = 3 },
		"length":  func(h *packet.Header) { h.Length = 3 },
		"number":  func(h *packet.Header) { h.Number = 3 },
		"size":    func(h *packet.Header) { h.Size = 3 },
		"phase":   func(h *packet.Header) { h.Phase = true },
		"token":   func(h *packet.Header) { h.Token = "t" },
		"src":     func(h *packet.Header) { h.Src = "s" },
		"list":    func(h *packet.Header) { h.List = []int{3} },
	}
	for i, h := range allKinds() {
		taken(t, h, true)
		taken(t, changed(h, func(h *packet.Header) { h.List = append([]int{}, h.List...) }), true)
		for name, change := range parts {
			taken(t, changed(h, change), strings.Contains(ok[name], "IZHRSV"[i:i+1]))
		}
	}
}

// P8.1: kinds that there aren't.
func TestNoSuchKind(t *testing.T) {
	for _, kind := range []int{math.MinInt, -4, -1, 6, 7, 8, 16, 256, 260, math.MaxInt} {
		for _, h := range append(allKinds(), packet.Header{}) {
			h.Kind = kind
			taken(t, h, false)
		}
	}
	taken(t, packet.Header{}, false)
}

// seen is a header as it is seen without keys.
func seen(h packet.Header) packet.Header {
	h.Number, h.Size, h.Phase = 0, 0, false
	return h
}

// P8.2: what is put is got, but for the number, whatever stands behind.
func TestPutIsGot(t *testing.T) {
	draw := rand.New(rand.NewSource(8))
	for range 3000 {
		h := allKinds()[draw.Intn(6)]
		h.Dst = named(draw.Intn(21))
		if h.Kind != packet.Short {
			h.Src = named(draw.Intn(21))
		}
		if h.Token != "" {
			h.Token = named(draw.Intn(513))
		}
		if h.Size != 0 {
			h.Size = 1 + draw.Intn(4)
			h.Number = draw.Intn(maxNumber)
		}
		if h.Length != 0 {
			h.Length = draw.Intn(16384)
		}
		if h.Version != 0 {
			h.Version = 1 + draw.Intn(maxVersion)
		}
		h.Phase = h.Kind == packet.Short && draw.Intn(2) == 0
		if h.Kind == packet.Versions {
			h.List = draw.Perm(1 + draw.Intn(16))
		}
		b, e := packet.Put(h)
		if e != api.OK {
			t.Fatal(h, e)
		}
		at := len(b) - h.Size
		own := draw.Intn(21)
		switch h.Kind {
		case packet.Short:
			b = append(b, named(draw.Intn(50))...)
			gets(t, b, len(h.Dst), seen(h), at, len(b))
		case packet.Retry, packet.Versions:
			gets(t, b, own, seen(h), len(b), len(b))
		default:
			b = append(b[:at], make([]byte, h.Length+draw.Intn(3))...)
			gets(t, b, own, seen(h), at, at+h.Length)
		}
	}
}

// P8.1: a Short ends where its bytes end; own tells where its number begins.
func TestGetShort(t *testing.T) {
	b := []byte("\x40abcdefghijklmnopqrstuvwxyz")
	for own := range api.MaxId + 1 {
		want := packet.Header{Kind: packet.Short, Dst: string(b[1 : 1+own])}
		for n := 1 + own; n <= len(b); n++ {
			gets(t, b[:n], own, want, 1+own, n)
		}
		for n := 1; n < 1+own; n++ {
			refuses(t, b[:n], own, api.ErrTail)
		}
	}
	for first := 0x40; first < 0x80; first++ {
		gets(t, []byte{byte(first), 'a', 'b', 'c'}, 2, packet.Header{Kind: packet.Short, Dst: "ab"}, 3, 4)
	}
}

// P8.1: the first byte's lowest four bits may be any; of a Versions all but the highest one.
func TestGetOfAnyFirstByte(t *testing.T) {
	for i, h := range []packet.Header{initial(), zeroRTT(), handshake(), retry()} {
		b, _ := packet.Put(h)
		at := len(b) - h.Size
		b = append(b[:at], make([]byte, h.Length)...)
		for low := range 16 {
			b[0] = byte(0xc0 + i<<4 + low)
			gets(t, b, 0, seen(h), at, len(b))
			b[0] &^= 0x40
			refuses(t, b, 0, api.ErrForm)
			b[0] &^= 0x80
			refuses(t, b, 0, api.ErrForm)
		}
	}
	b, _ := packet.Put(versions())
	for first := 0x80; first < 0x100; first++ {
		b[0] = byte(first)
		gets(t, b, 0, versions(), len(b), len(b))
	}
	for first := range 0x40 {
		b[0] = byte(first)
		refuses(t, b, 0, api.ErrForm)
	}
}

// P8.1: Token's count and Length in any size; more bytes behind the packet.
func TestGetOfAnySize(t *testing.T) {
	for _, token := range []string{"03", "4003", "80000003", "c000000000000003"} {
		for _, length := range []string{"04", "4004", "80000004", "c000000000000004"} {
			front := fromHex(t, "c9 00000005 01 61 00"+token+"78797a"+length)
			want := packet.Header{Version: 5, Dst: "a", Token: "xyz", Length: 4}
			gets(t, append(front, "1234"...), 3, want, len(front), len(front)+4)
			gets(t, append(front, "12345678"...), 3, want, len(front), len(front)+4)
			refuses(t, append(front, "123"...), 3, api.ErrTail)
			want = packet.Header{Kind: packet.Handshake, Version: 5, Dst: "a", Length: 4}
			front = fromHex(t, "e9 00000005 01 61 00"+length)
			gets(t, append(front, "1234"...), 3, want, len(front), len(front)+4)
		}
	}
}

// P8.1: bytes that end too soon, wherever they end.
func TestGetTail(t *testing.T) {
	refuses(t, nil, 0, api.ErrTail)
	refuses(t, []byte{}, 20, api.ErrTail)
	for _, h := range []packet.Header{initial(), zeroRTT(), handshake()} {
		b, _ := packet.Put(h)
		b = append(b[:len(b)-3], make([]byte, h.Length)...)
		for n := range b {
			refuses(t, b[:n], 0, api.ErrTail)
		}
		gets(t, b, 0, seen(h), len(b)-h.Length, len(b))
	}
	for _, h := range []packet.Header{retry(), versions()} {
		b, _ := packet.Put(h)
		for n := range 1 + 4 + 1 + 3 + 1 + 2 {
			refuses(t, b[:n], 0, api.ErrTail)
		}
	}
}

// P8.1: a first byte without its second highest bit, ahead of what would be a Versions.
func TestGetNotFixed(t *testing.T) {
	for _, b := range []string{"80", "80 00", "80 00 00 00", "bf 00 00 00", "80 00 00 00 01 00 00", "80 01 00 00 00 00 00", "80 00 01 00 00 00 00", "80 00 00 01 00", "00", "3f", "00 00 00 00 00 00 00 00 00 00 01", "3f 61 62"} {
		refuses(t, fromHex(t, b), 0, api.ErrForm)
	}
	refuses(t, fromHex(t, "80 00 00 00 00"), 0, api.ErrTail)
	refuses(t, fromHex(t, "c0 00 00 00"), 0, api.ErrTail)
}

// P8.1: of what is wrong, what comes first from the front on is told.
func TestGetErrorsInOrder(t *testing.T) {
	for _, c := range []struct {
		b    string
		want api.Errno
	}{
		{"c0 00000001 15", api.ErrForm},
		{"c0 00000001 ff", api.ErrForm},
		{"c0 00000001 14 61", api.ErrTail},
		{"c0 00000001 02 61", api.ErrTail},
		{"c0 00000001 00 15", api.ErrForm},
		{"c0 00000001 01 61 15 62", api.ErrForm},
		{"c0 00000001 01 61 14 62", api.ErrTail},
		{"c0 00000000 15", api.ErrForm},
		{"f0 00000001 00 15", api.ErrForm},
		{"c0 00000001 00 00 42", api.ErrTail},
		{"c0 00000001 00 00 4201", api.ErrForm},
		{"c0 00000001 00 00 4200", api.ErrTail},
		{"c0 00000001 00 00 80010000", api.ErrForm},
		{"c0 00000001 00 00 ffffffffffffffff", api.ErrForm},
		{"c0 00000001 00 00 00 80", api.ErrTail},
		{"c0 00000001 00 00 00 80004000", api.ErrForm},
		{"c0 00000001 00 00 00 ffffffffffffffff", api.ErrForm},
		{"c0 00000001 00 00 00 7fff 00", api.ErrTail},
		{"c0 00000001 00 00 00 01", api.ErrTail},
		{"e0 00000001 00 00 80004000", api.ErrForm},
		{"d0 00000001 00 00 4001", api.ErrTail},
	} {
		refuses(t, fromHex(t, c.b), 0, c.want)
	}
	front := fromHex(t, "c0 00000001 00 00")
	refuses(t, append(append(front, 0x42, 1), make([]byte, 600)...), 0, api.ErrForm)
	gets(t, append(append(front, 0x42, 0), make([]byte, 513)...), 0, packet.Header{Version: 1, Token: strings.Repeat("\x00", 512)}, 9+512+1, 9+512+1)
	gets(t, append(append(front, 0, 0x7f, 0xff), make([]byte, 16383)...), 0, packet.Header{Version: 1, Length: 16383}, 10, 10+16383)
	refuses(t, append(append(front, 0, 0x7f, 0xff), make([]byte, 16382)...), 0, api.ErrTail)
	refuses(t, append(append(front, 0, 0x80, 0, 0x40, 0), make([]byte, 20000)...), 0, api.ErrForm)
}

// P8.1: a Retry's bytes behind the names are its Token.
func TestGetRetry(t *testing.T) {
	front := "\xff\x00\x00\x00\x09\x01d\x02sr"
	for _, n := range []int{0, 1, 511, 512} {
		want := packet.Header{Kind: packet.Retry, Version: 9, Dst: "d", Src: "sr", Token: named(n)}
		gets(t, []byte(front+named(n)), 4, want, len(front)+n, len(front)+n)
	}
	for _, n := range []int{513, 514, 70000} {
		refuses(t, []byte(front+named(n)), 4, api.ErrForm)
	}
}

// P8.1: a Versions' bytes behind the names are whole versions, 1 to 16.
func TestGetVersions(t *testing.T) {
	front := "\x80\x00\x00\x00\x00\x01d\x02sr"
	for n := range 80 {
		b := []byte(front)
		var list []int
		for i := range n {
			b = append(b, byte(200+i))
			if i%4 == 3 {
				list = append(list, int(b[len(b)-4])<<24|int(b[len(b)-3])<<16|int(b[len(b)-2])<<8|int(b[len(b)-1]))
			}
		}
		if n%4 != 0 || n == 0 || n > 64 {
			refuses(t, b, 9, api.ErrForm)
			continue
		}
		gets(t, b, 9, packet.Header{Kind: packet.Versions, Dst: "d", Src: "sr", List: list}, len(b), len(b))
	}
	refuses(t, append([]byte(front), make([]byte, 4000)...), 9, api.ErrForm)
}

// P8.1: own is looked at first.
func TestGetOwn(t *testing.T) {
	for _, own := range []int{math.MinInt, -1, 21, 256, math.MaxInt} {
		for _, b := range []string{"", "00", "40 61", "c0 00000001 15", "80 00000000 00 00 00000001", "4061626364656667686970717273747576777879808182838485"} {
			refuses(t, fromHex(t, b), own, api.ErrArg)
		}
	}
	for _, own := range []int{0, 20} {
		b, _ := packet.Put(versions())
		gets(t, b, own, versions(), len(b), len(b))
	}
}

// P8.1: Bytes, of examples (RFC 9000, appendix A.2), of edges, and of wrong numbers.
func TestBytes(t *testing.T) {
	for _, c := range []struct {
		number, acked, want int
		e                   api.Errno
	}{
		{0xac5c02, 0xabe8b3, 2, api.OK},
		{0xace8fe, 0xabe8b3, 3, api.OK},
		{0, -1, 1, api.OK},
		{126, -1, 1, api.OK},
		{127, -1, 2, api.OK},
		{1000 + 127, 1000, 1, api.OK},
		{1000 + 128, 1000, 2, api.OK},
		{1000 + 1<<15 - 1, 1000, 2, api.OK},
		{1000 + 1<<15, 1000, 3, api.OK},
		{1000 + 1<<23 - 1, 1000, 3, api.OK},
		{1000 + 1<<23, 1000, 4, api.OK},
		{1000 + 1<<31 - 1, 1000, 4, api.OK},
		{1000 + 1<<31, 1000, 0, api.ErrBig},
		{1<<31 - 2, -1, 4, api.OK},
		{1<<31 - 1, -1, 0, api.ErrBig},
		{maxNumber, maxNumber - 1, 1, api.OK},
		{maxNumber, -1, 0, api.ErrBig},
		{maxNumber, 0, 0, api.ErrBig},
		{maxNumber + 1, maxNumber, 0, api.ErrArg},
		{math.MaxInt, -1, 0, api.ErrArg},
		{math.MaxInt, maxNumber, 0, api.ErrArg},
		{0, 0, 0, api.ErrArg},
		{-1, -1, 0, api.ErrArg},
		{4, 5, 0, api.ErrArg},
		{5, -2, 0, api.ErrArg},
		{-1, -2, 0, api.ErrArg},
		{0, math.MinInt, 0, api.ErrArg},
		{math.MaxInt, math.MinInt, 0, api.ErrArg},
		{math.MinInt, math.MaxInt, 0, api.ErrArg},
	} {
		if n, e := packet.Bytes(c.number, c.acked); n != c.want || e != c.e {
			t.Error(c, n, e)
		}
	}
}

// nearest is the number nearest to expected with those lowest bytes; of two as near, the greater.
func nearest(low, size, expected int) int {
	window := 1 << (8 * size)
	same := expected&^(window-1) | low
	best := same
	for _, n := range []int{same - window, same + window} {
		if n < 0 || n > maxNumber {
			continue
		}
		far, least := max(n-expected, expected-n), max(best-expected, expected-best)
		if far < least || far == least && n > best {
			best = n
		}
	}
	return best
}

// P8.1: Whole, of an example (RFC 9000, appendix A.3), and of all low bytes about many expected numbers.
func TestWhole(t *testing.T) {
	if n, e := packet.Whole(0x9b32, 2, 0xa82f30eb); n != 0xa82f9b32 || e != api.OK {
		t.Errorf("%x %d", n, e)
	}
	for size := 1; size <= 4; size++ {
		window := 1 << (8 * size)
		for _, base := range []int{0, window, 5 * window, 1 << 40, maxNumber + 1 - 2*window, maxNumber + 1 - window} {
			for _, off := range []int{0, 1, 2, window/2 - 1, window / 2, window/2 + 1, window - 2, window - 1} {
				for _, low := range []int{0, 1, 2, 77, window/2 - 2, window/2 - 1, window / 2, window/2 + 1, window/2 + 2, window - 2, window - 1} {
					if n, e := packet.Whole(low, size, base+off); n != nearest(low, size, base+off) || e != api.OK {
						t.Errorf("%x in %d, expected %x: %x, %d", low, size, base+off, n, e)
					}
				}
			}
		}
	}
	for expected := range 1200 {
		for low := range 256 {
			if n, e := packet.Whole(low, 1, expected); n != nearest(low, 1, expected) || e != api.OK {
				t.Error(low, expected, n, e)
			}
		}
	}
}

// P8.1: Whole, just where it goes over to another window, and where there is none.
func TestWholeOfEdges(t *testing.T) {
	for _, c := range []struct{ low, size, expected, want int }{
		{0, 1, 127, 0},
		{0, 1, 128, 256},
		{1, 1, 128, 1},
		{128, 1, 256, 384},
		{129, 1, 256, 129},
		{129, 1, 0, 129},
		{255, 1, 126, 255},
		{255, 1, 256, 255},
		{0, 1, maxNumber, maxNumber - 255},
		{0, 2, maxNumber, maxNumber - 65535},
		{0, 4, maxNumber, maxNumber - maxVersion},
		{255, 1, maxNumber, maxNumber},
		{0, 1, maxNumber - 256, maxNumber - 255},
		{maxVersion, 4, 0, maxVersion},
		{maxVersion, 4, 1 << 32, maxVersion},
	} {
		if n, e := packet.Whole(c.low, c.size, c.expected); n != c.want || e != api.OK {
			t.Error(c, n, e)
		}
	}
}

// P8.1: Whole, of wrong numbers.
func TestWholeOfWrongNumbers(t *testing.T) {
	for _, c := range []struct{ low, size, expected int }{
		{0, 0, 5}, {0, 5, 5}, {0, -1, 5}, {0, 8, 5}, {0, math.MaxInt, 5}, {0, math.MinInt, 5},
		{-1, 1, 5}, {256, 1, 5}, {65536, 2, 5}, {1 << 24, 3, 5}, {1 << 32, 4, 5}, {math.MinInt, 4, 5}, {math.MaxInt, 4, 5},
		{0, 1, -1}, {0, 1, maxNumber + 1}, {0, 1, math.MinInt}, {0, 4, math.MaxInt},
	} {
		if n, e := packet.Whole(c.low, c.size, c.expected); n != 0 || e != api.ErrArg {
			t.Error(c, n, e)
		}
	}
}

// P8.3: as many bytes as Bytes says tell the number to who got all up to the acked one.
func TestBytesTellTheNumber(t *testing.T) {
	told := func(number, acked int) {
		size, e := packet.Bytes(number, acked)
		if e == api.ErrBig && number-acked >= 1<<31 {
			return
		}
		n, f := packet.Whole(number&(1<<(8*size)-1), size, acked+1)
		if e != api.OK || f != api.OK || n != number {
			t.Errorf("%d behind %d: %d, %d, %d", number, acked, n, e, f)
		}
		if size > 1 && (number-acked)*2 < 1<<(8*size-8) {
			t.Errorf("%d behind %d: not the least", number, acked)
		}
	}
	for acked := -1; acked < 600; acked++ {
		for number := acked + 1; number < acked+700; number++ {
			told(number, acked)
		}
	}
	draw := rand.New(rand.NewSource(83))
	for range 20000 {
		acked := draw.Intn(maxNumber)>>draw.Intn(62) - 1
		for _, far := range []int{1 + draw.Intn(1<<31), 127, 128, 1<<15 - 1, 1 << 15, 1<<23 - 1, 1 << 23, 1<<31 - 1} {
			if acked+far <= maxNumber {
				told(acked+far, acked)
			}
		}
		told(maxNumber, maxNumber-1-draw.Intn(1<<20))
	}
}

// P8.3: and not beyond it: who got less may be told another number.
func TestBytesTellNoMore(t *testing.T) {
	size, _ := packet.Bytes(1127, 1000)
	if n, _ := packet.Whole(1127&255, size, 990); size != 1 || n == 1127 {
		t.Error(size, n)
	}
}

// P8.4: what is handed in isn't changed, nor its spare room.
func TestArgumentsStay(t *testing.T) {
	list := []int{1, 2, 3, 4}
	h := changed(versions(), func(h *packet.Header) { h.List = list[:2] })
	b, e := packet.Put(h)
	if e != api.OK || !reflect.DeepEqual(list, []int{1, 2, 3, 4}) {
		t.Error("Put", list, e)
	}
	for _, h := range allKinds() {
		b, _ = packet.Put(h)
		b = roomy(append(b[:len(b)-h.Size], make([]byte, h.Length)...))
		held := string(b[:cap(b)])
		packet.Get(b, 3)
		if string(b[:cap(b)]) != held {
			t.Error("Get", h.Kind)
		}
	}
}

// P8.4: what is handed in isn't kept, and answers are new memory.
func TestAnswersAreNew(t *testing.T) {
	for _, h := range allKinds() {
		b, _ := packet.Put(h)
		want := bytes.Clone(b)
		at := len(b) - h.Size
		whole := append(bytes.Clone(b[:at]), make([]byte, h.Length)...)
		got, _, _, e := packet.Get(whole, 3)
		clear(whole)
		if e != api.OK || got.Dst != h.Dst || got.Src != h.Src || got.Token != h.Token || len(got.List) != len(h.List) {
			t.Error("Get", h.Kind, got, e)
		}
		clear(b[:cap(b)])
		puts(t, h, want)
	}
	list := []int{1, 2}
	h := changed(versions(), func(h *packet.Header) { h.List = list })
	b, _ := packet.Put(h)
	clear(list)
	gets(t, b, 0, versions(), len(b), len(b))
	one, _, _, _ := packet.Get(b, 0)
	clear(one.List)
	gets(t, b, 0, versions(), len(b), len(b))
}

// P1: Get answers for any bytes, and what it answers is there.
func TestAnyBytes(t *testing.T) {
	draw := rand.New(rand.NewSource(88))
	for range 50000 {
		b := make([]byte, draw.Intn(60))
		draw.Read(b)
		if len(b) > 8 && draw.Intn(4) != 0 {
			b[0] |= 0xc0
			b[5], b[6] = byte(draw.Intn(3)), byte(draw.Intn(3))
		}
		if len(b) > 8 && draw.Intn(4) == 0 {
			clear(b[1:5])
		}
		h, at, end, e := packet.Get(b, draw.Intn(23)-1)
		if e != api.OK {
			if at != 0 || end != 0 || !reflect.DeepEqual(h, packet.Header{}) {
				t.Errorf("Get of %x: %+v, %d, %d, %d", b, h, at, end, e)
			}
			continue
		}
		if at < 1 || at > end || end > len(b) {
			t.Errorf("Get of %x: %d, %d", b, at, end)
		}
		if h.Kind != packet.Retry && h.Kind != packet.Versions {
			h.Size = 1
		}
		again, e := packet.Put(h)
		if e != api.OK {
			t.Errorf("Put of %+v: %d", h, e)
		}
		again = append(again[:len(again)-h.Size], make([]byte, h.Length)...)
		g, _, _, e := packet.Get(again, len(h.Dst))
		h.Size = 0
		if e != api.OK || !reflect.DeepEqual(g, h) {
			t.Errorf("%+v, %+v, %d", g, h, e)
		}
	}
}

// P8.2: a Token's count of two bytes, as vlq has it.
func TestTokenIsText(t *testing.T) {
	token, _ := vlq.Text(named(100))
	want := append(fromHex(t, "c0 00000001 00 00"), token...)
	puts(t, packet.Header{Version: 1, Token: named(100), Size: 1, Number: 5}, append(want, 0x40, 0, 5))
}

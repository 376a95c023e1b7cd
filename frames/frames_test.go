package frames_test

import (
	"bytes"
	"encoding/hex"
	"math"
	"math/rand"
	"reflect"
	"slices"
	"strings"
	"testing"

	"rhyne/api"
	"rhyne/frames"
	"rhyne/vlq"
)

// short forms of the types, as the tests have many of them.
type (
	frame = frames.Frame
	spans = []frames.Span
)

const (
	maxNumber = 1<<62 - 1
	most      = "ffffffffffffffff"
)

func fromHex(t *testing.T, s string) []byte {
	t.Helper()
	b, err := hex.DecodeString(strings.ReplaceAll(s, " ", ""))
	if err != nil {
		t.Fatal(err)
	}
	return b
}

// roomy is b with spare room behind it that is filled.
func roomy(b []byte) []byte {
	full := append(bytes.Clone(b), strings.Repeat("\xee", 200)...)
	return full[:len(b)]
}

// text is n bytes.
func text(n int) string { return strings.Repeat("t", n) }

func same(f, g frame) bool {
	if len(f.Acks) == 0 && len(g.Acks) == 0 {
		f.Acks, g.Acks = nil, nil
	}
	return reflect.DeepEqual(f, g)
}

func puts(t *testing.T, f frame, want []byte) {
	t.Helper()
	if b, e := frames.Put(f); e != api.OK || !bytes.Equal(b, want) {
		t.Errorf("Put of %+v: %x, %d; not %x", f, b, e, want)
	}
}

func gets(t *testing.T, b []byte, want frame, size int) {
	t.Helper()
	if f, n, e := frames.Get(b); e != api.OK || n != size || !same(f, want) {
		t.Errorf("Get of %x: %+v, %d, %d; not %+v, %d", b, f, n, e, want, size)
	}
}

func refuses(t *testing.T, b []byte, want api.Errno) {
	t.Helper()
	if f, n, e := frames.Get(b); e != want || n != 0 || !reflect.DeepEqual(f, frame{}) {
		t.Errorf("Get of %x: %+v, %d, %d; not %d", b[:min(len(b), 99)], f, n, e, want)
	}
}

// taken tells whether Put takes a frame, or refuses it as it should.
func taken(t *testing.T, f frame, ok bool) {
	t.Helper()
	b, e := frames.Put(f)
	if ok && (e != api.OK || len(b) == 0) || !ok && (e != api.ErrForm || len(b) != 0) {
		f.Data = f.Data[:min(len(f.Data), 99)]
		t.Errorf("Put of %+v: %d bytes, %d", f, len(b), e)
	}
	if !ok {
		return
	}
	if g, n, e := frames.Get(b); e != api.OK || n != len(b) || !same(f, g) {
		t.Errorf("Get of the Put of kind %d: %d, %d", f.Kind, n, e)
	}
}

// known is a frame and its bytes.
type known struct {
	f frame
	b string
}

// allKinds is a frame of each kind, all of whose parts stand in bytes.
func allKinds() []known {
	return []known{
		{frame{Kind: frames.Padding, N: 3}, "00 00 00"},
		{frame{Kind: frames.Ping}, "01"},
		{frame{Kind: frames.Ack, N: 1, Acks: spans{{9, 10}, {3, 5}}}, "02 0a 01 01 01 02 02"},
		{frame{Kind: frames.Reset, Stream: 4, Code: 300, Off: 70000}, "04 04 412c 80011170"},
		{frame{Kind: frames.Stop, Stream: 5, Code: 64}, "05 05 4040"},
		{frame{Kind: frames.Crypto, Off: 6, Data: "abc"}, "06 06 03 616263"},
		{frame{Kind: frames.Token, Data: "tok"}, "07 03 746f6b"},
		{frame{Kind: frames.Stream, Stream: 4, Off: 9, Data: "ab", Fin: true}, "0f 04 09 02 6162"},
		{frame{Kind: frames.MaxData, N: 65536}, "10 80010000"},
		{frame{Kind: frames.MaxStream, Stream: 8, N: 100}, "11 08 4064"},
		{frame{Kind: frames.MaxStreams, N: 32}, "12 20"},
		{frame{Kind: frames.Blocked, N: 7}, "14 07"},
		{frame{Kind: frames.StreamStuck, Stream: 12, N: 9}, "15 0c 09"},
		{frame{Kind: frames.StreamsFull, N: 33}, "16 21"},
		{frame{Kind: frames.NewId, N: 2, Off: 1, Data: "name", Extra: "0123456789abcdef"}, "18 02 01 04 6e616d65 30313233343536373839616263646566"},
		{frame{Kind: frames.Retire, N: 3}, "19 03"},
		{frame{Kind: frames.Challenge, Data: "12345678"}, "1a 3132333435363738"},
		{frame{Kind: frames.Response, Data: "87654321"}, "1b 3837363534333231"},
		{frame{Kind: frames.Close, Code: 257, N: 6, Data: "why"}, "1c 4101 06 03 776879"},
		{frame{Kind: frames.AppClose, Code: 2, Data: "bye"}, "1d 02 03 627965"},
		{frame{Kind: frames.Done}, "1e"},
	}
}

// P9.1, P9.2: the bytes of each kind, and the frames of these.
func TestEachKind(t *testing.T) {
	for _, c := range allKinds() {
		b := fromHex(t, c.b)
		puts(t, c.f, b)
		gets(t, b, c.f, len(b))
		gets(t, append(b, 1, 0, 7), c.f, len(b))
	}
}

// P9.1: a kind's parts at their least, and the chapter's examples.
func TestLeastParts(t *testing.T) {
	for _, c := range []known{
		{frame{N: 1}, "00"},
		{frame{Kind: frames.Ack, Acks: spans{{}}}, "02 00 00 00 00"},
		{frame{Kind: frames.Ack, Acks: spans{{2, 2}, {0, 0}}}, "02 02 00 01 00 00 00"},
		{frame{Kind: frames.Reset}, "04 00 00 00"},
		{frame{Kind: frames.Stop}, "05 00 00"},
		{frame{Kind: frames.Crypto}, "06 00 00"},
		{frame{Kind: frames.Token, Data: "\x00"}, "07 01 00"},
		{frame{Kind: frames.Stream}, "0a 00 00"},
		{frame{Kind: frames.Stream, Fin: true}, "0b 00 00"},
		{frame{Kind: frames.Stream, Off: 1}, "0e 00 01 00"},
		{frame{Kind: frames.Stream, Off: 1, Fin: true}, "0f 00 01 00"},
		{frame{Kind: frames.Stream, Stream: 4, Data: "ab", Fin: true}, "0b 04 02 6162"},
		{frame{Kind: frames.MaxData}, "10 00"},
		{frame{Kind: frames.MaxStream}, "11 00 00"},
		{frame{Kind: frames.MaxStreams}, "12 00"},
		{frame{Kind: frames.NewId, Data: "n", Extra: text(16)}, "18 00 00 01 6e" + strings.Repeat("74", 16)},
		{frame{Kind: frames.Close}, "1c 00 00 00"},
		{frame{Kind: frames.AppClose}, "1d 00 00"},
	} {
		b := fromHex(t, c.b)
		puts(t, c.f, b)
		gets(t, b, c.f, len(b))
	}
}

// P9.1: spans, each told by how far it is from the one ahead.
func TestAcks(t *testing.T) {
	for _, c := range []known{
		{frame{Kind: frames.Ack, N: maxNumber, Acks: spans{{0, maxNumber}}}, "02" + most + most + "00" + most},
		{frame{Kind: frames.Ack, Acks: spans{{maxNumber, maxNumber}, {0, 5}}}, "02" + most + "00 01 00 fffffffffffffff8 05"},
		{frame{Kind: frames.Ack, N: 3, Acks: spans{{100, 163}, {98, 98}, {60, 90}, {0, 57}}}, "02 40a3 03 03 3f 00 00 06 1e 01 39"},
	} {
		b := fromHex(t, c.b)
		puts(t, c.f, b)
		gets(t, b, c.f, len(b))
	}
	var l spans
	for i := range api.MaxRanges + 1 {
		taken(t, frame{Kind: frames.Ack, Acks: l}, i != 0)
		l = append(spans{{10 + 5*i, 12 + 5*i}}, l...)
	}
	taken(t, frame{Kind: frames.Ack, Acks: l}, false)
	taken(t, frame{Kind: frames.Ack, Acks: l[1:]}, true)
	taken(t, frame{Kind: frames.Ack, Acks: spans{}}, false)
}

// P9.1: spans that aren't in form.
func TestWrongAcks(t *testing.T) {
	for _, l := range []spans{
		{{-1, 5}}, {{-1, -1}}, {{6, 5}}, {{1, 0}}, {{5, maxNumber + 1}}, {{maxNumber + 1, maxNumber + 1}},
		{{math.MinInt, 5}}, {{0, math.MaxInt}}, {{math.MinInt, math.MaxInt}}, {{math.MaxInt, math.MinInt}},
		{{5, 9}, {4, 4}}, {{5, 9}, {3, 4}}, {{5, 9}, {5, 5}}, {{5, 9}, {11, 12}}, {{5, 9}, {5, 9}},
		{{5, 9}, {-1, 3}}, {{5, 9}, {3, 2}}, {{0, 9}, {0, 0}}, {{1, 9}, {0, 0}}, {{1, 9}, {-1, -1}},
		{{20, 30}, {10, 15}, {9, 9}}, {{20, 30}, {10, 15}, {5, 9}}, {{20, 30}, {10, 15}, {8, 7}},
		{{5, 9}, {3, math.MaxInt}}, {{5, 9}, {math.MinInt, 3}}, {{5, 9}, {0, 3}, {math.MinInt, math.MinInt}},
	} {
		taken(t, frame{Kind: frames.Ack, Acks: l}, false)
	}
	for _, l := range []spans{{{5, 9}, {3, 3}}, {{5, 9}, {0, 3}}, {{2, 9}, {0, 0}}, {{20, 30}, {10, 15}, {8, 8}}} {
		taken(t, frame{Kind: frames.Ack, Acks: l}, true)
	}
}

// P9.1: each number's limits, in each kind that has it.
func TestLimitsOfNumbers(t *testing.T) {
	limits := map[int]bool{math.MinInt: false, -1: false, 0: true, 1: true, 63: true, maxNumber: true, maxNumber + 1: false, math.MaxInt: false}
	for n, ok := range limits {
		for _, kind := range []int{frames.MaxData, frames.Blocked, frames.Retire, frames.MaxStream, frames.StreamStuck, frames.Close} {
			taken(t, frame{Kind: kind, N: n}, ok)
		}
		taken(t, frame{Kind: frames.Ack, N: n, Acks: spans{{1, 2}}}, ok)
		for _, kind := range []int{frames.Reset, frames.Stop, frames.Stream, frames.MaxStream, frames.StreamStuck} {
			taken(t, frame{Kind: kind, Stream: n}, ok)
		}
		for _, kind := range []int{frames.Reset, frames.Stop, frames.Close, frames.AppClose} {
			taken(t, frame{Kind: kind, Code: n}, ok)
		}
		for _, kind := range []int{frames.Reset, frames.Crypto, frames.Stream} {
			taken(t, frame{Kind: kind, Off: n}, ok)
		}
		taken(t, frame{Kind: frames.NewId, N: maxNumber, Off: n, Data: "n", Extra: text(16)}, ok)
		taken(t, frame{Kind: frames.NewId, N: n, Data: "n", Extra: text(16)}, ok)
	}
	for n, ok := range map[int]bool{-1: false, 0: true, 1 << 60: true, 1<<60 + 1: false, maxNumber: false, math.MaxInt: false, math.MinInt: false} {
		taken(t, frame{Kind: frames.MaxStreams, N: n}, ok)
		taken(t, frame{Kind: frames.StreamsFull, N: n}, ok)
	}
	for n, ok := range map[int]bool{-1: false, 0: false, 1: true, 2: true, 65535: true, 65536: false, math.MaxInt: false, math.MinInt: false} {
		taken(t, frame{N: n}, ok)
	}
	for n, ok := range map[int]bool{0: true, 6: true, 7: true, 8: false, 1 << 40: false} {
		taken(t, frame{Kind: frames.NewId, N: 7, Off: n, Data: "n", Extra: text(16)}, ok)
	}
}

// P9.1: how many bytes Data and Extra have.
func TestLimitsOfData(t *testing.T) {
	for n, ok := range map[int]bool{0: true, 1: true, 63: true, 64: true, 16384: true, 65535: true, 65536: false, 1 << 20: false} {
		for _, kind := range []int{frames.Crypto, frames.Stream, frames.Close, frames.AppClose} {
			taken(t, frame{Kind: kind, Data: text(n)}, ok)
		}
		taken(t, frame{Kind: frames.Token, Data: text(n)}, ok && n != 0)
		for _, kind := range []int{frames.Crypto, frames.Stream} {
			taken(t, frame{Kind: kind, Data: text(n), Off: maxNumber - n}, ok)
			taken(t, frame{Kind: kind, Data: text(n), Off: maxNumber - n + 1}, false)
		}
	}
	for n, ok := range map[int]bool{0: false, 1: true, 8: true, 20: true, 21: false, 255: false, 257: false, 65536: false} {
		taken(t, frame{Kind: frames.NewId, Data: text(n), Extra: text(16)}, ok)
	}
	taken(t, frame{Kind: frames.NewId, N: maxNumber, Off: maxNumber, Data: text(20), Extra: text(16)}, true)
	for n, ok := range map[int]bool{0: false, 15: false, 16: true, 17: false, 32: false} {
		taken(t, frame{Kind: frames.NewId, Data: "n", Extra: text(n)}, ok)
	}
	for n, ok := range map[int]bool{0: false, 7: false, 8: true, 9: false, 16: false} {
		taken(t, frame{Kind: frames.Challenge, Data: text(n)}, ok)
		taken(t, frame{Kind: frames.Response, Data: text(n)}, ok)
	}
}

// P9.1: kinds that there aren't; a Stream's other first bytes among them.
func TestNoSuchKind(t *testing.T) {
	kinds := map[int]bool{}
	for _, c := range allKinds() {
		kinds[c.f.Kind] = true
	}
	for kind := range 600 {
		if kinds[kind] {
			continue
		}
		taken(t, frame{Kind: kind}, false)
		taken(t, frame{Kind: kind, N: 1}, false)
		taken(t, frame{Kind: kind, Stream: 1, N: 1, Data: "a"}, false)
		taken(t, frame{Kind: kind, Stream: 1, Data: "a"}, false)
		if kind < 256 && (kind < 8 || kind > 15) {
			refuses(t, []byte{byte(kind)}, api.ErrForm)
			refuses(t, append([]byte{byte(kind)}, make([]byte, 40)...), api.ErrForm)
		}
	}
	for _, kind := range []int{-1, -8, -248, -256, 1 << 32, 1<<32 + 1, math.MinInt, math.MaxInt} {
		taken(t, frame{Kind: kind}, false)
	}
	// A kind is one byte, so that one told as a number of more bytes is none.
	refuses(t, fromHex(t, "40 01"), api.ErrForm)
}

// P9.1: a part that doesn't count must be nought.
func TestPartsThatDontCount(t *testing.T) {
	has := map[int]string{
		frames.Padding: "N", frames.Ack: "NA", frames.Reset: "SCO", frames.Stop: "SC", frames.Crypto: "OD", frames.Token: "D",
		frames.Stream: "SOFD", frames.MaxData: "N", frames.MaxStream: "SN", frames.MaxStreams: "N", frames.Blocked: "N",
		frames.StreamStuck: "SN", frames.StreamsFull: "N", frames.NewId: "NODE", frames.Retire: "N",
		frames.Challenge: "D", frames.Response: "D", frames.Close: "CND", frames.AppClose: "CD",
	}
	for _, c := range allKinds() {
		for part, change := range map[string]func(*frame){
			"S": func(f *frame) { f.Stream = 1 },
			"O": func(f *frame) { f.Off = 1 },
			"N": func(f *frame) { f.N = 1 },
			"C": func(f *frame) { f.Code = 1 },
			"F": func(f *frame) { f.Fin = true },
			"D": func(f *frame) { f.Data = "abcdefgh" },
			"E": func(f *frame) { f.Extra = "fedcba9876543210" },
			"A": func(f *frame) { f.Acks = spans{{1, 2}} },
		} {
			f := c.f
			change(&f)
			taken(t, f, strings.Contains(has[f.Kind], part))
		}
		f := c.f
		f.Acks = append(spans{}, f.Acks...)
		taken(t, f, true)
		f.Stream, f.Off, f.N, f.Code = -1, -1, -1, -1
		taken(t, f, false)
	}
}

// P9.1: numbers of any size, behind every kind.
func TestGetOfAnySize(t *testing.T) {
	sizes := []int{1, 2, 4, 8}
	in := func(size int, l ...int) string {
		var b []byte
		for _, n := range l {
			p, e := vlq.PutIn(n, size)
			if e != api.OK {
				t.Fatal(n, size)
			}
			b = append(b, p...)
		}
		return string(b)
	}
	for _, s := range sizes {
		for _, c := range []struct {
			b string
			f frame
		}{
			{"\x02" + in(s, 10, 1, 1, 1, 2, 2), frame{Kind: frames.Ack, N: 1, Acks: spans{{9, 10}, {3, 5}}}},
			{"\x04" + in(s, 1, 2, 3), frame{Kind: frames.Reset, Stream: 1, Code: 2, Off: 3}},
			{"\x05" + in(s, 1, 2), frame{Kind: frames.Stop, Stream: 1, Code: 2}},
			{"\x06" + in(s, 1, 2) + "ab", frame{Kind: frames.Crypto, Off: 1, Data: "ab"}},
			{"\x07" + in(s, 2) + "ab", frame{Kind: frames.Token, Data: "ab"}},
			{"\x0e" + in(s, 1, 2, 2) + "ab", frame{Kind: frames.Stream, Stream: 1, Off: 2, Data: "ab"}},
			{"\x10" + in(s, 1), frame{Kind: frames.MaxData, N: 1}},
			{"\x11" + in(s, 1, 2), frame{Kind: frames.MaxStream, Stream: 1, N: 2}},
			{"\x12" + in(s, 1), frame{Kind: frames.MaxStreams, N: 1}},
			{"\x18" + in(s, 2, 1) + "\x01n" + text(16), frame{Kind: frames.NewId, N: 2, Off: 1, Data: "n", Extra: text(16)}},
			{"\x1c" + in(s, 1, 2, 2) + "ab", frame{Kind: frames.Close, Code: 1, N: 2, Data: "ab"}},
			{"\x1d" + in(s, 1, 2) + "ab", frame{Kind: frames.AppClose, Code: 1, Data: "ab"}},
		} {
			gets(t, []byte(c.b), c.f, len(c.b))
			gets(t, []byte(c.b+"zz"), c.f, len(c.b))
		}
	}
}

// P9.1: a Stream's first byte, whatever it tells.
func TestGetStream(t *testing.T) {
	for _, c := range []struct {
		b    string
		f    frame
		size int
	}{
		{"08 04 72657374", frame{Stream: 4, Data: "rest"}, 6},
		{"08 04", frame{Stream: 4}, 2},
		{"09 04 72657374", frame{Stream: 4, Data: "rest", Fin: true}, 6},
		{"0a 04 02 72657374", frame{Stream: 4, Data: "re"}, 5},
		{"0b 04 02 72657374", frame{Stream: 4, Data: "re", Fin: true}, 5},
		{"0c 04 02 72657374", frame{Stream: 4, Off: 2, Data: "rest"}, 7},
		{"0d 04 02 72657374", frame{Stream: 4, Off: 2, Data: "rest", Fin: true}, 7},
		{"0e 04 02 03 72657374", frame{Stream: 4, Off: 2, Data: "res"}, 7},
		{"0f 04 02 03 72657374", frame{Stream: 4, Off: 2, Data: "res", Fin: true}, 7},
		{"0c 04 00 72", frame{Stream: 4, Data: "r"}, 4},
		{"0e 04 00 01 72", frame{Stream: 4, Data: "r"}, 5},
		{"0f 04 4000 00", frame{Stream: 4, Fin: true}, 5},
	} {
		c.f.Kind = frames.Stream
		gets(t, fromHex(t, c.b), c.f, c.size)
	}
	long := append([]byte{8, 4}, make([]byte, 65536)...)
	refuses(t, long, api.ErrForm)
	gets(t, long[:len(long)-1], frame{Kind: frames.Stream, Stream: 4, Data: strings.Repeat("\x00", 65535)}, len(long)-1)
}

// P9.1: a Padding is all the noughts that follow one another, the first 65535.
func TestGetPadding(t *testing.T) {
	gets(t, fromHex(t, "00"), frame{N: 1}, 1)
	gets(t, fromHex(t, "00 00 01 00"), frame{N: 2}, 2)
	for _, n := range []int{65534, 65535} {
		gets(t, make([]byte, n), frame{N: n}, n)
		gets(t, append(make([]byte, n), 1), frame{N: n}, n)
	}
	for _, n := range []int{65536, 65537, 200000} {
		gets(t, make([]byte, n), frame{N: 65535}, 65535)
	}
	l, e := frames.All(append(make([]byte, 65535*2+1), 1))
	want := []frame{{N: 65535}, {N: 65535}, {N: 1}, {Kind: frames.Ping}}
	if e != api.OK || !slices.EqualFunc(l, want, same) {
		t.Error(l, e)
	}
}

// P9.1: frames that end too soon, wherever they end.
func TestGetTail(t *testing.T) {
	refuses(t, nil, api.ErrTail)
	refuses(t, []byte{}, api.ErrTail)
	for _, c := range allKinds() {
		b := fromHex(t, c.b)
		for n := range b {
			if c.f.Kind != frames.Padding || n == 0 {
				refuses(t, b[:n], api.ErrTail)
			}
		}
	}
	for _, b := range []string{"08", "09", "0c 04", "0d 04", "08 40", "0c 04 80 00 00", "06 00 8000ffff 00", "07 8000ffff 00"} {
		refuses(t, fromHex(t, b), api.ErrTail)
	}
}

// P9.1: of what is wrong, what comes first from the front on is told.
func TestGetErrorsInOrder(t *testing.T) {
	for _, c := range []struct {
		b    string
		want api.Errno
	}{
		// Acks: the first one's To, N, the count, how far back; then gaps and how far back.
		{"02 05 00 00 06", api.ErrForm},
		{"02 05 00 01 06", api.ErrForm},
		{"02 05 00 4040", api.ErrForm},
		{"02 05 00 4040 06", api.ErrForm},
		{"02 05 00 " + most, api.ErrForm},
		{"02 05 00 3f 00", api.ErrTail},
		{"02 05 00 3f 06", api.ErrForm},
		{"02 05 00 01 00", api.ErrTail},
		{"02 05 00 01 00 04", api.ErrForm},
		{"02 05 00 01 00 03", api.ErrTail},
		{"02 05 00 01 00 03 01", api.ErrForm},
		{"02 05 00 01 00 " + most, api.ErrForm},
		{"02 05 00 01 00 00 " + most, api.ErrForm},
		{"02 05 00 01 05 00", api.ErrForm},
		{"02 05 00 01 05", api.ErrTail},
		{"02 05 00 01 04 00 00", api.ErrForm},
		{"02 05 00 01 03 00", api.ErrTail},
		{"02 05 00 02 00 00 00 02", api.ErrForm},
		{"02 05 00 02 00 00 00 01", api.ErrTail},
		// Data: what is wrong with its count is told ahead of bytes that end.
		{"06 00 80010000", api.ErrForm},
		{"06 00 " + most, api.ErrForm},
		{"06 " + most + " 80010000", api.ErrForm},
		{"06 " + most + " 01", api.ErrTail},
		{"06 " + most + " 01 61", api.ErrForm},
		{"06 fffffffffffffffe 02 61", api.ErrTail},
		{"06 fffffffffffffffe 02 6161", api.ErrForm},
		{"07 00", api.ErrForm},
		{"07 80010000", api.ErrForm},
		{"0a 00 80010000", api.ErrForm},
		{"0e 00 " + most + " 01", api.ErrTail},
		{"0e 00 " + most + " 01 61", api.ErrForm},
		{"0c 00 " + most + " 61", api.ErrForm},
		{"1c 00 00 80010000", api.ErrForm},
		{"1d 00 80010000", api.ErrForm},
		// Counts of streams.
		{"12 d000000000000001", api.ErrForm},
		{"16 d000000000000001", api.ErrForm},
		{"12 " + most, api.ErrForm},
		{"12 d0000000000000", api.ErrTail},
		// Names.
		{"18 01 02", api.ErrForm},
		{"18 01 01", api.ErrTail},
		{"18 01 01 00", api.ErrForm},
		{"18 01 02 00", api.ErrForm},
		{"18 01 01 15", api.ErrForm},
		{"18 01 01 40", api.ErrForm},
		{"18 01 01 14", api.ErrTail},
		{"18 01 01 01", api.ErrTail},
		{"18 01 01 01 61", api.ErrTail},
		{"18 01 01 01 61 000000000000000000000000000000", api.ErrTail},
	} {
		refuses(t, fromHex(t, c.b), c.want)
	}
	for _, kind := range []string{"12", "16"} {
		f := frame{Kind: int(fromHex(t, kind)[0]), N: 1 << 60}
		gets(t, fromHex(t, kind+"d000000000000000"), f, 9)
	}
	gets(t, fromHex(t, "0c 00 "+most), frame{Kind: frames.Stream, Off: maxNumber}, 10)
	gets(t, fromHex(t, "06 fffffffffffffffe 01 61 62"), frame{Kind: frames.Crypto, Off: maxNumber - 1, Data: "a"}, 11)
	long := append(fromHex(t, "07 80010000"), make([]byte, 65536)...)
	refuses(t, long, api.ErrForm)
}

// P9.1: an Ack of as many spans as there may be, and of one more.
func TestGetOfManyAcks(t *testing.T) {
	for _, count := range []int{62, 63, 64, 65, 1000} {
		p, _ := vlq.Put(count)
		b := append(append(fromHex(t, "02 80010000 00"), p...), make([]byte, 1+2*count)...)
		if count >= api.MaxRanges {
			refuses(t, b, api.ErrForm)
			continue
		}
		want := frame{Kind: frames.Ack}
		for i := range count + 1 {
			want.Acks = append(want.Acks, frames.Span{From: 65536 - 2*i, To: 65536 - 2*i})
		}
		gets(t, b, want, len(b))
	}
}

// P9.1: all frames of bytes.
func TestAll(t *testing.T) {
	var b []byte
	var want []frame
	for _, c := range allKinds() {
		b, want = append(b, fromHex(t, c.b)...), append(want, c.f)
		if l, e := frames.All(b); e != api.OK || !slices.EqualFunc(l, want, same) {
			t.Error(l, e)
		}
	}
	b = append(b, fromHex(t, "08 04 01 1e")...)
	want = append(want, frame{Kind: frames.Stream, Stream: 4, Data: "\x01\x1e"})
	if l, e := frames.All(b); e != api.OK || !slices.EqualFunc(l, want, same) {
		t.Error(l, e)
	}
}

// P9.1: of bytes that aren't all frames, the first error.
func TestAllRefuses(t *testing.T) {
	for _, c := range []struct {
		b    string
		want api.Errno
	}{
		{"", api.ErrForm},
		{"1f", api.ErrForm},
		{"01 1f", api.ErrForm},
		{"01 00 00 06", api.ErrTail},
		{"01 06 00 05 61 62", api.ErrTail},
		{"07 00 06", api.ErrForm},
		{"01 03 10", api.ErrForm},
		{"1e 10 40", api.ErrTail},
	} {
		if l, e := frames.All(fromHex(t, c.b)); len(l) != 0 || e != c.want {
			t.Error(c.b, l, e)
		}
	}
	if l, e := frames.All(nil); len(l) != 0 || e != api.ErrForm {
		t.Error("nil", l, e)
	}
}

// P9.1: which frames ask to be told of.
func TestAsks(t *testing.T) {
	for _, c := range allKinds() {
		quiet := slices.Contains([]int{0x00, 0x02, 0x1c, 0x1d}, c.f.Kind)
		if frames.Asks(c.f) == quiet || frames.Asks(frame{Kind: c.f.Kind}) == quiet {
			t.Error("Asks", c.f.Kind)
		}
	}
	for _, kind := range []int{-1, 3, 9, 0x1f, 256, math.MinInt, math.MaxInt} {
		if !frames.Asks(frame{Kind: kind}) {
			t.Error("Asks", kind)
		}
	}
}

// drawn is some frame of a kind, in form but where numbers are drawn too great.
func drawn(draw *rand.Rand) frame {
	number := func() int { return draw.Intn(maxNumber) >> draw.Intn(63) }
	f := allKinds()[draw.Intn(len(allKinds()))].f
	for _, part := range []*int{&f.Stream, &f.Off, &f.Code, &f.N} {
		if *part != 0 {
			*part = number()
		}
	}
	if f.Kind == frames.Padding {
		f.N = 1 + f.N&0xffff
	}
	if slices.Contains([]int{frames.Crypto, frames.Stream, frames.Close, frames.AppClose, frames.Token}, f.Kind) {
		f.Data = text(draw.Intn(66000) >> draw.Intn(17))
	}
	f.Fin = f.Kind == frames.Stream && draw.Intn(2) == 0
	if f.Kind == frames.Ack {
		f.Acks = nil
		for to := number(); to >= 0 && len(f.Acks) < 64; {
			from := to - number()%(to+1)
			f.Acks = append(f.Acks, frames.Span{From: from, To: to})
			to = from - 2 - draw.Intn(100)
		}
	}
	return f
}

// P9.2: what is put is got, whatever stands behind.
func TestPutIsGot(t *testing.T) {
	draw := rand.New(rand.NewSource(92))
	kinds := map[int]bool{}
	for range 6000 {
		f := drawn(draw)
		b, e := frames.Put(f)
		if e != api.OK {
			continue
		}
		kinds[f.Kind] = true
		gets(t, append(b, 1, 2, 3), f, len(b))
	}
	if len(kinds) != len(allKinds()) {
		t.Error(len(kinds), "kinds")
	}
}

// P9.3: what is handed in isn't changed, nor its spare room.
func TestArgumentsStay(t *testing.T) {
	l := spans{{9, 10}, {3, 5}, {1, 1}, {7, 7}}
	held := slices.Clone(l)
	frames.Put(frame{Kind: frames.Ack, Acks: l[:2]})
	if !slices.Equal(l, held) {
		t.Error("Put", l)
	}
	var all []byte
	for _, c := range allKinds() {
		all = append(all, fromHex(t, c.b)...)
		b := roomy(fromHex(t, c.b))
		held := string(b[:cap(b)])
		frames.Get(b)
		if string(b[:cap(b)]) != held {
			t.Error("Get", c.b)
		}
	}
	all = roomy(all)
	whole := string(all[:cap(all)])
	frames.All(all)
	if string(all[:cap(all)]) != whole {
		t.Error("All")
	}
}

// P9.3: what is handed in isn't kept, and answers are new memory.
func TestAnswersAreNew(t *testing.T) {
	for _, c := range allKinds() {
		b, _ := frames.Put(c.f)
		f, _, _ := frames.Get(b)
		one, _ := frames.All(b)
		clear(b[:cap(b)])
		if !same(f, c.f) || len(one) != 1 || !same(one[0], c.f) {
			t.Error(f, one)
		}
		puts(t, c.f, fromHex(t, c.b))
	}
	b := fromHex(t, "02 0a 01 01 01 02 02 02 0a 01 01 01 02 02")
	l, _ := frames.All(b)
	clear(l[0].Acks[:cap(l[0].Acks)])
	if !slices.Equal(l[1].Acks, spans{{9, 10}, {3, 5}}) {
		t.Error(l)
	}
	gets(t, b, l[1], 7)
}

// P1: the decoders answer for any bytes; what is got is put and got again.
func TestAnyBytes(t *testing.T) {
	draw := rand.New(rand.NewSource(99))
	for range 100000 {
		b := make([]byte, draw.Intn(40))
		draw.Read(b)
		for i := range b {
			if draw.Intn(3) != 0 {
				b[i] &= 0x1f
			}
		}
		f, n, e := frames.Get(b)
		if e != api.OK {
			if n != 0 || !reflect.DeepEqual(f, frame{}) || e != api.ErrForm && e != api.ErrTail {
				t.Errorf("Get of %x: %+v, %d, %d", b, f, n, e)
			}
			continue
		}
		if n < 1 || n > len(b) {
			t.Errorf("Get of %x: %d", b, n)
		}
		again, e := frames.Put(f)
		if e != api.OK {
			t.Errorf("Put of %+v: %d", f, e)
		}
		gets(t, again, f, len(again))
		if l, e := frames.All(b[:n]); e != api.OK || len(l) != 1 || !same(l[0], f) {
			t.Errorf("All of %x: %+v, %d", b[:n], l, e)
		}
	}
}

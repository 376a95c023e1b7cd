package vlq_test

import (
	"bytes"
	"encoding/hex"
	"iter"
	"math"
	"math/rand"
	"slices"
	"strings"
	"testing"

	"rhyne/api"
	"rhyne/vlq"
)

// Kinds of numbers of one's own.
type (
	ownInt    int
	ownInt32  int32
	ownInt64  int64
	ownUint32 uint32
	ownUint64 uint64
	ownUint8  uint8
)

const top = 1<<62 - 1

// edges are numbers about the greatest ones of each size, with the size.
func edges() map[uint64]int {
	return map[uint64]int{
		0: 1, 1: 1, 62: 1, 63: 1,
		64: 2, 65: 2, 255: 2, 256: 2, 16382: 2, 16383: 2,
		16384: 4, 16385: 4, 1<<30 - 2: 4, 1<<30 - 1: 4,
		1 << 30: 8, 1<<30 + 1: 8, 1<<32 - 1: 8, 1 << 32: 8, 1 << 61: 8, top - 1: 8, top: 8,
	}
}

// roomy is b with spare room behind it that is filled.
func roomy(b []byte) []byte {
	full := append(bytes.Clone(b), strings.Repeat("\xee", 200)...)
	return full[:len(b)]
}

func fromHex(t *testing.T, s string) []byte {
	t.Helper()
	b, err := hex.DecodeString(strings.ReplaceAll(s, " ", ""))
	if err != nil {
		t.Fatal(err)
	}
	return b
}

// wants tells whether an answer is some bytes, without an error.
func wants(t *testing.T, what string, want []byte) func([]byte, api.Errno) {
	t.Helper()
	return func(got []byte, e api.Errno) {
		t.Helper()
		if e != api.OK || !bytes.Equal(got, want) {
			t.Errorf("%s: %x, %d; not %x", what, got, e, want)
		}
	}
}

// refuses tells whether an answer is an error and nothing beside.
func refuses(t *testing.T, what string, want api.Errno) func([]byte, api.Errno) {
	t.Helper()
	return func(got []byte, e api.Errno) {
		t.Helper()
		if e != want || len(got) != 0 {
			t.Errorf("%s: %x, %d; not %d", what, got, e, want)
		}
	}
}

// gets tells whether the front of b is a number of so many bytes.
func gets(t *testing.T, b []byte, want uint64, size int) {
	t.Helper()
	if n, k, e := vlq.Get(b); n != want || k != size || e != api.OK {
		t.Errorf("Get of %x: %d, %d, %d; not %d, %d", b, n, k, e, want, size)
	}
}

// P7.1: the chapter's examples, and those of RFC 9000, appendix A.1.
func TestKnownNumbers(t *testing.T) {
	for want, n := range map[string]uint64{"25": 37, "7bbd": 15293, "9d7f3e7d": 494878333, "c2197c5eff14e88c": 151288809941952652} {
		b := fromHex(t, want)
		wants(t, want, b)(vlq.Put(n))
		gets(t, b, n, len(b))
	}
	wants(t, "37 in 2", fromHex(t, "4025"))(vlq.PutIn(37, 2))
	if n, k, e := vlq.Get([]byte{0x40}); n != 0 || k != 0 || e != api.ErrTail {
		t.Error(n, k, e)
	}
}

// P7.1: the greatest and the least numbers of each size, byte by byte.
func TestEdgesOfSizes(t *testing.T) {
	for n, want := range map[uint64]string{
		0: "00", 63: "3f", 64: "4040", 16383: "7fff", 16384: "80004000",
		1<<30 - 1: "bfffffff", 1 << 30: "c000000040000000", top: "ffffffffffffffff",
	} {
		wants(t, want, fromHex(t, want))(vlq.Put(n))
	}
	for n, size := range edges() {
		if b, e := vlq.Put(n); len(b) != size || e != api.OK {
			t.Errorf("%d: %x, %d", n, b, e)
		}
	}
}

// P7.1: numbers of all kinds, those of one's own too.
func TestEachKind(t *testing.T) {
	want := fromHex(t, "40c8")
	wants(t, "int", want)(vlq.Put(200))
	wants(t, "int32", want)(vlq.Put(int32(200)))
	wants(t, "int64", want)(vlq.Put(int64(200)))
	wants(t, "uint32", want)(vlq.Put(uint32(200)))
	wants(t, "uint64", want)(vlq.Put(uint64(200)))
	wants(t, "uint8", want)(vlq.Put(uint8(200)))
	wants(t, "ownInt", want)(vlq.Put(ownInt(200)))
	wants(t, "ownInt32", want)(vlq.Put(ownInt32(200)))
	wants(t, "ownInt64", want)(vlq.Put(ownInt64(200)))
	wants(t, "ownUint32", want)(vlq.Put(ownUint32(200)))
	wants(t, "ownUint64", want)(vlq.Put(ownUint64(200)))
	wants(t, "ownUint8", want)(vlq.Put(ownUint8(200)))
	wants(t, "uint8 in 8", fromHex(t, "c0000000000000ff"))(vlq.PutIn(uint8(255), 8))
	wants(t, "uint8 in 4", fromHex(t, "800000ff"))(vlq.PutIn(ownUint8(255), 4))
	wants(t, "int32 in 8", fromHex(t, "c00000007fffffff"))(vlq.PutIn(int32(math.MaxInt32), 8))
	wants(t, "uint32", fromHex(t, "c0000000ffffffff"))(vlq.Put(uint32(math.MaxUint32)))
	wants(t, "int64", fromHex(t, "ffffffffffffffff"))(vlq.Put(int64(top)))
	wants(t, "ownInt", fromHex(t, "ffffffffffffffff"))(vlq.Put(ownInt(top)))
}

// P7.1: numbers below 0, and from 2^62 on.
func TestBig(t *testing.T) {
	for _, n := range []int{-1, -2, -63, -64, math.MinInt32, -1 << 62, math.MinInt, 1 << 62, 1<<62 + 1, math.MaxInt} {
		refuses(t, "Put", api.ErrBig)(vlq.Put(n))
		refuses(t, "Put", api.ErrBig)(vlq.Put(ownInt64(n)))
		refuses(t, "PutIn", api.ErrBig)(vlq.PutIn(n, 8))
	}
	for _, n := range []uint64{1 << 62, 1<<62 + 37, 1 << 63, 3 << 62, math.MaxUint64} {
		refuses(t, "Put", api.ErrBig)(vlq.Put(n))
		refuses(t, "PutIn", api.ErrBig)(vlq.PutIn(ownUint64(n), 8))
	}
	for _, n := range []int32{-1, -64, math.MinInt32} {
		refuses(t, "Put", api.ErrBig)(vlq.Put(n))
		for _, size := range []int{1, 2, 4, 8} {
			refuses(t, "PutIn", api.ErrBig)(vlq.PutIn(ownInt32(n), size))
		}
	}
}

// P7.1: numbers in each size: the ones that go into it, and those that don't.
func TestPutIn(t *testing.T) {
	for size, bits := range map[int]int{1: 6, 2: 14, 4: 30, 8: 62} {
		for n, least := range edges() {
			if least > size {
				refuses(t, "PutIn", api.ErrBig)(vlq.PutIn(n, size))
				continue
			}
			b, e := vlq.PutIn(n, size)
			if len(b) != size || e != api.OK {
				t.Errorf("%d in %d: %x, %d", n, size, b, e)
				continue
			}
			gets(t, b, n, size)
		}
		most := uint64(1)<<bits - 1
		want := bytes.Repeat([]byte{0xff}, size)
		want[0] = byte(0x3f | slices.Index([]int{1, 2, 4, 8}, size)<<6)
		wants(t, "the greatest", want)(vlq.PutIn(most, size))
		refuses(t, "one more", api.ErrBig)(vlq.PutIn(most+1, size))
	}
}

// P7.1: sizes that are none; they are told ahead of numbers that are too great.
func TestWrongSizes(t *testing.T) {
	for _, size := range []int{math.MinInt, -8, -1, 0, 3, 5, 6, 7, 9, 12, 16, 32, 64, 256, 1<<32 + 1, 1 << 62, math.MaxInt} {
		for _, n := range []int{0, 37, top, -1, math.MaxInt} {
			refuses(t, "PutIn", api.ErrArg)(vlq.PutIn(n, size))
		}
	}
}

// P7.1: fewer bytes than the first one tells, of any size.
func TestTail(t *testing.T) {
	for first, size := range map[byte]int{0x00: 1, 0x3f: 1, 0x40: 2, 0x7f: 2, 0x80: 4, 0xbf: 4, 0xc0: 8, 0xff: 8} {
		b := append([]byte{first}, make([]byte, 20)...)
		for n := range size {
			if v, k, e := vlq.Get(b[:n]); v != 0 || k != 0 || e != api.ErrTail {
				t.Errorf("%d of %x: %d, %d, %d", n, first, v, k, e)
			}
		}
		for n := size; n < len(b); n++ {
			gets(t, b[:n], uint64(first&0x3f)<<(8*(size-1)), size)
		}
	}
	if v, k, e := vlq.Get(nil); v != 0 || k != 0 || e != api.ErrTail {
		t.Error("nil", v, k, e)
	}
}

// P7.2: what is put is got, in any size, whatever stands behind.
func TestPutIsGot(t *testing.T) {
	draw := rand.New(rand.NewSource(7))
	behind := make([]byte, 9)
	for range 3000 {
		n := uint64(draw.Int63()) >> (1 + draw.Intn(62))
		draw.Read(behind)
		b, e := vlq.Put(n)
		if e != api.OK {
			t.Fatal(n, e)
		}
		gets(t, append(b, behind[:draw.Intn(9)]...), n, len(b))
		for _, size := range []int{1, 2, 4, 8} {
			if b, e := vlq.PutIn(n, size); e == api.OK {
				gets(t, append(b, behind[:draw.Intn(9)]...), n, size)
			} else if n>>(8*size-2) == 0 || e != api.ErrBig {
				t.Error(n, size, e)
			}
		}
	}
}

// gone is what All goes through.
func gone(b []byte) (at []int, l []uint64) {
	for i, n := range vlq.All(b) {
		at, l = append(at, i), append(l, n)
	}
	return at, l
}

// P7.1: All, of numbers in any sizes, and of a last one that isn't there wholly.
func TestAll(t *testing.T) {
	for _, c := range []struct {
		b  string
		at []int
		l  []uint64
	}{
		{"", nil, nil},
		{"25 40 25 80", []int{0, 1}, []uint64{37, 37}},
		{"40", nil, nil},
		{"ff ff ff ff ff ff ff", nil, nil},
		{"00 00 00", []int{0, 1, 2}, []uint64{0, 0, 0}},
		{"c0 00 00 00 00 00 00 01 3f", []int{0, 8}, []uint64{1, 63}},
		{"80 00 00 05 7f ff 01 80 00 00", []int{0, 4, 6}, []uint64{5, 16383, 1}},
	} {
		if at, l := gone(fromHex(t, c.b)); !slices.Equal(at, c.at) || !slices.Equal(l, c.l) {
			t.Error(c.b, at, l)
		}
	}
	for range vlq.All(nil) {
		t.Error("numbers of nil")
	}
}

// P7.1: All is gone through again from the front on, is left anywhere, and may be within itself.
func TestAllAgain(t *testing.T) {
	b := fromHex(t, "01 40 02 80 00 00 03 04")
	all := vlq.All(b)
	want := []uint64{1, 2, 3, 4}
	for stop := range 6 {
		var l []uint64
		for _, n := range all {
			if len(l) == stop {
				break
			}
			l = append(l, n)
		}
		if !slices.Equal(l, want[:min(stop, 4)]) {
			t.Error(stop, l)
		}
	}
	pairs := 0
	for range all {
		for range all {
			pairs++
		}
	}
	if pairs != 16 {
		t.Error(pairs, "pairs")
	}
	next, stop := iter.Pull2(all)
	defer stop()
	if at, n, ok := next(); at != 0 || n != 1 || !ok {
		t.Error(at, n, ok)
	}
}

// P7.1: who leaves isn't asked again.
func TestAllIsLeft(t *testing.T) {
	asked := 0
	vlq.All(make([]byte, 5))(func(int, uint64) bool {
		asked++
		return asked < 2
	})
	if asked != 2 {
		t.Error(asked)
	}
}

// P7.3: All's bytes are read while it is gone through.
func TestAllReadsLate(t *testing.T) {
	b := []byte{1, 2, 3}
	all := vlq.All(b)
	b[0] = 9
	var l []uint64
	for at, n := range all {
		l = append(l, n)
		if at == 0 {
			b[1] = 8
		}
	}
	if !slices.Equal(l, []uint64{9, 8, 3}) {
		t.Error(l)
	}
}

// counted is numbers of which it is kept how many were asked for.
func counted(l []int, asked *int) iter.Seq[int] {
	return func(yield func(int) bool) {
		for _, n := range l {
			*asked++
			if !yield(n) {
				return
			}
		}
	}
}

// P7.1: List, of any kind of number; of none.
func TestList(t *testing.T) {
	want := fromHex(t, "01 4064 80004e20")
	wants(t, "int32", want)(vlq.List(slices.Values([]int32{1, 100, 20000})))
	wants(t, "own", want)(vlq.List(slices.Values([]ownUint64{1, 100, 20000})))
	wants(t, "uint8", fromHex(t, "01 40ff 00"))(vlq.List(slices.Values([]uint8{1, 255, 0})))
	wants(t, "none", nil)(vlq.List(slices.Values([]int64{})))
	wants(t, "nil", nil)(vlq.List[int](nil))
	asked := 0
	wants(t, "counted", fromHex(t, "00 ffffffffffffffff 05"))(vlq.List(counted([]int{0, top, 5}, &asked)))
	if asked != 3 {
		t.Error("asked for", asked)
	}
	b, e := vlq.List(slices.Values([]int{3, 70, 1 << 40, 16383}))
	if _, l := gone(b); e != api.OK || !slices.Equal(l, []uint64{3, 70, 1 << 40, 16383}) {
		t.Error(l, e)
	}
}

// P7.1: List, of numbers of which one is too great: no more are asked for.
func TestListBig(t *testing.T) {
	for first, l := range [][]int{{-1, 2, 3}, {1, top + 1, 3}, {1, 2, -9}, {1, 2, 3, math.MinInt, -1, 5}} {
		asked := 0
		refuses(t, "List", api.ErrBig)(vlq.List(counted(l, &asked)))
		if asked != first+1 {
			t.Error("asked for", asked, "of", l)
		}
	}
	endless := func(yield func(uint64) bool) {
		for n := uint64(top - 9); yield(n); n++ {
		}
	}
	refuses(t, "endless", api.ErrBig)(vlq.List(endless))
}

// P1: numbers whose function goes on though it was left, or panics.
func TestListOfBadNumbers(t *testing.T) {
	deaf := func(yield func(int) bool) {
		for _, n := range []int{1, -1, 2, -2} {
			yield(n)
		}
	}
	refuses(t, "deaf", api.ErrBig)(vlq.List(deaf))
	panics := func(first int) iter.Seq[int] {
		return func(yield func(int) bool) {
			yield(first)
			panic("no more")
		}
	}
	refuses(t, "panics", api.ErrArg)(vlq.List(panics(1)))
	refuses(t, "panics behind a great one", api.ErrBig)(vlq.List(panics(-1)))
}

// P7.1: texts behind their counts.
func TestText(t *testing.T) {
	wants(t, "ab", []byte("\x02ab"))(vlq.Text("ab"))
	wants(t, "none", []byte{0})(vlq.Text(""))
	for n, front := range map[int]string{63: "3f", 64: "4040", 16383: "7fff", 16384: "80004000", api.MaxBytes: "8000ffff"} {
		s := strings.Repeat("\xc3\x00z", n/3+1)[:n]
		want := append(fromHex(t, front), s...)
		wants(t, "Text", want)(vlq.Text(s))
		if got, k, e := vlq.GetText(append(want, 7, 7)); got != s || k != len(want) || e != api.OK {
			t.Error(n, len(got), k, e)
		}
	}
	for _, n := range []int{api.MaxBytes + 1, 1 << 20} {
		refuses(t, "Text", api.ErrBig)(vlq.Text(strings.Repeat("a", n)))
	}
}

// P7.1: the text at the front of bytes, its count in any size; and its errors, in their order.
func TestGetText(t *testing.T) {
	for _, c := range []struct {
		b    string
		want string
		size int
		e    api.Errno
	}{
		{"02 61 62 63", "ab", 3, api.OK},
		{"02 61 62", "ab", 3, api.OK},
		{"00", "", 1, api.OK},
		{"00 61", "", 1, api.OK},
		{"40 01 61 62", "a", 3, api.OK},
		{"80 00 00 01 61", "a", 5, api.OK},
		{"c0 00 00 00 00 00 00 02 00 ff 61", "\x00\xff", 10, api.OK},
		{"", "", 0, api.ErrTail},
		{"40", "", 0, api.ErrTail},
		{"80 01 00", "", 0, api.ErrTail},
		{"01", "", 0, api.ErrTail},
		{"02 61", "", 0, api.ErrTail},
		{"80 00 ff ff 61", "", 0, api.ErrTail},
		{"80 01 00 00 61", "", 0, api.ErrBig},
		{"bf ff ff ff", "", 0, api.ErrBig},
		{"c0 00 00 01 00 00 00 00", "", 0, api.ErrBig},
		{"ff ff ff ff ff ff ff ff 61", "", 0, api.ErrBig},
	} {
		if s, k, e := vlq.GetText(fromHex(t, c.b)); s != c.want || k != c.size || e != c.e {
			t.Errorf("%s: %q, %d, %d", c.b, s, k, e)
		}
	}
	if s, k, e := vlq.GetText(nil); s != "" || k != 0 || e != api.ErrTail {
		t.Error("nil", s, k, e)
	}
	long := append(fromHex(t, "80 01 00 00"), make([]byte, 1<<16)...)
	if s, k, e := vlq.GetText(long); s != "" || k != 0 || e != api.ErrBig {
		t.Error("65536 bytes", k, e)
	}
}

// P7.3: what is handed in isn't changed, nor its spare room.
func TestArgumentsStay(t *testing.T) {
	b := roomy(fromHex(t, "02 61 62 40 25 80"))
	held := string(b[:cap(b)])
	vlq.Get(b)
	vlq.GetText(b)
	gone(b)
	list := roomy([]byte{5, 200, 7})
	kept := string(list[:cap(list)])
	vlq.List(slices.Values(list))
	if string(b[:cap(b)]) != held || string(list[:cap(list)]) != kept {
		t.Error("changed")
	}
}

// P7.3: what is handed in isn't kept, and answers are new memory.
func TestAnswersAreNew(t *testing.T) {
	b := []byte("\x02ab")
	s, _, _ := vlq.GetText(b)
	clear(b)
	if s != "ab" {
		t.Error("the text is the bytes' memory")
	}
	for range 2 {
		for _, put := range []func() ([]byte, api.Errno){
			func() ([]byte, api.Errno) { return vlq.Put(15293) },
			func() ([]byte, api.Errno) { return vlq.PutIn(15293, 2) },
			func() ([]byte, api.Errno) { return vlq.List(slices.Values([]int{15293})) },
		} {
			b, _ := put()
			wants(t, "again", fromHex(t, "7bbd"))(b, api.OK)
			clear(b[:cap(b)])
		}
		b, _ := vlq.Text("ab")
		wants(t, "again", []byte("\x02ab"))(b, api.OK)
		clear(b[:cap(b)])
	}
}

// P1: all decoders answer for any bytes.
func TestAnyBytes(t *testing.T) {
	draw := rand.New(rand.NewSource(77))
	for range 20000 {
		b := make([]byte, draw.Intn(20))
		draw.Read(b)
		n, k, e := vlq.Get(b)
		if e == api.OK && (k < 1 || k > len(b) || n > top) || e != api.OK && (n != 0 || k != 0 || e != api.ErrTail) {
			t.Errorf("Get of %x: %d, %d, %d", b, n, k, e)
		}
		s, k, e := vlq.GetText(b)
		if e == api.OK && string(b[k-len(s):k]) != s || e != api.OK && (s != "" || k != 0) {
			t.Errorf("GetText of %x: %q, %d, %d", b, s, k, e)
		}
		last := 0
		for at, n := range vlq.All(b) {
			m, k, e := vlq.Get(b[last:])
			if at != last || n != m || e != api.OK {
				t.Errorf("All of %x: %d, %d", b, at, n)
			}
			last += k
		}
		if _, _, e := vlq.Get(b[last:]); e != api.ErrTail {
			t.Errorf("All of %x ended at %d", b, last)
		}
	}
}

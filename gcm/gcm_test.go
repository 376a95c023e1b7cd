package gcm_test

import (
	"bytes"
	stdaes "crypto/aes"
	"crypto/cipher"
	"encoding/hex"
	"math/rand"
	"strings"
	"testing"

	"rhyne/aes"
	"rhyne/api"
	"rhyne/gcm"
)

// row is n bytes, each another one than its neighbours.
func row(n int) []byte {
	b := make([]byte, n)
	for i := range b {
		b[i] = byte(i*5 + i>>8 + 1)
	}
	return b
}

// roomy is b with spare room behind it that is filled.
func roomy(b []byte) []byte {
	full := append(bytes.Clone(b), strings.Repeat("\xee", 200)...)
	return full[:len(b)]
}

// whole is a list with its spare room, as a text.
func whole(b []byte) string { return string(b[:cap(b)]) }

func fromHex(t *testing.T, s string) []byte {
	t.Helper()
	b, err := hex.DecodeString(s)
	if err != nil {
		t.Fatal(err)
	}
	return b
}

func box(t *testing.T, key []byte) *gcm.Box {
	t.Helper()
	x, e := gcm.New(key)
	if e != api.OK || x == nil {
		t.Fatal("New", e)
	}
	return x
}

// wants tells whether an answer is some bytes, without an error.
func wants(t *testing.T, what string, want []byte) func([]byte, api.Errno) {
	t.Helper()
	return func(got []byte, e api.Errno) {
		t.Helper()
		if e != api.OK || !bytes.Equal(got, want) {
			t.Errorf("%s: %x, %d", what, got, e)
		}
	}
}

// refuses tells whether an answer is an error and nothing beside.
func refuses(t *testing.T, what string, want api.Errno) func([]byte, api.Errno) {
	t.Helper()
	return func(got []byte, e api.Errno) {
		t.Helper()
		if e != want || len(got) != 0 {
			t.Errorf("%s: %x, %d", what, got, e)
		}
	}
}

// library is what the library seals.
func library(t *testing.T, key, nonce, beside, b []byte) []byte {
	t.Helper()
	block, err := stdaes.NewCipher(key)
	if err != nil {
		t.Fatal(err)
	}
	mode, err := cipher.NewGCM(block)
	if err != nil {
		t.Fatal(err)
	}
	return mode.Seal(nil, nonce, b, beside)
}

// product is the product of two blocks, coefficient by coefficient, by the chapter's words.
func product(a, b [16]byte) [16]byte {
	var sum [255]byte
	for i := range 128 {
		for j := range 128 {
			sum[i+j] ^= a[i/8] >> (7 - i%8) & 1 & (b[j/8] >> (7 - j%8))
		}
	}
	for i := 254; i >= 128; i-- {
		for _, less := range []int{128, 121, 126, 127} {
			sum[i-less] ^= sum[i]
		}
	}
	var out [16]byte
	for i := range 128 {
		out[i/8] |= sum[i] << (7 - i%8)
	}
	return out
}

// power is x so often by itself.
func power(n int) [16]byte {
	var b [16]byte
	b[n/8] = 128 >> (n % 8)
	return b
}

// P4.1: Times of powers of x, among them those that reach x^128.
func TestTimesOfPowers(t *testing.T) {
	for i := range 128 {
		for j := range 128 {
			if got := gcm.Times(power(i), power(j)); got != product(power(i), power(j)) {
				t.Errorf("x^%d by x^%d: %x", i, j, got)
			}
		}
	}
	if got := gcm.Times(power(127), power(1)); got != [16]byte{0xe1} {
		t.Errorf("x^128: %x", got)
	}
}

// P4.1: Times of many blocks; of 1, and of noughts.
func TestTimesOfManyBlocks(t *testing.T) {
	draw := rand.New(rand.NewSource(4))
	for range 300 {
		var a, b [16]byte
		draw.Read(a[:])
		draw.Read(b[:])
		if got := gcm.Times(a, b); got != product(a, b) || got != gcm.Times(b, a) {
			t.Errorf("%x by %x: %x", a, b, got)
		}
		if gcm.Times(a, power(0)) != a || gcm.Times(power(0), a) != a || gcm.Times(a, [16]byte{}) != [16]byte{} {
			t.Errorf("%x by 1 or by noughts", a)
		}
	}
}

// P4.1: the chapter's examples, and those of the mode's first paper (its cases 1 to 4).
func TestKnownSeals(t *testing.T) {
	noughts := "00000000000000000000000000000000"
	key, nonce := "feffe9928665731c6d6a8f9467308308", "cafebabefacedbaddecaf888"
	text := "d9313225f88406e5a55909c5aff5269a86a7a9531534f7da2e4c303d8a318a721c3c0c95956809532fcf0e2449a6b525b16aedf5aa0de657ba637b391aafd255"
	hidden := "42831ec2217774244b7221b784d0d49ce3aa212f2c02a4e035c17e2329aca12e21d514b25466931c7d8f6a5aac84aa051ba30b396a0aac973d58e091473f5985"
	for _, c := range []struct{ key, nonce, beside, b, want string }{
		{noughts, noughts[:24], "", "", "58e2fccefa7e3061367f1d57a4e7455a"},
		{noughts, noughts[:24], "", noughts, "0388dace60b6a392f328c2b971b2fe78ab6e47d42cec13bdf53a67b21257bddf"},
		{key, nonce, "", text, hidden + "4d5c2af327cd64a62cf35abd2ba6fab4"},
		{key, nonce, "feedfacedeadbeeffeedfacedeadbeefabaddad2", text[:120], hidden[:120] + "5bc94fbc3221a5db94fae95ae7121a47"},
	} {
		x := box(t, fromHex(t, c.key))
		b := fromHex(t, c.want)
		wants(t, "Seal", b)(x.Seal(fromHex(t, c.nonce), fromHex(t, c.beside), fromHex(t, c.b)))
		wants(t, "Open", fromHex(t, c.b))(x.Open(fromHex(t, c.nonce), fromHex(t, c.beside), b))
	}
}

// P4.1, P4.2: seals of all sizes about a block's, of what is hidden and of what is beside.
func TestSizes(t *testing.T) {
	draw := rand.New(rand.NewSource(14))
	sizes := []int{0, 1, 15, 16, 17, 31, 32, 33, 48, 255, 1200}
	for _, n := range sizes {
		for _, m := range sizes {
			key, nonce, beside, b := make([]byte, 16), make([]byte, 12), make([]byte, m), make([]byte, n)
			for _, list := range [][]byte{key, nonce, beside, b} {
				draw.Read(list)
			}
			x, want := box(t, key), library(t, key, nonce, beside, b)
			wants(t, "Seal", want)(x.Seal(nonce, beside, b))
			wants(t, "Open", b)(x.Open(nonce, beside, want))
		}
	}
}

// P4.1: a long text, and long bytes beside, whose counts of bits need more than two bytes.
func TestLong(t *testing.T) {
	key, nonce, b := row(16), row(12), row(api.MaxBytes+70)
	x := box(t, key)
	for _, beside := range [][]byte{nil, b} {
		want := library(t, key, nonce, beside, b)
		wants(t, "Seal", want)(x.Seal(nonce, beside, b))
		wants(t, "Open", b)(x.Open(nonce, beside, want))
	}
}

// P4.1: keys and nonces of wrong sizes, whatever stands beside them.
func TestWrongSizes(t *testing.T) {
	x := box(t, row(16))
	for _, n := range []int{0, 1, 15, 17, 24, 32, 65535} {
		if x, e := gcm.New(row(n)); x != nil || e != api.ErrArg {
			t.Errorf("a key of %d bytes: %d", n, e)
		}
	}
	if x, e := gcm.New(nil); x != nil || e != api.ErrArg {
		t.Error("no key", e)
	}
	for _, n := range []int{0, 1, 11, 13, 16, 65535} {
		for _, b := range [][]byte{nil, row(15), row(16), row(40)} {
			refuses(t, "Seal", api.ErrArg)(x.Seal(row(n), nil, b))
			refuses(t, "Open", api.ErrArg)(x.Open(row(n), nil, b))
		}
	}
	refuses(t, "Seal by no nonce", api.ErrArg)(x.Seal(nil, row(3), row(3)))
	refuses(t, "Open by no nonce", api.ErrArg)(x.Open(nil, row(3), row(3)))
}

// P4.1: what is shorter than a seal, and what is just as long.
func TestTail(t *testing.T) {
	x := box(t, row(16))
	for n := range gcm.Tag {
		refuses(t, "Open", api.ErrTail)(x.Open(row(12), row(3), row(n)))
	}
	refuses(t, "Open of nil", api.ErrTail)(x.Open(row(12), nil, nil))
	refuses(t, "Open of 16 bytes", api.ErrAuth)(x.Open(row(12), nil, row(gcm.Tag)))
	refuses(t, "Open of 99 bytes", api.ErrAuth)(x.Open(row(12), nil, row(99)))
	b, _ := x.Seal(row(12), nil, nil)
	if len(b) != gcm.Tag || gcm.Tag != 16 {
		t.Error("a seal of", len(b))
	}
	wants(t, "Open of a seal alone", nil)(x.Open(row(12), nil, b))
}

// P1, P4.1: no box, and one that New didn't make.
func TestNoBox(t *testing.T) {
	good := library(t, row(16), row(12), nil, row(3))
	for _, x := range []*gcm.Box{nil, {}} {
		refuses(t, "Seal", api.ErrArg)(x.Seal(row(12), nil, row(3)))
		refuses(t, "Seal of nothing", api.ErrArg)(x.Seal(nil, nil, nil))
		refuses(t, "Open", api.ErrArg)(x.Open(row(12), nil, good))
		refuses(t, "Open of nothing", api.ErrArg)(x.Open(nil, nil, nil))
		refuses(t, "Open of too few", api.ErrArg)(x.Open(row(12), nil, row(3)))
	}
}

// P4.2: each bit of what was hidden, of the seal, of what is beside and of the nonce counts; and so does each size.
func TestEachBitCounts(t *testing.T) {
	x := box(t, row(16))
	nonce, beside := row(12), row(21)
	b, e := x.Seal(nonce, beside, row(35))
	if e != api.OK {
		t.Fatal(e)
	}
	for _, list := range [][]byte{b, beside, nonce} {
		for i := range list {
			for bit := range 8 {
				list[i] ^= 1 << bit
				refuses(t, "a bit changed", api.ErrAuth)(x.Open(nonce, beside, b))
				list[i] ^= 1 << bit
			}
		}
	}
	refuses(t, "less beside", api.ErrAuth)(x.Open(nonce, beside[:20], b))
	refuses(t, "noughts beside", api.ErrAuth)(x.Open(nonce, append(bytes.Clone(beside), 0), b))
	refuses(t, "less hidden", api.ErrAuth)(x.Open(nonce, beside, b[1:]))
	refuses(t, "less of a seal", api.ErrAuth)(x.Open(nonce, beside, b[:len(b)-1]))
	refuses(t, "more than a seal", api.ErrAuth)(x.Open(nonce, beside, append(bytes.Clone(b), 0)))
	refuses(t, "by another key", api.ErrAuth)(box(t, row(17)[1:]).Open(nonce, beside, b))
	wants(t, "Open", row(35))(x.Open(nonce, beside, b))
}

// P4.2: bytes that go over from beside to what is hidden are told by the counts.
func TestCountsAreSealed(t *testing.T) {
	x := box(t, row(16))
	b, _ := x.Seal(row(12), row(32), row(32))
	moved := append(row(32), b[:32]...)
	refuses(t, "hidden as beside", api.ErrAuth)(x.Open(row(12), moved, b[32:]))
	moved = append(row(32)[16:], b...)
	refuses(t, "beside as hidden", api.ErrAuth)(x.Open(row(12), row(16), moved))
}

// P4.3: what is handed in isn't changed, nor its spare room.
func TestArgumentsStay(t *testing.T) {
	key, nonce, beside, b := roomy(row(16)), roomy(row(12)), roomy(row(21)), roomy(row(35))
	lists := [][]byte{key, nonce, beside, b}
	var held []string
	for _, list := range lists {
		held = append(held, whole(list))
	}
	x := box(t, key)
	c, e := x.Seal(nonce, beside, b)
	if e != api.OK {
		t.Fatal(e)
	}
	sealed := roomy(c)
	lists, held = append(lists, sealed), append(held, whole(sealed))
	wants(t, "Open", row(35))(x.Open(nonce, beside, sealed))
	sealed[3] ^= 1
	refuses(t, "Open", api.ErrAuth)(x.Open(nonce, beside, sealed))
	sealed[3] ^= 1
	for i, list := range lists {
		if whole(list) != held[i] {
			t.Error("changed:", i)
		}
	}
}

// P4.3: what is handed in isn't kept, and answers are new memory.
func TestAnswersAreNew(t *testing.T) {
	key, nonce, b := row(16), row(12), row(35)
	x := box(t, key)
	first, _ := x.Seal(nonce, nil, b)
	want := bytes.Clone(first)
	clear(key)
	clear(first[:cap(first)])
	wants(t, "Seal", want)(x.Seal(nonce, nil, b))
	sealed := bytes.Clone(want)
	opened, _ := x.Open(nonce, nil, sealed)
	clear(opened[:cap(opened)])
	if !bytes.Equal(sealed, want) || !bytes.Equal(b, row(35)) {
		t.Error("an answer is an argument's memory")
	}
	wants(t, "Open", row(35))(x.Open(nonce, nil, sealed))
}

// P4.1: a box answers the same, whatever was asked ahead.
func TestBoxKeepsNothing(t *testing.T) {
	x := box(t, row(16))
	want, _ := x.Seal(row(12), row(5), row(20))
	x.Seal(make([]byte, 12), nil, row(99))
	x.Open(row(12), nil, row(99))
	wants(t, "Seal", want)(x.Seal(row(12), row(5), row(20)))
}

// P4.1: Same, of bytes that differ at any one place, or in their count.
func TestSame(t *testing.T) {
	if !gcm.Same(nil, nil) || !gcm.Same(nil, []byte{}) || !gcm.Same(row(20), row(20)) {
		t.Error("the same")
	}
	for i := range 20 {
		for bit := range 8 {
			other := row(20)
			other[i] ^= 1 << bit
			if gcm.Same(row(20), other) {
				t.Error("another byte", i)
			}
		}
	}
	other := row(20)
	other[2] ^= 1
	other[3] ^= 1
	if gcm.Same(row(20), other) {
		t.Error("two other bytes")
	}
	if gcm.Same(row(20), row(19)) || gcm.Same(row(19), row(20)) || gcm.Same(nil, make([]byte, 1)) || gcm.Same(make([]byte, 1), nil) {
		t.Error("another count")
	}
}

// P4.1: the seal's steps, one by one, by layer 3's calls and Times.
func TestSealStepByStep(t *testing.T) {
	key, nonce, beside, b := row(16), row(12), row(21), row(35)
	c, e := aes.New(key)
	if e != api.OK {
		t.Fatal(e)
	}
	h, _ := c.Block(make([]byte, 16))
	hidden, _ := c.Stream(append(bytes.Clone(nonce), 0, 0, 0, 2), 0, b)
	var register [16]byte
	all := append(append(bytes.Clone(beside), make([]byte, 11)...), hidden...)
	all = append(append(all, make([]byte, 13)...), 0, 0, 0, 0, 0, 0, 0, 168, 0, 0, 0, 0, 0, 0, 1, 24)
	for len(all) > 0 {
		for i := range register {
			register[i] ^= all[i]
		}
		register, all = gcm.Times(register, [16]byte(h)), all[16:]
	}
	mask, _ := c.Block(append(bytes.Clone(nonce), 0, 0, 0, 1))
	for i := range register {
		register[i] ^= mask[i]
	}
	wants(t, "Seal", append(hidden, register[:]...))(box(t, key).Seal(nonce, beside, b))
}

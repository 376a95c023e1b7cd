package aes_test

import (
	"bytes"
	stdaes "crypto/aes"
	"encoding/hex"
	"math"
	"math/rand"
	"strings"
	"testing"

	"rhyne/aes"
	"rhyne/api"
)

// row is n bytes, each another one than its neighbours.
func row(n int) []byte {
	b := make([]byte, n)
	for i := range b {
		b[i] = byte(i*3 + i>>8 + 5)
	}
	return b
}

// roomy is b with spare room behind it that is filled.
func roomy(b []byte) []byte {
	full := append(bytes.Clone(b), strings.Repeat("\xee", 200)...)
	return full[:len(b)]
}

// whole is a list with its spare room, as a text.
func whole(b []byte) string { return string(b[:cap(b)]) }

func fromHex(t *testing.T, s string) []byte {
	t.Helper()
	b, err := hex.DecodeString(s)
	if err != nil {
		t.Fatal(err)
	}
	return b
}

func cipher(t *testing.T, key []byte) *aes.Cipher {
	t.Helper()
	c, e := aes.New(key)
	if e != api.OK || c == nil {
		t.Fatal("New", e)
	}
	return c
}

// wants tells whether an answer is some bytes, without an error.
func wants(t *testing.T, what string, want []byte) func([]byte, api.Errno) {
	t.Helper()
	return func(got []byte, e api.Errno) {
		t.Helper()
		if e != api.OK || !bytes.Equal(got, want) {
			t.Errorf("%s: %x, %d", what, got, e)
		}
	}
}

// refuses tells whether an answer is ErrArg and nothing beside.
func refuses(t *testing.T, what string) func([]byte, api.Errno) {
	t.Helper()
	return func(got []byte, e api.Errno) {
		t.Helper()
		if e != api.ErrArg || len(got) != 0 {
			t.Errorf("%s: %x, %d", what, got, e)
		}
	}
}

// streamed is the stream of a counter made block by block, by the chapter's words.
func streamed(t *testing.T, c *aes.Cipher, counter []byte, blocks int) []byte {
	t.Helper()
	var out []byte
	at := bytes.Clone(counter)
	for range blocks {
		b, e := c.Block(at)
		if e != api.OK {
			t.Fatal(e)
		}
		out = append(out, b...)
		for i := 15; i >= 12; i-- {
			at[i]++
			if at[i] != 0 {
				break
			}
		}
	}
	return out
}

// P3.1: the chapter's example, and those of FIPS 197, appendix B, and SP 800-38A, F.1.1.
func TestBlockOfKnownKeys(t *testing.T) {
	for _, c := range []struct{ key, b, want string }{
		{"000102030405060708090a0b0c0d0e0f", "00112233445566778899aabbccddeeff", "69c4e0d86a7b0430d8cdb78070b4c55a"},
		{"2b7e151628aed2a6abf7158809cf4f3c", "3243f6a8885a308d313198a2e0370734", "3925841d02dc09fbdc118597196a0b32"},
		{"2b7e151628aed2a6abf7158809cf4f3c", "6bc1bee22e409f96e93d7e117393172a", "3ad77bb40d7a3660a89ecaf32466ef97"},
		{"2b7e151628aed2a6abf7158809cf4f3c", "ae2d8a571e03ac9c9eb76fac45af8e51", "f5d3d58503b9699de785895a96fdbaaf"},
		{"00000000000000000000000000000000", "00000000000000000000000000000000", "66e94bd4ef8a2c3b884cfa59ca342b2e"},
	} {
		wants(t, "Block by "+c.key, fromHex(t, c.want))(cipher(t, fromHex(t, c.key)).Block(fromHex(t, c.b)))
	}
}

// P3.1: Block of many keys and blocks.
func TestBlockOfManyKeys(t *testing.T) {
	draw := rand.New(rand.NewSource(3))
	for range 500 {
		key, b, want := make([]byte, 16), make([]byte, 16), make([]byte, 16)
		draw.Read(key)
		draw.Read(b)
		other, err := stdaes.NewCipher(key)
		if err != nil {
			t.Fatal(err)
		}
		other.Encrypt(want, b)
		wants(t, "Block", want)(cipher(t, key).Block(b))
	}
}

// P3.1: keys, blocks and counters of wrong sizes, and places ahead of the stream.
func TestWrongSizes(t *testing.T) {
	c := cipher(t, row(16))
	for _, n := range []int{0, 1, 15, 17, 24, 32, 65535} {
		if c, e := aes.New(row(n)); c != nil || e != api.ErrArg {
			t.Errorf("a key of %d bytes: %d", n, e)
		}
		refuses(t, "a block")(c.Block(row(n)))
		refuses(t, "a counter")(c.Stream(row(n), 0, row(3)))
		refuses(t, "a counter, and no bytes")(c.Stream(row(n), 0, nil))
	}
	if c, e := aes.New(nil); c != nil || e != api.ErrArg {
		t.Error("no key", e)
	}
	refuses(t, "no block")(c.Block(nil))
	refuses(t, "no counter")(c.Stream(nil, 0, row(3)))
	for _, at := range []int{-1, -16, math.MinInt} {
		refuses(t, "a place ahead of the stream")(c.Stream(row(16), at, row(3)))
		refuses(t, "a place ahead of the stream, and no bytes")(c.Stream(row(16), at, nil))
	}
}

// P3.1: the example of SP 800-38A, F.5.1.
func TestStreamOfKnownKey(t *testing.T) {
	c := cipher(t, fromHex(t, "2b7e151628aed2a6abf7158809cf4f3c"))
	plain := fromHex(t, "6bc1bee22e409f96e93d7e117393172aae2d8a571e03ac9c9eb76fac45af8e5130c81c46a35ce411e5fbc1191a0a52eff69f2445df4f9b17ad2b417be66c3710")
	want := fromHex(t, "874d6191b620e3261bef6864990db6ce9806f66b7970fdff8617187bb9fffdff5ae4df3edbd5d35e5b4f09020db03eab1e031dda2fbe03d1792170a0f3009cee")
	wants(t, "Stream", want)(c.Stream(fromHex(t, "f0f1f2f3f4f5f6f7f8f9fafbfcfdfeff"), 0, plain))
}

// P3.1: a counter's last 4 bytes begin again at 0, and the others stay.
func TestCounterBeginsAgain(t *testing.T) {
	c := cipher(t, row(16))
	for _, last := range []string{"00000000", "000000ff", "0000ffff", "00ffffff", "ffffffff", "fffffffe", "7fffffff"} {
		counter := append(bytes.Repeat([]byte{0xff}, 12), fromHex(t, last)...)
		wants(t, "Stream by "+last, streamed(t, c, counter, 5))(c.Stream(counter, 0, make([]byte, 80)))
	}
}

// P3.1: places that are far on in the stream: it begins again behind 2^32 blocks.
func TestStreamFarOn(t *testing.T) {
	c := cipher(t, row(16))
	counter := append(row(12), 0xff, 0xff, 0xff, 0xf0)
	around := 1 << 36
	begin := streamed(t, c, counter, 40)
	for _, at := range []int{0, 1, 15, 16, 17, 250, 256, 300} {
		want := begin[at : at+50]
		wants(t, "Stream", want)(c.Stream(counter, at, make([]byte, 50)))
		wants(t, "Stream, once around", want)(c.Stream(counter, around+at, make([]byte, 50)))
		wants(t, "Stream, seven times around", want)(c.Stream(counter, 7*around+at, make([]byte, 50)))
	}
	// The greatest place is the last byte but none of a round of the stream.
	ahead := append(row(12), 0xff, 0xff, 0xff, 0xef)
	want := append(streamed(t, c, ahead, 1)[15:], begin[:49]...)
	wants(t, "Stream at the greatest place", want)(c.Stream(counter, math.MaxInt, make([]byte, 50)))
}

// P3.1: no bytes are none, wherever in the stream.
func TestStreamOfNothing(t *testing.T) {
	c := cipher(t, row(16))
	for _, at := range []int{0, 1, 16, math.MaxInt} {
		wants(t, "Stream of nothing", nil)(c.Stream(row(16), at, nil))
		wants(t, "Stream of nothing", nil)(c.Stream(row(16), at, []byte{}))
	}
}

// P3.2: a stream over a stream is the bytes.
func TestStreamOverStream(t *testing.T) {
	c := cipher(t, row(16))
	for _, n := range []int{0, 1, 15, 16, 17, 100, 5000} {
		for _, at := range []int{0, 1, 15, 16, 17, 1000, math.MaxInt} {
			hidden, e := c.Stream(row(16), at, row(n))
			if e != api.OK || n > 14 && bytes.Equal(hidden, row(n)) {
				t.Errorf("%d bytes at %d aren't hidden: %d", n, at, e)
			}
			wants(t, "the stream over the stream", row(n))(c.Stream(row(16), at, hidden))
		}
	}
}

// P3.2: a stream in parts, cut anywhere, is the stream.
func TestStreamInParts(t *testing.T) {
	c := cipher(t, row(16))
	all, e := c.Stream(row(16), 0, row(70))
	if e != api.OK {
		t.Fatal(e)
	}
	for from := range 71 {
		for to := from; to <= 70; to++ {
			wants(t, "a part", all[from:to])(c.Stream(row(16), from, row(70)[from:to]))
		}
	}
}

// P3.3: neither bytes nor their spare room are changed.
func TestNothingIsChanged(t *testing.T) {
	key, counter, b := roomy(row(16)), roomy(row(16)), roomy(row(70))
	was := whole(key) + whole(counter) + whole(b)
	c := cipher(t, key)
	c.Block(b[:16])
	c.Stream(counter, 5, b)
	c.Stream(counter, 5, b[:3])
	if whole(key)+whole(counter)+whole(b) != was {
		t.Error("what was handed in is changed")
	}
}

// P3.3: the key isn't kept; an answer is nobody else's.
func TestNothingIsKept(t *testing.T) {
	key, counter, b := row(16), row(16), row(16)
	c := cipher(t, key)
	block, _ := c.Block(b)
	stream, _ := c.Stream(counter, 0, b)
	blockWas, streamWas := bytes.Clone(block), bytes.Clone(stream)
	clear(key)
	clear(block)
	clear(stream)
	wants(t, "Block behind a change", blockWas)(c.Block(b))
	wants(t, "Stream behind a change", streamWas)(c.Stream(counter, 0, b))
	if !bytes.Equal(b, row(16)) || !bytes.Equal(counter, row(16)) {
		t.Error("an answer shares memory with what was handed in")
	}
	other := cipher(t, make([]byte, 16))
	wants(t, "Block with another cipher beside", blockWas)(c.Block(b))
	if got, _ := other.Block(b); bytes.Equal(got, blockWas) {
		t.Error("two ciphers have one key")
	}
}

// P1: a nil cipher, and one that New did not make: neither has a key.
func TestNoCipher(t *testing.T) {
	for _, c := range []*aes.Cipher{nil, {}} {
		refuses(t, "Block")(c.Block(row(16)))
		refuses(t, "Block of nothing")(c.Block(nil))
		refuses(t, "Stream")(c.Stream(row(16), 0, row(16)))
		refuses(t, "Stream of nothing")(c.Stream(nil, -1, nil))
	}
}

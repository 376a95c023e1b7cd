package sha_test

import (
	"bytes"
	"crypto/hmac"
	"crypto/sha256"
	"encoding/hex"
	"strings"
	"testing"

	"rhyne/sha"
)

// row is n bytes, each another one than its neighbours.
func row(n int) []byte {
	b := make([]byte, n)
	for i := range b {
		b[i] = byte(i*7 + i>>8)
	}
	return b
}

// roomy is b with spare room behind it that is filled.
func roomy(b []byte) []byte {
	full := append(bytes.Clone(b), strings.Repeat("\xee", 200)...)
	return full[:len(b)]
}

// whole is a list with its spare room, as a text.
func whole(b []byte) string { return string(b[:cap(b)]) }

func text(sum [sha.Size]byte) string { return hex.EncodeToString(sum[:]) }

// P1.1: the examples of FIPS 180-4 and of the chapter.
func TestSumOfKnownTexts(t *testing.T) {
	for s, want := range map[string]string{
		"":    "e3b0c44298fc1c149afbf4c8996fb92427ae41e4649b934ca495991b7852b855",
		"abc": "ba7816bf8f01cfea414140de5dae2223b00361a396177a9cb410ff61f20015ad",
		"abcdbcdecdefdefgefghfghighijhijkijkljklmklmnlmnomnopnopq":                                                         "248d6a61d20638b8e5c026930c3e6039a33ce45964ff2167f6ecedd419db06c1",
		"abcdefghbcdefghicdefghijdefghijkefghijklfghijklmghijklmnhijklmnoijklmnopjklmnopqklmnopqrlmnopqrsmnopqrstnopqrstu": "cf5b16a778af8380036ce59e7b0492370b249b11e8f07a51afac45037afee9d1",
		strings.Repeat("a", 1000000): "cdc76e5c9914fb9281a1c7e284d73e67f1809a48a497200e046d39ccc7112cd0",
	} {
		if got := text(sha.Sum([]byte(s))); got != want {
			t.Errorf("Sum of %d bytes: %s", len(s), got)
		}
	}
	if sha.Sum(nil) != sha.Sum([]byte{}) {
		t.Error("nil and empty bytes have two sums")
	}
}

// P1.1: all lengths about the ends of blocks, where the padding takes one block more.
func TestSumOfAllLengths(t *testing.T) {
	for n := range 400 {
		if b := row(n); sha.Sum(b) != sha256.Sum256(b) {
			t.Errorf("Sum of %d bytes", n)
		}
	}
	if b := row(1 << 20); sha.Sum(b) != sha256.Sum256(b) {
		t.Error("Sum of 2^20 bytes")
	}
}

// P1.1: the examples of RFC 4231 that aren't cut, and that of the chapter.
func TestMacOfKnownTexts(t *testing.T) {
	long := strings.Repeat("\xaa", 131)
	for _, c := range []struct{ key, b, want string }{
		{"", "", "b613679a0814d9ec772f95d778c35fc5ff1697c493715653c6c712144292c5ad"},
		{strings.Repeat("\x0b", 20), "Hi There", "b0344c61d8db38535ca8afceaf0bf12b881dc200c9833da726e9376c2e32cff7"},
		{"Jefe", "what do ya want for nothing?", "5bdcc146bf60754e6a042426089575c75a003f089d2739839dec58b964ec3843"},
		{strings.Repeat("\xaa", 20), strings.Repeat("\xdd", 50), "773ea91e36800e46854db8ebd09181a72959098b3ef8c122d9635514ced565fe"},
		{long, "Test Using Larger Than Block-Size Key - Hash Key First", "60e431591ee0b67f0d8a26aacbf5b77f8e0bc6213728c5140546040f0ee37f54"},
	} {
		if got := text(sha.Mac([]byte(c.key), []byte(c.b))); got != c.want {
			t.Errorf("Mac(%q, %q): %s", c.key, c.b, got)
		}
	}
}

// P1.1: keys of all lengths, of 64 bytes and 65 among them, from where on they are summed.
func TestMacOfAllLengths(t *testing.T) {
	for n := range 200 {
		for _, m := range []int{0, 1, 63, 64, 100} {
			key, b := row(n), row(m)
			h := hmac.New(sha256.New, key)
			h.Write(b)
			if got := sha.Mac(key, b); !bytes.Equal(got[:], h.Sum(nil)) {
				t.Errorf("Mac of a key of %d bytes and %d bytes", n, m)
			}
		}
	}
	exact, over := row(64), row(65)
	sum, sumOver := sha.Sum(exact), sha.Sum(over)
	if sha.Mac(exact, exact) == sha.Mac(sum[:], exact) {
		t.Error("a key of 64 bytes was summed")
	}
	if sha.Mac(over, over) != sha.Mac(sumOver[:], over) {
		t.Error("a key of 65 bytes wasn't summed")
	}
	if sha.Mac(nil, exact) != sha.Mac([]byte{}, exact) || sha.Mac(exact, nil) != sha.Mac(exact, []byte{}) {
		t.Error("nil and empty bytes have two Macs")
	}
}

// P1.2: bytes in two parts, cut anywhere, with nothing written between.
func TestHashOfTwoParts(t *testing.T) {
	b := row(200)
	for n := range len(b) + 1 {
		for cut := range n + 1 {
			h := sha.New()
			h.Write(b[:cut])
			h.Write(nil)
			h.Write(b[cut:n])
			if h.Sum() != sha256.Sum256(b[:n]) || h.Len() != n {
				t.Fatalf("%d bytes, cut at %d", n, cut)
			}
		}
	}
}

// P1.2: parts of one size, with the sum asked behind each, twice.
func TestHashAskedOften(t *testing.T) {
	b := row(500)
	for size := 1; size < 150; size++ {
		h := sha.New()
		for n := 0; n < len(b); n += size {
			if h.Len() != n || h.Sum() != sha256.Sum256(b[:n]) || h.Sum() != sha256.Sum256(b[:n]) {
				t.Fatalf("parts of %d bytes: the first %d", size, n)
			}
			h.Write(b[n:min(n+size, len(b))])
		}
		if h.Sum() != sha256.Sum256(b) || h.Len() != len(b) {
			t.Fatalf("parts of %d bytes: all", size)
		}
	}
}

// P1.2: two hashes have nothing in common, nor have a hash and its copy.
func TestHashesApart(t *testing.T) {
	one, two := sha.New(), sha.New()
	one.Write([]byte("ab"))
	two.Write([]byte("x"))
	third := *one
	third.Write([]byte("x"))
	one.Write([]byte("c"))
	if one.Sum() != sha.Sum([]byte("abc")) || two.Sum() != sha.Sum([]byte("x")) || third.Sum() != sha.Sum([]byte("abx")) {
		t.Error("one hash's bytes are another one's too")
	}
}

// P1.2: bytes that are counted in more than 32 bits, as bits.
func TestHashOfManyBytes(t *testing.T) {
	if testing.Short() {
		t.Skip("half a gigabyte")
	}
	part := make([]byte, 1<<20)
	h, want := sha.New(), sha256.New()
	for range 513 {
		h.Write(part)
		want.Write(part)
	}
	if got := h.Sum(); !bytes.Equal(got[:], want.Sum(nil)) || h.Len() != 513<<20 {
		t.Error("the sum of 513 * 2^20 bytes")
	}
}

// P1.3: neither bytes nor their spare room are changed.
func TestNothingIsChanged(t *testing.T) {
	for _, n := range []int{0, 1, 55, 56, 63, 64, 65, 130} {
		key, b := roomy(row(n)), roomy(row(n+3))
		keyWas, was := whole(key), whole(b)
		sha.Sum(b)
		sha.Mac(key, b)
		h := sha.New()
		h.Write(b)
		h.Sum()
		if whole(key) != keyWas || whole(b) != was {
			t.Errorf("%d bytes were changed", n)
		}
	}
}

// P1.3: bytes that change once they were written are in the sum as they were.
func TestNothingIsKept(t *testing.T) {
	for _, n := range []int{1, 63, 64, 65, 130} {
		b := row(n)
		h := sha.New()
		h.Write(b)
		clear(b)
		if h.Sum() != sha256.Sum256(row(n)) {
			t.Errorf("of %d bytes some were kept", n)
		}
	}
	h := sha.New()
	sum := h.Sum()
	clear(sum[:])
	if h.Sum() != sha.Sum(nil) {
		t.Error("the answer is the hash's own")
	}
}

// P1: a nil hash.
func TestNilHash(t *testing.T) {
	var h *sha.Hash
	h.Write([]byte("abc"))
	h.Write(nil)
	if h.Len() != 0 || h.Sum() != sha.Sum(nil) {
		t.Error("a nil hash has bytes")
	}
}

// P1: a hash that New did not make is one of no bytes.
func TestZeroHash(t *testing.T) {
	var h sha.Hash
	if h.Len() != 0 || h.Sum() != sha.Sum(nil) {
		t.Error("a zero hash has bytes")
	}
	h.Write([]byte("abc"))
	if h.Len() != 3 || h.Sum() != sha.Sum([]byte("abc")) {
		t.Error("a zero hash takes no bytes")
	}
}

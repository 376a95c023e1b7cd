package curve_test

import (
	"crypto/ecdh"
	"encoding/hex"
	"math/rand"
	"testing"

	"rhyne/api"
	"rhyne/curve"
)

// key is a key's bytes.
func key(t *testing.T, s string) [32]byte {
	t.Helper()
	b, err := hex.DecodeString(s)
	if err != nil || len(b) != 32 {
		t.Fatal(s, err)
	}
	return [32]byte(b)
}

// drawn is a key of bytes that are drawn.
func drawn(draw *rand.Rand) [32]byte {
	var k [32]byte
	draw.Read(k[:])
	return k
}

// library is what the library answers, noughts where it refuses.
func library(t *testing.T, number, point [32]byte) [32]byte {
	t.Helper()
	own, err := ecdh.X25519().NewPrivateKey(number[:])
	if err != nil {
		t.Fatal(err)
	}
	other, err := ecdh.X25519().NewPublicKey(point[:])
	if err != nil {
		t.Fatal(err)
	}
	secret, err := own.ECDH(other)
	if err != nil {
		return [32]byte{}
	}
	return [32]byte(secret)
}

// few are the points that are 0 eight times over, on the curve and on its twist, each also as a number of p or more, and with the highest bit.
func few(t *testing.T) [][32]byte {
	t.Helper()
	var out [][32]byte
	for _, s := range []string{
		"0000000000000000000000000000000000000000000000000000000000000000",
		"0100000000000000000000000000000000000000000000000000000000000000",
		"e0eb7a7c3b41b8ae1656e3faf19fc46ada098deb9c32b1fd866205165f49b800",
		"5f9c95bca3508c24b1d0b1559c83ef5b04445cc4581c8e86d8224eddd09f1157",
		"ecffffffffffffffffffffffffffffffffffffffffffffffffffffffffffff7f",
		"edffffffffffffffffffffffffffffffffffffffffffffffffffffffffffff7f",
		"eeffffffffffffffffffffffffffffffffffffffffffffffffffffffffffff7f",
	} {
		k := key(t, s)
		out = append(out, k)
		k[31] |= 128
		out = append(out, k)
	}
	return out
}

// P6.1: the examples of RFC 7748, section 5.2.
func TestTimesOfKnownPoints(t *testing.T) {
	for _, c := range []struct{ number, point, want string }{
		{"a546e36bf0527c9d3b16154b82465edd62144c0ac1fc5a18506a2244ba449ac4", "e6db6867583030db3594c1a424b15f7c726624ec26b3353b10a903a6d0ab1c4c", "c3da55379de9c6908e94ea4df28d084f32eccf03491c71f754b4075577a28552"},
		{"4b66e9d4d1b4673c5ad22691957d6af5c11b6421e0ea01d42ca4169e7918ba0d", "e5210f12786811d3f4b7959d0538ae2c31dbe7106fc03c3efc4cd549c715a493", "95cbde9476e8907d7aade45cb4b873f88b595a68799fa152e6f8f7647aac7957"},
	} {
		if got := curve.Times(key(t, c.number), key(t, c.point)); got != key(t, c.want) {
			t.Errorf("%x", got)
		}
	}
}

// P6.1: the row of RFC 7748, section 5.2: each answer is the next number, each number the next point.
func TestTimesInARow(t *testing.T) {
	number, point := [32]byte{9}, [32]byte{9}
	for i := 1; i <= 1000; i++ {
		number, point = curve.Times(number, point), number
		if i == 1 && number != key(t, "422c8e7a6227d7bca1350b3e2bb7279f7897b87bb6854b783c60e80311ae3079") {
			t.Errorf("once: %x", number)
		}
	}
	if number != key(t, "684cf59ba83309552800ef566f2f4d3c1c3887c49360e3875f2eb94d99532c51") {
		t.Errorf("1000 times: %x", number)
	}
}

// P6.1: Times of many numbers and points, of the curve and of its twist.
func TestTimesOfManyPoints(t *testing.T) {
	draw := rand.New(rand.NewSource(6))
	for range 300 {
		number, point := drawn(draw), drawn(draw)
		if got, want := curve.Times(number, point), library(t, number, point); got != want {
			t.Errorf("%x times %x: %x, not %x", number, point, got, want)
		}
	}
}

// P6.1: numbers and points of noughts and ones alone, and points at p.
func TestTimesAtEdges(t *testing.T) {
	var full [32]byte
	for i := range full {
		full[i] = 255
	}
	points := [][32]byte{{9}, {2}, {255}, full}
	for low := 0xda; low <= 0xff; low++ {
		for _, top := range []byte{127, 255} {
			point := full
			point[0], point[31] = byte(low), top
			points = append(points, point)
		}
	}
	for _, point := range points {
		for _, number := range [][32]byte{{}, {1}, {7}, {8}, {31: 64}, {31: 128}, full} {
			if got, want := curve.Times(number, point), library(t, number, point); got != want {
				t.Errorf("%x times %x: %x, not %x", number, point, got, want)
			}
		}
	}
}

// P6.1: the number's lowest three bits and its highest one count as 0, the bit below that as 1; the point's highest bit is left out.
func TestBitsThatDontCount(t *testing.T) {
	draw := rand.New(rand.NewSource(16))
	number, point := drawn(draw), drawn(draw)
	want := curve.Times(number, point)
	for _, c := range []struct {
		at  int
		bit byte
	}{{0, 1}, {0, 2}, {0, 4}, {31, 64}, {31, 128}} {
		other := number
		other[c.at] ^= c.bit
		if curve.Times(other, point) != want {
			t.Errorf("the number's bit %d of byte %d counts", c.bit, c.at)
		}
	}
	for _, c := range []struct {
		at  int
		bit byte
	}{{0, 8}, {0, 128}, {31, 32}} {
		other := number
		other[c.at] ^= c.bit
		if curve.Times(other, point) == want {
			t.Errorf("the number's bit %d of byte %d doesn't count", c.bit, c.at)
		}
	}
	other := point
	other[31] ^= 128
	if curve.Times(number, other) != want {
		t.Error("the point's highest bit counts")
	}
	other[31] ^= 64
	if curve.Times(number, other) == want {
		t.Error("the point's bit below it doesn't count")
	}
}

// P6.1: the examples of RFC 7748, section 6.1; the chapter's are of them.
func TestKnownKeys(t *testing.T) {
	a := key(t, "77076d0a7318a57d3c16c17251b26645df4c2f87ebc0992ab177fba51db92c2a")
	b := key(t, "5dab087e624a8a4b79e17f8b83800ee66f3bb1292618b6fd1c2f8b27ff88e0eb")
	x, y := curve.Public(a), curve.Public(b)
	if x != key(t, "8520f0098930a754748b7ddcb43ef75a0dbf3a0d26381af4eba4a98eaa9b4e6a") {
		t.Errorf("a's public key: %x", x)
	}
	if y != key(t, "de9edb7d7b7dc1b4d35b61c2ece435373f8343c85b78674dadfc7e146f882b4f") {
		t.Errorf("b's public key: %x", y)
	}
	want := key(t, "4a5d9d5ba4ce2de1728e3bf480350f25e07e21c947d19e3376f09b3c1e161742")
	if s, e := curve.Shared(a, y); s != want || e != api.OK {
		t.Errorf("a's secret: %x, %d", s, e)
	}
	if s, e := curve.Shared(b, x); s != want || e != api.OK {
		t.Errorf("b's secret: %x, %d", s, e)
	}
}

// P6.1: whoever shows a point of few is refused, and 0 is the answer of Times.
func TestPointsOfFew(t *testing.T) {
	draw := rand.New(rand.NewSource(26))
	keys := [][32]byte{{}, {1}, drawn(draw), drawn(draw)}
	for _, point := range few(t) {
		for _, k := range keys {
			if s, e := curve.Shared(k, point); e != api.ErrAuth || s != [32]byte{} {
				t.Errorf("%x: %x, %d", point, s, e)
			}
			if got := curve.Times(k, point); got != [32]byte{} {
				t.Errorf("%x: %x", point, got)
			}
		}
	}
	if s, e := curve.Shared(keys[2], [32]byte{2}); e != api.OK || s == [32]byte{} {
		t.Errorf("a point of many: %x, %d", s, e)
	}
}

// P6.2: two make the same secret, of any keys; Public is Times of 9, Shared is Times of the public key.
func TestTwoHaveOneSecret(t *testing.T) {
	draw := rand.New(rand.NewSource(36))
	for i := range 100 {
		a, b := drawn(draw), drawn(draw)
		if i == 0 {
			a, b = [32]byte{}, [32]byte{1}
		}
		if curve.Public(a) != curve.Times(a, [32]byte{9}) {
			t.Errorf("Public of %x", a)
		}
		s, e := curve.Shared(a, curve.Public(b))
		u, f := curve.Shared(b, curve.Public(a))
		if s != u || e != api.OK || f != api.OK || s != curve.Times(a, curve.Public(b)) {
			t.Errorf("%x and %x: %x, %d; %x, %d", a, b, s, e, u, f)
		}
	}
}

func TestSize(t *testing.T) {
	if curve.Size != 32 {
		t.Error(curve.Size)
	}
}

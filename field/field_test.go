package field_test

import (
	"math/big"
	"math/rand"
	"slices"
	"testing"

	"rhyne/field"
)

// prime is 2^255 - 19.
func prime() *big.Int {
	p := new(big.Int).Lsh(big.NewInt(1), 255)
	return p.Sub(p, big.NewInt(19))
}

// both is a number, as it is made here and by the library.
type both struct {
	elem field.Elem
	want *big.Int
}

// of is a number of bytes.
func of(b [32]byte) both {
	elem := field.Of(b)
	b[31] &= 127
	slices.Reverse(b[:])
	n := new(big.Int).SetBytes(b[:])
	return both{elem, n.Mod(n, prime())}
}

// bytesOf is a number's bytes, the lowest first.
func bytesOf(n *big.Int) [32]byte {
	var b [32]byte
	n.FillBytes(b[:])
	slices.Reverse(b[:])
	return b
}

// same tells if the number isn't that of the library.
func same(t *testing.T, what string, n both) {
	t.Helper()
	if got, want := n.elem.Bytes(), bytesOf(n.want); got != want {
		t.Errorf("%s: %x, not %x", what, got, want)
	}
}

func modulo(n *big.Int) *big.Int { return n.Mod(n, prime()) }

func (n both) add(m both) both {
	return both{n.elem.Add(m.elem), modulo(new(big.Int).Add(n.want, m.want))}
}

func (n both) sub(m both) both {
	return both{n.elem.Sub(m.elem), modulo(new(big.Int).Sub(n.want, m.want))}
}

func (n both) mul(m both) both {
	return both{n.elem.Mul(m.elem), modulo(new(big.Int).Mul(n.want, m.want))}
}

// inv has 0 for 0.
func (n both) inv() both {
	want := new(big.Int)
	if n.want.Sign() != 0 {
		want.ModInverse(n.want, prime())
	}
	return both{n.elem.Inv(), want}
}

// near is a number near to a power of two, or to p, with the highest bit set or not.
func near(power uint, more int64, top byte) [32]byte {
	n := new(big.Int).Lsh(big.NewInt(1), power)
	n.Add(n, big.NewInt(more))
	n.Mod(n, new(big.Int).Lsh(big.NewInt(1), 255))
	b := bytesOf(n)
	b[31] |= top
	return b
}

// edges are numbers at limbs' and words' ends, at p, at all that p is less than, and at 0.
func edges() []both {
	out := []both{{field.Elem{}, new(big.Int)}}
	for more := int64(-22); more <= 22; more++ {
		out = append(out, of(near(255, more, 0)), of(near(255, more, 128)))
	}
	for _, power := range []uint{1, 7, 8, 50, 51, 52, 63, 64, 102, 128, 153, 192, 204, 253, 254} {
		for more := int64(-1); more <= 1; more++ {
			out = append(out, of(near(power, more, 0)))
		}
	}
	return out
}

// P5.1: Of and Bytes, at the edges of p and without the highest bit.
func TestOf(t *testing.T) {
	for _, n := range edges() {
		same(t, "Of", n)
	}
	draw := rand.New(rand.NewSource(5))
	for range 2000 {
		var b [32]byte
		draw.Read(b[:])
		same(t, "Of", of(b))
	}
}

// P5.1: the chapter's examples.
func TestExamples(t *testing.T) {
	p := bytesOf(prime())
	if field.Of(p).Bytes() != [32]byte{} || (field.Elem{}).Bytes() != [32]byte{} {
		t.Error("p is not 0")
	}
	p[0]++
	if field.Of(p).Bytes() != [32]byte{1} {
		t.Error("p and 1 is not 1")
	}
	half := [32]byte{0xf7}
	less := [32]byte{0xec}
	for i := 1; i < 32; i++ {
		half[i], less[i] = 0xff, 0xff
	}
	half[31], less[31] = 0x3f, 0x7f
	if got := field.Of([32]byte{2}).Inv().Bytes(); got != half {
		t.Errorf("Inv of 2: %x", got)
	}
	if got := field.Of([32]byte{}).Sub(field.Of([32]byte{1})).Bytes(); got != less {
		t.Errorf("0 - 1: %x", got)
	}
}

// P5.1: sums, differences and products of all edges by one another.
func TestEdges(t *testing.T) {
	all := edges()
	for _, n := range all {
		for _, m := range all {
			same(t, "Add", n.add(m))
			same(t, "Sub", n.sub(m))
			same(t, "Mul", n.mul(m))
		}
	}
}

// P5.1: what is once less of each edge: the number 0 - 0 and its like are given by other limbs than Of gives.
func TestOtherLimbs(t *testing.T) {
	all := edges()
	for _, n := range all {
		zero := n.sub(n)
		same(t, "n - n", zero)
		same(t, "0 - (n - n)", all[0].sub(zero))
		same(t, "Inv of n - n", zero.inv())
		same(t, "(n - n) + n", zero.add(n))
		same(t, "(n - n) * n", zero.mul(n))
	}
}

// P5.1: the inverse, of 0 in all its forms as well.
func TestInv(t *testing.T) {
	for _, n := range edges() {
		same(t, "Inv", n.inv())
	}
	one := bytesOf(big.NewInt(1))
	draw := rand.New(rand.NewSource(6))
	for range 50 {
		var b [32]byte
		draw.Read(b[:])
		n := of(b)
		same(t, "Inv", n.inv())
		if got := n.elem.Mul(n.elem.Inv()).Bytes(); got != one {
			t.Errorf("%x by its inverse: %x", b, got)
		}
	}
}

// P5.1: calls of what other calls answered, in long rows.
func TestRows(t *testing.T) {
	draw := rand.New(rand.NewSource(7))
	held := edges()
	for i := range 60000 {
		n, m := held[draw.Intn(len(held))], held[draw.Intn(len(held))]
		var got both
		switch draw.Intn(5) {
		case 0, 1:
			got = n.add(m)
		case 2, 3:
			got = n.sub(m)
		default:
			got = n.mul(m)
		}
		if i%16 == 0 {
			same(t, "a row's number", got)
		}
		held[draw.Intn(len(held))] = got
	}
	for _, n := range held {
		same(t, "a row's end", n)
	}
}

// P5.1: sums of sums and differences of differences, without a product between.
func TestManySums(t *testing.T) {
	n := of(near(255, -1, 0))
	up, down := n, n
	for range 1000 {
		up = up.add(up)
		down = down.sub(n)
		same(t, "the double", up)
		same(t, "one less", down)
	}
	same(t, "their product", up.mul(down))
}

// P5.1: Swap, and that it changes nothing else.
func TestSwap(t *testing.T) {
	all := edges()
	for _, n := range all {
		for _, m := range all {
			a, b := field.Swap(true, n.elem, m.elem)
			if a != m.elem || b != n.elem {
				t.Fatal("not swapped", n.want, m.want)
			}
			a, b = field.Swap(false, n.elem, m.elem)
			if a != n.elem || b != m.elem {
				t.Fatal("swapped", n.want, m.want)
			}
		}
	}
}

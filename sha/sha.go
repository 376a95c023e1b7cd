// Package sha is layer 1: a sum of bytes: see shared/doc/01-sha.md.
package sha

import "math/bits"

// Size is how many bytes a sum has.
const Size = 32

// blockSize is how many bytes are summed at one time.
const blockSize = 64

// lengthSize is how many bytes tell, behind the padding, how many bits were summed.
const lengthSize = 8

// constants are the first 32 bits of the cube roots' fractions of the first 64 primes (FIPS 180-4, 4.2.2).
var constants = [64]uint32{
	0x428a2f98, 0x71374491, 0xb5c0fbcf, 0xe9b5dba5, 0x3956c25b, 0x59f111f1, 0x923f82a4, 0xab1c5ed5,
	0xd807aa98, 0x12835b01, 0x243185be, 0x550c7dc3, 0x72be5d74, 0x80deb1fe, 0x9bdc06a7, 0xc19bf174,
	0xe49b69c1, 0xefbe4786, 0x0fc19dc6, 0x240ca1cc, 0x2de92c6f, 0x4a7484aa, 0x5cb0a9dc, 0x76f988da,
	0x983e5152, 0xa831c66d, 0xb00327c8, 0xbf597fc7, 0xc6e00bf3, 0xd5a79147, 0x06ca6351, 0x14292967,
	0x27b70a85, 0x2e1b2138, 0x4d2c6dfc, 0x53380d13, 0x650a7354, 0x766a0abb, 0x81c2c92e, 0x92722c85,
	0xa2bfe8a1, 0xa81a664b, 0xc24b8b70, 0xc76c51a3, 0xd192e819, 0xd6990624, 0xf40e3585, 0x106aa070,
	0x19a4c116, 0x1e376c08, 0x2748774c, 0x34b0bcb5, 0x391c0cb3, 0x4ed8aa4a, 0x5b9cca4f, 0x682e6ff3,
	0x748f82ee, 0x78a5636f, 0x84c87814, 0x8cc70208, 0x90befffa, 0xa4506ceb, 0xbef9a3f7, 0xc67178f2,
}

// Sum answers SHA-256 of b, as FIPS 180-4 says.
func Sum(b []byte) [Size]byte {
	var h Hash
	h.Write(b)
	return h.Sum()
}

// Hash takes bytes one behind the other; of no bytes it is the zero Hash.
type Hash struct {
	state  [8]uint32
	block  [blockSize]byte
	length uint64
}

// New answers a hash of no bytes yet.
func New() *Hash { return &Hash{} }

// Write takes more bytes.
func (h *Hash) Write(b []byte) {
	if h == nil {
		return
	}
	if h.length == 0 {
		h.state = start()
	}
	held := int(h.length % blockSize)
	h.length += uint64(len(b))
	if held > 0 {
		n := copy(h.block[held:], b)
		b = b[n:]
		if held+n < blockSize {
			return
		}
		h.state = turn(h.state, h.block)
	}
	for len(b) >= blockSize {
		h.state = turn(h.state, [blockSize]byte(b))
		b = b[blockSize:]
	}
	copy(h.block[:], b)
}

// Sum answers that of all bytes up to now. It pads a copy, so that h may go on.
func (h *Hash) Sum() [Size]byte {
	var last Hash
	if h != nil {
		last = *h
	}
	var pad [blockSize + lengthSize]byte
	pad[0] = 0x80
	// The padding ends a block together with the length behind it.
	n := blockSize - int((last.length+lengthSize)%blockSize)
	putLength(pad[n:], last.length*8)
	last.Write(pad[:n+lengthSize])
	return sumOf(last.state)
}

// Len answers how many bytes there were.
func (h *Hash) Len() int {
	if h == nil {
		return 0
	}
	return int(h.length)
}

// Mac answers HMAC-SHA-256 of b by the key, as RFC 2104 says.
func Mac(key, b []byte) [Size]byte {
	block := keyBlock(key)
	inner := keyed(block, 0x36)
	inner.Write(b)
	sum := inner.Sum()
	outer := keyed(block, 0x5c)
	outer.Write(sum[:])
	return outer.Sum()
}

// keyBlock is a key with noughts up to a block; one that is longer counts as its sum.
func keyBlock(key []byte) [blockSize]byte {
	var block [blockSize]byte
	if len(key) <= blockSize {
		copy(block[:], key)
		return block
	}
	sum := Sum(key)
	copy(block[:], sum[:])
	return block
}

// keyed is a hash of a key's block that is put together with one byte.
func keyed(block [blockSize]byte, with byte) *Hash {
	for i := range block {
		block[i] ^= with
	}
	h := New()
	h.Write(block[:])
	return h
}

// start is the state ahead of any block: the square roots' fractions of the first 8 primes.
func start() [8]uint32 {
	return [8]uint32{
		0x6a09e667, 0xbb67ae85, 0x3c6ef372, 0xa54ff53a,
		0x510e527f, 0x9b05688c, 0x1f83d9ab, 0x5be0cd19,
	}
}

// turn is the state behind one block more.
func turn(state [8]uint32, block [blockSize]byte) [8]uint32 {
	w := schedule(block)
	a, b, c, d, e, f, g, h := state[0], state[1], state[2], state[3], state[4], state[5], state[6], state[7]
	for i, word := range w {
		big := bits.RotateLeft32(e, -6) ^ bits.RotateLeft32(e, -11) ^ bits.RotateLeft32(e, -25)
		first := h + big + ((e & f) ^ (^e & g)) + constants[i] + word
		big = bits.RotateLeft32(a, -2) ^ bits.RotateLeft32(a, -13) ^ bits.RotateLeft32(a, -22)
		second := big + ((a & b) ^ (a & c) ^ (b & c))
		a, b, c, d, e, f, g, h = first+second, a, b, c, d+first, e, f, g
	}
	for i, v := range [8]uint32{a, b, c, d, e, f, g, h} {
		state[i] += v
	}
	return state
}

// schedule is a block's words, one for each of the 64 steps.
func schedule(block [blockSize]byte) [64]uint32 {
	var w [64]uint32
	for i := range 16 {
		w[i] = uint32(block[4*i])<<24 | uint32(block[4*i+1])<<16 | uint32(block[4*i+2])<<8 | uint32(block[4*i+3])
	}
	for i := 16; i < len(w); i++ {
		x, y := w[i-15], w[i-2]
		x = bits.RotateLeft32(x, -7) ^ bits.RotateLeft32(x, -18) ^ x>>3
		y = bits.RotateLeft32(y, -17) ^ bits.RotateLeft32(y, -19) ^ y>>10
		w[i] = y + w[i-7] + x + w[i-16]
	}
	return w
}

// putLength writes a count of bits, the highest byte first.
func putLength(b []byte, n uint64) {
	for i := range lengthSize {
		b[i] = byte(n >> (56 - 8*i))
	}
}

// sumOf is a state's bytes.
func sumOf(state [8]uint32) [Size]byte {
	var sum [Size]byte
	for i := range sum {
		sum[i] = byte(state[i/4] >> (24 - 8*(i%4)))
	}
	return sum
}

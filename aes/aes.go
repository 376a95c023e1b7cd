// Package aes is layer 3: a block of bytes, turned by a key: see shared/doc/03-aes.md.
package aes

import (
	"math/bits"

	"rhyne/api"
)

// Size is how many bytes a key and a block have.
const Size = 16

// rounds is how often a block is turned.
const rounds = 10

// words is a block as numbers, each of 4 bytes, the highest first: one column each.
type words [4]uint32

// Cipher is a key that is made ready: the words that go into a block ahead of the first round and in each one.
type Cipher struct {
	keys [rounds + 1]words
}

// New answers the cipher of a key.
func New(key []byte) (*Cipher, api.Errno) {
	if len(key) != Size {
		return nil, api.ErrArg
	}
	c := &Cipher{}
	box := substitutes()
	c.keys[0] = wordsOf([Size]byte(key))
	round := byte(1)
	for i := range rounds {
		c.keys[i+1] = nextKey(&box, c.keys[i], round)
		round = byte(double(uint32(round)))
	}
	return c, api.OK
}

// Block answers AES-128 of a block, as FIPS 197 says.
func (c *Cipher) Block(b []byte) ([]byte, api.Errno) {
	if !c.ready() || len(b) != Size {
		return nil, api.ErrArg
	}
	box := substitutes()
	out := bytesOf(c.turn(&box, wordsOf([Size]byte(b))))
	return out[:], api.OK
}

// Stream answers b put together with the stream of a counter, from the stream's byte at on.
func (c *Cipher) Stream(counter []byte, at int, b []byte) ([]byte, api.Errno) {
	if !c.ready() || len(counter) != Size || at < 0 {
		return nil, api.ErrArg
	}
	box := substitutes()
	next := wordsOf([Size]byte(counter))
	// The last word alone counts, so that it wraps without touching the others.
	next[3] += uint32(at / Size)
	skip := at % Size
	out := make([]byte, len(b))
	for done := 0; done < len(b); next[3]++ {
		block := bytesOf(c.turn(&box, next))
		for _, k := range block[skip:min(Size, skip+len(b)-done)] {
			out[done] = b[done] ^ k
			done++
		}
		skip = 0
	}
	return out, api.OK
}

// ready tells whether c has a key: no key makes noughts alone, so a cipher of these was not made by New.
func (c *Cipher) ready() bool {
	return c != nil && c.keys != [rounds + 1]words{}
}

// turn is a block, turned by all rounds.
func (c *Cipher) turn(box *[256]byte, s words) words {
	s = together(s, c.keys[0])
	for i := 1; i < rounds; i++ {
		s = shifted(box, s)
		for j, w := range s {
			s[j] = mixed(w)
		}
		s = together(s, c.keys[i])
	}
	return together(shifted(box, s), c.keys[rounds])
}

// shifted is a block with each byte substituted, and each row moved on by its own number.
func shifted(box *[256]byte, s words) words {
	var out words
	for i := range s {
		out[i] = uint32(box[s[i]>>24])<<24 |
			uint32(box[s[(i+1)%4]>>16&0xff])<<16 |
			uint32(box[s[(i+2)%4]>>8&0xff])<<8 |
			uint32(box[s[(i+3)%4]&0xff])
	}
	return out
}

// mixed is a column, as a polynomial, times 3x^3 + x^2 + x + 2: each byte's double, three times the next one, and the other two.
func mixed(w uint32) uint32 {
	next := bits.RotateLeft32(w, 8)
	return double(w^next) ^ next ^ bits.RotateLeft32(w, 16) ^ bits.RotateLeft32(w, 24)
}

// double is each of a word's bytes times x, modulo x^8 + x^4 + x^3 + x + 1.
func double(w uint32) uint32 {
	return (w&0x7f7f7f7f)<<1 ^ (w>>7&0x01010101)*0x1b
}

// together is two blocks put together by exclusive or.
func together(a, b words) words {
	for i := range a {
		a[i] ^= b[i]
	}
	return a
}

// nextKey is the words of the round behind that of k.
func nextKey(box *[256]byte, k words, round byte) words {
	w := bits.RotateLeft32(k[3], 8)
	w = uint32(box[w>>24])<<24 | uint32(box[w>>16&0xff])<<16 | uint32(box[w>>8&0xff])<<8 | uint32(box[w&0xff])
	w ^= uint32(round) << 24
	for i := range k {
		w ^= k[i]
		k[i] = w
	}
	return k
}

// wordsOf is a block's words.
func wordsOf(b [Size]byte) words {
	var s words
	for i, v := range b {
		s[i/4] = s[i/4]<<8 | uint32(v)
	}
	return s
}

// bytesOf is the bytes of a block's words.
func bytesOf(s words) [Size]byte {
	var b [Size]byte
	for i := range b {
		b[i] = byte(s[i/4] >> (24 - 8*(i%4)))
	}
	return b
}

// substitutes is what stands for each byte (FIPS 197, figure 7). It is made anew by each call, as it is too long for the package.
func substitutes() [256]byte {
	return [256]byte{
		0x63, 0x7c, 0x77, 0x7b, 0xf2, 0x6b, 0x6f, 0xc5, 0x30, 0x01, 0x67, 0x2b, 0xfe, 0xd7, 0xab, 0x76,
		0xca, 0x82, 0xc9, 0x7d, 0xfa, 0x59, 0x47, 0xf0, 0xad, 0xd4, 0xa2, 0xaf, 0x9c, 0xa4, 0x72, 0xc0,
		0xb7, 0xfd, 0x93, 0x26, 0x36, 0x3f, 0xf7, 0xcc, 0x34, 0xa5, 0xe5, 0xf1, 0x71, 0xd8, 0x31, 0x15,
		0x04, 0xc7, 0x23, 0xc3, 0x18, 0x96, 0x05, 0x9a, 0x07, 0x12, 0x80, 0xe2, 0xeb, 0x27, 0xb2, 0x75,
		0x09, 0x83, 0x2c, 0x1a, 0x1b, 0x6e, 0x5a, 0xa0, 0x52, 0x3b, 0xd6, 0xb3, 0x29, 0xe3, 0x2f, 0x84,
		0x53, 0xd1, 0x00, 0xed, 0x20, 0xfc, 0xb1, 0x5b, 0x6a, 0xcb, 0xbe, 0x39, 0x4a, 0x4c, 0x58, 0xcf,
		0xd0, 0xef, 0xaa, 0xfb, 0x43, 0x4d, 0x33, 0x85, 0x45, 0xf9, 0x02, 0x7f, 0x50, 0x3c, 0x9f, 0xa8,
		0x51, 0xa3, 0x40, 0x8f, 0x92, 0x9d, 0x38, 0xf5, 0xbc, 0xb6, 0xda, 0x21, 0x10, 0xff, 0xf3, 0xd2,
		0xcd, 0x0c, 0x13, 0xec, 0x5f, 0x97, 0x44, 0x17, 0xc4, 0xa7, 0x7e, 0x3d, 0x64, 0x5d, 0x19, 0x73,
		0x60, 0x81, 0x4f, 0xdc, 0x22, 0x2a, 0x90, 0x88, 0x46, 0xee, 0xb8, 0x14, 0xde, 0x5e, 0x0b, 0xdb,
		0xe0, 0x32, 0x3a, 0x0a, 0x49, 0x06, 0x24, 0x5c, 0xc2, 0xd3, 0xac, 0x62, 0x91, 0x95, 0xe4, 0x79,
		0xe7, 0xc8, 0x37, 0x6d, 0x8d, 0xd5, 0x4e, 0xa9, 0x6c, 0x56, 0xf4, 0xea, 0x65, 0x7a, 0xae, 0x08,
		0xba, 0x78, 0x25, 0x2e, 0x1c, 0xa6, 0xb4, 0xc6, 0xe8, 0xdd, 0x74, 0x1f, 0x4b, 0xbd, 0x8b, 0x8a,
		0x70, 0x3e, 0xb5, 0x66, 0x48, 0x03, 0xf6, 0x0e, 0x61, 0x35, 0x57, 0xb9, 0x86, 0xc1, 0x1d, 0x9e,
		0xe1, 0xf8, 0x98, 0x11, 0x69, 0xd9, 0x8e, 0x94, 0x9b, 0x1e, 0x87, 0xe9, 0xce, 0x55, 0x28, 0xdf,
		0x8c, 0xa1, 0x89, 0x0d, 0xbf, 0xe6, 0x42, 0x68, 0x41, 0x99, 0x2d, 0x0f, 0xb0, 0x54, 0xbb, 0x16,
	}
}

package farm

import "rhyne/sha"

// source draws bytes that nobody knows ahead; all sources of one seed draw the same.
type source struct {
	seed  int
	drawn int // how many blocks of them
}

// numberSize is how many bytes a number has of which bytes are drawn.
const numberSize = 8

// block draws as many bytes as a sum has.
func (s *source) block() [sha.Size]byte {
	s.drawn++
	return sha.Sum(append(bytesOf(s.seed), bytesOf(s.drawn)...))
}

// bytes draws so many.
func (s *source) bytes(n int) []byte {
	var b []byte
	for len(b) < n {
		block := s.block()
		b = append(b, block[:]...)
	}
	return b[:n]
}

// below draws a number from 0 to one less than n.
func (s *source) below(n int) int {
	sum := 0
	for _, v := range s.bytes(numberSize / 2) {
		sum = sum<<8 | int(v)
	}
	return sum % n
}

// bytesOf are a number's bytes.
func bytesOf(n int) []byte {
	var b []byte
	for range numberSize {
		b = append(b, byte(n))
		n >>= 8
	}
	return b
}

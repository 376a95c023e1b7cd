// Package hkdf is layer 2: keys from secrets: see shared/doc/02-hkdf.md.
package hkdf

import (
	"rhyne/api"
	"rhyne/sha"
)

// prefix stands ahead of each label.
const prefix = "tls13 "

// The limits: what a byte can count, of blocks and of bytes.
const (
	maxExpand  = 255 * sha.Size
	maxLabel   = 255 - len(prefix)
	maxContext = 255
)

// Extract answers a secret of what is secret in b.
func Extract(salt, b []byte) []byte {
	sum := sha.Mac(salt, b)
	return sum[:]
}

// Expand answers the first n bytes of the secret's blocks for a use.
func Expand(secret, info []byte, n int) ([]byte, api.Errno) {
	if n < 0 || n > maxExpand {
		return nil, api.ErrArg
	}
	out := make([]byte, 0, n)
	said := make([]byte, 0, sha.Size+len(info)+1)
	for count := 1; len(out) < n; count++ {
		said = append(said, info...)
		said = append(said, byte(count))
		block := sha.Mac(secret, said)
		out = append(out, block[:min(sha.Size, n-len(out))]...)
		said = append(said[:0], block[:]...)
	}
	return out, api.OK
}

// Label answers n bytes of a secret, for a use that has a name and a context.
func Label(secret []byte, label string, context []byte, n int) ([]byte, api.Errno) {
	if n < 0 || n > maxExpand {
		return nil, api.ErrArg
	}
	if len(label) > maxLabel || len(context) > maxContext {
		return nil, api.ErrBig
	}
	info := make([]byte, 0, 2+1+len(prefix)+len(label)+1+len(context))
	info = append(info, byte(n>>8), byte(n), byte(len(prefix)+len(label)))
	info = append(info, prefix...)
	info = append(info, label...)
	info = append(info, byte(len(context)))
	info = append(info, context...)
	return Expand(secret, info, n)
}

// Schedule is the secrets of a talk, one behind the other; ahead of any it is the zero Schedule.
type Schedule struct {
	secret []byte
}

// New answers a schedule ahead of any secret.
func New() *Schedule { return &Schedule{} }

// Mix takes the next secret in; none stands for noughts.
func (s *Schedule) Mix(b []byte) {
	salt, e := s.Derive("derived", nil)
	if e != api.OK {
		return
	}
	if len(b) == 0 {
		b = make([]byte, sha.Size)
	}
	s.secret = Extract(salt, b)
}

// Derive answers a secret of the schedule, for a use, by the sum of what was said.
func (s *Schedule) Derive(label string, transcript []byte) ([]byte, api.Errno) {
	if s == nil {
		return nil, api.ErrArg
	}
	sum := sha.Sum(transcript)
	return Label(s.now(), label, sum[:], sha.Size)
}

// now is the secret as it is, or the first one if nothing was mixed in.
func (s *Schedule) now() []byte {
	if s.secret == nil {
		return Extract(nil, make([]byte, sha.Size))
	}
	return s.secret
}

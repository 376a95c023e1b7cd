package guard

import (
	"rhyne/aes"
	"rhyne/api"
	"rhyne/gcm"
	"rhyne/hkdf"
	"rhyne/sha"
)

// Bytes that secrets, keys and resets have.
const (
	secretSize = 32
	keySize    = aes.Size
	ivSize     = 12
	maskSize   = aes.Size
	resetSize  = 16
)

// firstSalt is version 1's, of which the first secrets are made (RFC 9001, section 5.2).
const firstSalt = "\x38\x76\x2c\xf7\xf5\x59\x34\xb3\x4d\x17\x9a\xe6\xa4\xc8\x0c\xad\xcc\xbb\x7f\x0a"

// The key and the nonce of all Retries (RFC 9001, section 5.8).
const (
	retryKey   = "\xbe\x0c\x69\x0b\x9f\x66\x57\x5a\x1d\x76\x6b\x54\xe3\x68\xc8\x4e"
	retryNonce = "\x46\x15\x99\xd3\x5d\x63\x2b\xf2\x23\x98\x25\xbb"
)

// Keys are those of one direction.
type Keys struct {
	Key, Iv, Mask string
}

// Of answers the keys of a secret.
func Of(secret string) (Keys, api.Errno) {
	if len(secret) != secretSize {
		return Keys{}, api.ErrArg
	}
	key, e := labelled(secret, "quic key", keySize)
	if e != api.OK {
		return Keys{}, e
	}
	iv, e := labelled(secret, "quic iv", ivSize)
	if e != api.OK {
		return Keys{}, e
	}
	mask, e := labelled(secret, "quic hp", maskSize)
	if e != api.OK {
		return Keys{}, e
	}
	return Keys{Key: key, Iv: iv, Mask: mask}, api.OK
}

// Next answers the secret behind one.
func Next(secret string) (string, api.Errno) {
	if len(secret) != secretSize {
		return "", api.ErrArg
	}
	return labelled(secret, "quic ku", secretSize)
}

// First answers the client's secret and the server's, for whoever is called first by a name: both ends know them ahead of any talk.
func First(dst string) (string, string, api.Errno) {
	if len(dst) > api.MaxId {
		return "", "", api.ErrArg
	}
	common := string(hkdf.Extract([]byte(firstSalt), []byte(dst)))
	client, e := labelled(common, "client in", secretSize)
	if e != api.OK {
		return "", "", e
	}
	server, e := labelled(common, "server in", secretSize)
	if e != api.OK {
		return "", "", e
	}
	return client, server, api.OK
}

// RetryTag answers the seal of a Retry, for whoever was called by a name. Its key is known to all: it tells that the Retry is an answer to that name.
func RetryTag(dst string, retry []byte) (string, api.Errno) {
	if len(dst) > api.MaxId {
		return "", api.ErrArg
	}
	box, e := gcm.New([]byte(retryKey))
	if e != api.OK {
		return "", e
	}
	beside := make([]byte, 0, 1+len(dst)+len(retry))
	beside = append(beside, byte(len(dst)))
	beside = append(beside, dst...)
	beside = append(beside, retry...)
	tag, e := box.Seal([]byte(retryNonce), beside, nil)
	return string(tag), e
}

// Reset answers what tells that whoever had a name has forgotten all.
func Reset(secret, id string) string {
	sum := sha.Mac([]byte(secret), []byte(id))
	return string(sum[:resetSize])
}

// whole tells whether each key has its count of bytes.
func (k Keys) whole() bool {
	return len(k.Key) == keySize && len(k.Iv) == ivSize && len(k.Mask) == maskSize
}

// labelled is n bytes of a secret for a use, as a text.
func labelled(secret, label string, n int) (string, api.Errno) {
	b, e := hkdf.Label([]byte(secret), label, nil, n)
	return string(b), e
}

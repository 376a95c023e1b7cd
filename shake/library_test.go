package shake_test

import (
	"bytes"
	"crypto/aes"
	"crypto/cipher"
	"crypto/ecdh"
	stdhkdf "crypto/hkdf"
	"crypto/hmac"
	"crypto/sha256"
	"testing"

	"rhyne/shake"
)

// The library's sums and ciphers, put together by the chapter's words: what each end is to say and to know.

// countIn makes texts with their counts in so many bytes; 0: in the fewest.
func countIn(size int) func(string) []byte {
	return func(s string) []byte {
		n := len(s)
		switch {
		case size == 1 || size == 0 && n < 64:
			return append([]byte{byte(n)}, s...)
		case size == 2 || size == 0:
			return append([]byte{0x40 | byte(n>>8), byte(n)}, s...)
		case size == 4:
			return append([]byte{0x80, 0, byte(n >> 8), byte(n)}, s...)
		}
		return append([]byte{0xc0, 0, 0, 0, 0, 0, byte(n >> 8), byte(n)}, s...)
	}
}

// message is a message's bytes.
func message(kind byte, parts ...[]byte) []byte {
	body := bytes.Join(parts, nil)
	return append([]byte{kind, byte(len(body) >> 16), byte(len(body) >> 8), byte(len(body))}, body...)
}

// times is X25519.
func times(t *testing.T, own, public []byte) []byte {
	t.Helper()
	k, err := ecdh.X25519().NewPrivateKey(own)
	if err != nil {
		t.Fatal(err)
	}
	p, err := ecdh.X25519().NewPublicKey(public)
	if err != nil {
		t.Fatal(err)
	}
	b, err := k.ECDH(p)
	if err != nil {
		t.Fatal(err)
	}
	return b
}

// public is the key that one shows.
func public(t *testing.T, own [32]byte) []byte {
	t.Helper()
	k, err := ecdh.X25519().NewPrivateKey(own[:])
	if err != nil {
		t.Fatal(err)
	}
	return k.PublicKey().Bytes()
}

func mac(key, b []byte) []byte {
	h := hmac.New(sha256.New, key)
	h.Write(b)
	return h.Sum(nil)
}

func sum(b []byte) []byte {
	s := sha256.Sum256(b)
	return s[:]
}

// label is 32 bytes of a secret for a use.
func label(t *testing.T, secret []byte, use string, context []byte) []byte {
	t.Helper()
	info := append([]byte{0, 32, byte(6 + len(use))}, "tls13 "+use...)
	info = append(append(info, byte(len(context))), context...)
	b, err := stdhkdf.Expand(sha256.New, secret, string(info), 32)
	if err != nil {
		t.Fatal(err)
	}
	return b
}

// mixed is the next secret of a schedule.
func mixed(t *testing.T, secret, b []byte) []byte {
	t.Helper()
	if len(b) == 0 {
		b = make([]byte, 32)
	}
	return mac(label(t, secret, "derived", sum(nil)), b)
}

// sealedTicket is a ticket of some bytes.
func sealedTicket(t *testing.T, seal, protocol string, nonce []byte, secret string) string {
	t.Helper()
	block, err := aes.NewCipher([]byte(seal))
	if err != nil {
		t.Fatal(err)
	}
	g, err := cipher.NewGCM(block)
	if err != nil {
		t.Fatal(err)
	}
	return string(g.Seal(bytes.Clone(nonce), nonce, []byte(secret), []byte(protocol)))
}

// words are all messages of a talk, and what both ends know by them.
type words struct {
	hello, answer, speech, name, proof, seal, reply, ticket []byte
	level1, level2                                          [2]string
	next                                                    string // the next talk's secret
	token                                                   string // the ticket
}

// flight is all that the server says at level 1.
func (w words) flight() []byte {
	return bytes.Join([][]byte{w.speech, w.name, w.proof, w.seal}, nil)
}

// talked is what is said between two ends, the ticket's secret being taken if it isn't empty.
func talked(t *testing.T, c, s shake.Config, secret string) words {
	t.Helper()
	return talkedIn(t, c, s, secret, 0, 0)
}

// talkedIn is what is said by ends whose texts have counts in so many bytes.
func talkedIn(t *testing.T, c, s shake.Config, secret string, clientSize, serverSize int) words {
	t.Helper()
	var w words
	text := countIn(clientSize)
	taken := byte(0)
	if secret != "" {
		taken = 1
	}
	mine := public(t, c.Key)
	w.hello = message(1, c.Random[:], mine, text(c.Protocol), text(c.Params), text(c.Ticket))
	w.answer = message(2, s.Random[:], public(t, s.Key), []byte{taken})
	said := append(bytes.Clone(w.hello), w.answer...)

	now := mixed(t, mac(nil, make([]byte, 32)), []byte(secret))
	now = mixed(t, now, times(t, s.Key[:], mine))
	client, server := label(t, now, "c hs traffic", sum(said)), label(t, now, "s hs traffic", sum(said))
	w.level1 = [2]string{string(client), string(server)}
	now = mixed(t, now, nil)

	text = countIn(serverSize)
	w.speech = message(8, text(s.Protocol), text(s.Params))
	said = append(said, w.speech...)
	if secret == "" {
		w.name = message(11, public(t, s.Own))
		said = append(said, w.name...)
		w.proof = message(15, mac(times(t, s.Own[:], mine), sum(said)))
		said = append(said, w.proof...)
	}
	w.seal = message(20, mac(label(t, server, "finished", nil), sum(said)))
	said = append(said, w.seal...)
	w.level2 = [2]string{string(label(t, now, "c ap traffic", sum(said))), string(label(t, now, "s ap traffic", sum(said)))}
	w.reply = message(20, mac(label(t, client, "finished", nil), sum(said)))
	said = append(said, w.reply...)
	w.next = string(label(t, now, "res master", sum(said)))
	w.token = sealedTicket(t, s.Seal, s.Protocol, s.Random[:12], w.next)
	w.ticket = message(4, text(w.token))
	return w
}

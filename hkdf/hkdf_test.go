package hkdf_test

import (
	"bytes"
	stdhkdf "crypto/hkdf"
	"crypto/sha256"
	"encoding/hex"
	"math"
	"strings"
	"testing"

	"rhyne/api"
	"rhyne/hkdf"
	"rhyne/sha"
)

// row is n bytes, each another one than its neighbours.
func row(n int) []byte {
	b := make([]byte, n)
	for i := range b {
		b[i] = byte(i*5 + i>>8 + 1)
	}
	return b
}

// roomy is b with spare room behind it that is filled.
func roomy(b []byte) []byte {
	full := append(bytes.Clone(b), strings.Repeat("\xee", 200)...)
	return full[:len(b)]
}

// whole is a list with its spare room, as a text.
func whole(b []byte) string { return string(b[:cap(b)]) }

func fromHex(t *testing.T, s string) []byte {
	t.Helper()
	b, err := hex.DecodeString(s)
	if err != nil {
		t.Fatal(err)
	}
	return b
}

// wants tells whether an answer is some bytes, without an error.
func wants(t *testing.T, what string, want []byte) func([]byte, api.Errno) {
	t.Helper()
	return func(got []byte, e api.Errno) {
		t.Helper()
		if e != api.OK || !bytes.Equal(got, want) {
			t.Errorf("%s: %x, %d", what, got, e)
		}
	}
}

// refuses tells whether an answer is an error and nothing beside.
func refuses(t *testing.T, what string, want api.Errno) func([]byte, api.Errno) {
	t.Helper()
	return func(got []byte, e api.Errno) {
		t.Helper()
		if e != want || len(got) != 0 {
			t.Errorf("%s: %x, %d", what, got, e)
		}
	}
}

// P2.1: the examples of RFC 5869 with SHA-256.
func TestExtractAndExpandOfKnownSecrets(t *testing.T) {
	for _, c := range []struct{ b, salt, info, secret, out string }{
		{
			"0b0b0b0b0b0b0b0b0b0b0b0b0b0b0b0b0b0b0b0b0b0b", "000102030405060708090a0b0c", "f0f1f2f3f4f5f6f7f8f9",
			"077709362c2e32df0ddc3f0dc47bba6390b6c73bb50f9c3122ec844ad7c2b3e5",
			"3cb25f25faacd57a90434f64d0362f2a2d2d0a90cf1a5a4c5db02d56ecc4c5bf34007208d5b887185865",
		},
		{
			"000102030405060708090a0b0c0d0e0f101112131415161718191a1b1c1d1e1f202122232425262728292a2b2c2d2e2f303132333435363738393a3b3c3d3e3f404142434445464748494a4b4c4d4e4f",
			"606162636465666768696a6b6c6d6e6f707172737475767778797a7b7c7d7e7f808182838485868788898a8b8c8d8e8f909192939495969798999a9b9c9d9e9fa0a1a2a3a4a5a6a7a8a9aaabacadaeaf",
			"b0b1b2b3b4b5b6b7b8b9babbbcbdbebfc0c1c2c3c4c5c6c7c8c9cacbcccdcecfd0d1d2d3d4d5d6d7d8d9dadbdcdddedfe0e1e2e3e4e5e6e7e8e9eaebecedeeeff0f1f2f3f4f5f6f7f8f9fafbfcfdfeff",
			"06a6b88c5853361a06104c9ceb35b45cef760014904671014a193f40c15fc244",
			"b11e398dc80327a1c8e7f78c596a49344f012eda2d4efad8a050cc4c19afa97c59045a99cac7827271cb41c65e590e09da3275600c2f09b8367793a9aca3db71cc30c58179ec3e87c14c01d5c1f3434f1d87",
		},
		{
			"0b0b0b0b0b0b0b0b0b0b0b0b0b0b0b0b0b0b0b0b0b0b", "", "",
			"19ef24a32c717b167f33a91d6f648bdf96596776afdb6377ac434c1c293ccb04",
			"8da4e775a563c18f715f802a063c5a31b8a11f5c5ee1879ec3454e5f3c738d2d9d201395faa4b61a96c8",
		},
	} {
		secret := hkdf.Extract(fromHex(t, c.salt), fromHex(t, c.b))
		wants(t, "Extract", fromHex(t, c.secret))(secret, api.OK)
		out := fromHex(t, c.out)
		wants(t, "Expand", out)(hkdf.Expand(secret, fromHex(t, c.info), len(out)))
	}
}

// P2.1: Extract is the Mac by the salt, of salts and bytes of many lengths.
func TestExtractIsTheMac(t *testing.T) {
	for _, n := range []int{0, 1, 32, 64, 65, 100} {
		for _, m := range []int{0, 1, 32, 64, 65, 100} {
			want := sha.Mac(row(n), row(m))
			wants(t, "Extract", want[:])(hkdf.Extract(row(n), row(m)), api.OK)
		}
	}
	if !bytes.Equal(hkdf.Extract(nil, nil), hkdf.Extract([]byte{}, []byte{})) {
		t.Error("nil and empty bytes have two secrets")
	}
}

// P2.1: Expand of secrets and infos of many lengths, to lengths about the blocks' ends.
func TestExpandOfManyLengths(t *testing.T) {
	for _, secretSize := range []int{0, 1, 32, 64, 65, 200} {
		for _, infoSize := range []int{0, 1, 10, 63, 300} {
			for _, n := range []int{0, 1, 31, 32, 33, 63, 64, 65, 255, 256, 1000, 8128, 8129, 8159, 8160} {
				secret, info := row(secretSize), row(infoSize)
				want, err := stdhkdf.Expand(sha256.New, secret, string(info), n)
				if err != nil {
					t.Fatal(err)
				}
				wants(t, "Expand", want)(hkdf.Expand(secret, info, n))
			}
		}
	}
}

// P2.1: how many bytes may be asked for.
func TestExpandLimits(t *testing.T) {
	wants(t, "0 bytes", nil)(hkdf.Expand(row(32), row(3), 0))
	wants(t, "0 bytes of nothing", nil)(hkdf.Expand(nil, nil, 0))
	for _, n := range []int{-1, math.MinInt, 8161, 8192, 65535, 65536, math.MaxInt} {
		refuses(t, "Expand", api.ErrArg)(hkdf.Expand(row(32), row(3), n))
		refuses(t, "Expand of nothing", api.ErrArg)(hkdf.Expand(nil, nil, n))
		refuses(t, "Label", api.ErrArg)(hkdf.Label(row(32), "key", nil, n))
	}
	if b, e := hkdf.Expand(row(32), nil, 8160); len(b) != 8160 || e != api.OK {
		t.Error("8160 bytes are too many for Expand", e)
	}
	if b, e := hkdf.Label(row(32), "key", nil, 8160); len(b) != 8160 || e != api.OK {
		t.Error("8160 bytes are too many for Label", e)
	}
}

// P2.1: the example of the chapter, and the keys of RFC 9001, appendix A.1.
func TestLabelOfKnownSecrets(t *testing.T) {
	want, _ := hkdf.Expand(nil, fromHex(t, "001009746c733133206b657900"), 16)
	wants(t, "the chapter's example", want)(hkdf.Label(nil, "key", nil, 16))

	initial := hkdf.Extract(fromHex(t, "38762cf7f55934b34d179ae6a4c80cadccbb7f0a"), fromHex(t, "8394c8f03e515708"))
	wants(t, "initial", fromHex(t, "7db5df06e7a69e432496adedb00851923595221596ae2ae9fb8115c1e9ed0a44"))(initial, api.OK)
	client := fromHex(t, "c00cf151ca5be075ed0ebfb5c80323c42d6b7db67881289af4008f1f6c357aea")
	wants(t, "client in", client)(hkdf.Label(initial, "client in", nil, 32))
	wants(t, "server in", fromHex(t, "3c199828fd139efd216c155ad844cc81fb82fa8d7446fa7d78be803acdda951b"))(hkdf.Label(initial, "server in", nil, 32))
	wants(t, "quic key", fromHex(t, "1f369613dd76d5467730efcbe3b1a22d"))(hkdf.Label(client, "quic key", nil, 16))
	wants(t, "quic iv", fromHex(t, "fa044b2f42a3fd3b46fb255c"))(hkdf.Label(client, "quic iv", nil, 12))
	wants(t, "quic hp", fromHex(t, "9f50449e04a0e810283a1e9933adedd2"))(hkdf.Label(client, "quic hp", nil, 16))
}

// P2.1: Label's info, with the counts in it, of labels and contexts up to the longest.
func TestLabelIsExpandByItsInfo(t *testing.T) {
	for _, labelSize := range []int{0, 1, 249} {
		for _, contextSize := range []int{0, 1, 32, 255} {
			for _, n := range []int{0, 1, 255, 256, 8160} {
				label, context := row(labelSize), row(contextSize)
				info := []byte{byte(n / 256), byte(n % 256), byte(6 + labelSize)}
				info = append(info, "tls13 "...)
				info = append(info, label...)
				info = append(info, byte(contextSize))
				info = append(info, context...)
				want, e := hkdf.Expand(row(32), info, n)
				if e != api.OK {
					t.Fatal(e)
				}
				wants(t, "Label", want)(hkdf.Label(row(32), string(label), context, n))
			}
		}
	}
}

// P2.1: the longest label and context, and which error comes first.
func TestLabelErrors(t *testing.T) {
	long, longest := strings.Repeat("l", 250), strings.Repeat("l", 249)
	refuses(t, "a label of 250 bytes", api.ErrBig)(hkdf.Label(row(32), long, nil, 32))
	refuses(t, "a context of 256 bytes", api.ErrBig)(hkdf.Label(row(32), "key", row(256), 32))
	refuses(t, "both", api.ErrBig)(hkdf.Label(row(32), long, row(256), 0))
	refuses(t, "both, and -1", api.ErrArg)(hkdf.Label(row(32), long, row(256), -1))
	refuses(t, "both, and 8161", api.ErrArg)(hkdf.Label(row(32), long, row(256), 8161))
	if b, e := hkdf.Label(nil, longest, row(255), 32); len(b) != 32 || e != api.OK {
		t.Error("the longest label and context", e)
	}
}

// P2.1: the secrets of RFC 8448, section 3: each next one is told by what is derived of it.
func TestScheduleOfKnownSecrets(t *testing.T) {
	s := hkdf.New()
	wants(t, "the first", fromHex(t, "6f2615a108c702c5678f54fc9dbab69716c076189c48250cebeac3576c3611ba"))(s.Derive("derived", nil))
	s.Mix(fromHex(t, "8bd4054fb55b9d63fdfbacf9f04b9f0d35e6d63f537563efd46272900f89492d"))
	wants(t, "the handshake's", fromHex(t, "43de77e0c77713859a944db9db2590b53190a65b3ee2e4f12dd7a0bb7ce254b4"))(s.Derive("derived", nil))
	s.Mix(nil)
	master := fromHex(t, "18df06843d13a08bf2a449844c5f8a478001bc4d4c627984d5a41da8d0402919")
	empty := sha256.Sum256(nil)
	want, _ := hkdf.Label(master, "derived", empty[:], 32)
	wants(t, "the master's", want)(s.Derive("derived", nil))
}

// P2.1: a schedule, step by step, with what is mixed in of many lengths.
func TestScheduleStepByStep(t *testing.T) {
	s := hkdf.New()
	secret := hkdf.Extract(nil, make([]byte, 32))
	empty := sha256.Sum256(nil)
	for _, n := range []int{0, 32, 1, 0, 64, 65, 200} {
		said := row(n + 3)
		sum := sha256.Sum256(said)
		want, _ := hkdf.Label(secret, "c hs traffic", sum[:], 32)
		wants(t, "Derive", want)(s.Derive("c hs traffic", said))
		wants(t, "Derive once more", want)(s.Derive("c hs traffic", said))
		b := row(n)
		s.Mix(b)
		if n == 0 {
			b = make([]byte, 32)
		}
		salt, _ := hkdf.Label(secret, "derived", empty[:], 32)
		secret = hkdf.Extract(salt, b)
	}
}

// P2.1: an empty text is no text, and noughts stand for it.
func TestMixOfNothing(t *testing.T) {
	one, two, three := hkdf.New(), hkdf.New(), hkdf.New()
	one.Mix(nil)
	two.Mix([]byte{})
	three.Mix(make([]byte, 32))
	a, _ := one.Derive("x", nil)
	b, _ := two.Derive("x", []byte{})
	c, _ := three.Derive("x", nil)
	if !bytes.Equal(a, b) || !bytes.Equal(a, c) {
		t.Error("nothing, an empty text and 32 noughts aren't mixed in alike")
	}
	if d, _ := hkdf.New().Derive("x", nil); bytes.Equal(a, d) {
		t.Error("nothing was mixed in")
	}
}

// P2.1: a label that is too long for Derive, which leaves the schedule as it was.
func TestDeriveErrors(t *testing.T) {
	s := hkdf.New()
	s.Mix(row(32))
	was, _ := s.Derive("x", nil)
	refuses(t, "a label of 250 bytes", api.ErrBig)(s.Derive(strings.Repeat("l", 250), row(300)))
	if b, e := s.Derive(strings.Repeat("l", 249), row(300)); len(b) != 32 || e != api.OK {
		t.Error("a label of 249 bytes", e)
	}
	wants(t, "the schedule behind them", was)(s.Derive("x", nil))
}

// P1: a nil schedule.
func TestNilSchedule(t *testing.T) {
	var s *hkdf.Schedule
	s.Mix(nil)
	s.Mix(row(32))
	refuses(t, "a nil schedule", api.ErrArg)(s.Derive("x", nil))
	refuses(t, "a nil schedule and a long label", api.ErrArg)(s.Derive(strings.Repeat("l", 250), nil))
}

// P1: a schedule that New did not make is one ahead of any secret.
func TestZeroSchedule(t *testing.T) {
	var s hkdf.Schedule
	made := hkdf.New()
	for range 2 {
		want, _ := made.Derive("x", row(5))
		wants(t, "a zero schedule", want)(s.Derive("x", row(5)))
		made.Mix(row(7))
		s.Mix(row(7))
	}
}

// P2.2: fewer bytes are the beginning of more.
func TestFewerBytesAreTheBeginning(t *testing.T) {
	all, e := hkdf.Expand(row(32), row(9), 8160)
	if e != api.OK {
		t.Fatal(e)
	}
	for n := range 200 {
		wants(t, "the first bytes", all[:n])(hkdf.Expand(row(32), row(9), n))
	}
	for n := 200; n <= 8160; n += 199 {
		wants(t, "the first bytes", all[:n])(hkdf.Expand(row(32), row(9), n))
	}
}

// P2.3: neither bytes nor their spare room are changed.
func TestNothingIsChanged(t *testing.T) {
	one, two, three := roomy(row(32)), roomy(row(40)), roomy(row(50))
	was := whole(one) + whole(two) + whole(three)
	hkdf.Extract(one, two)
	hkdf.Expand(one, two, 100)
	hkdf.Label(one, "key", two, 100)
	s := hkdf.New()
	s.Mix(one)
	s.Derive("x", three)
	s.Mix(one[:0])
	s.Derive("x", two[:0])
	if whole(one)+whole(two)+whole(three) != was {
		t.Error("what was handed in is changed")
	}
}

// P2.3: what is handed in isn't kept; an answer is nobody else's.
func TestNothingIsKept(t *testing.T) {
	b := row(32)
	s, fresh := hkdf.New(), hkdf.New()
	s.Mix(b)
	fresh.Mix(row(32))
	clear(b)
	first, _ := s.Derive("x", b)
	want, _ := fresh.Derive("x", make([]byte, 32))
	wants(t, "behind a change of what was mixed in", want)(first, api.OK)
	clear(first)
	wants(t, "behind a change of an answer", want)(s.Derive("x", b))

	secret, info := row(32), row(20)
	out, _ := hkdf.Expand(secret, info, 64)
	clear(out[:cap(out)])
	again, _ := hkdf.Label(secret, "", info, 64)
	clear(again[:cap(again)])
	extracted := hkdf.Extract(secret, info)
	clear(extracted[:cap(extracted)])
	if !bytes.Equal(secret, row(32)) || !bytes.Equal(info, row(20)) {
		t.Error("an answer shares memory with what was handed in")
	}
}

// P2.3: two schedules have nothing in common.
func TestSchedulesApart(t *testing.T) {
	one, two := hkdf.New(), hkdf.New()
	was, _ := two.Derive("x", nil)
	one.Mix(row(32))
	wants(t, "the other schedule", was)(two.Derive("x", nil))
}

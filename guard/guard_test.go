package guard_test

import (
	"bytes"
	"crypto/aes"
	"crypto/cipher"
	"crypto/hmac"
	"crypto/sha256"
	"encoding/hex"
	"math"
	"math/rand"
	"strings"
	"testing"

	"rhyne/api"
	"rhyne/guard"
	"rhyne/packet"
)

const top = 1<<62 - 1

// row is n bytes, each another one than its neighbours.
func row(n int) []byte {
	b := make([]byte, n)
	for i := range b {
		b[i] = byte(i*5 + i>>8 + 1)
	}
	return b
}

// roomy is b with spare room behind it that is filled.
func roomy(b []byte) []byte {
	full := append(bytes.Clone(b), strings.Repeat("\xee", 200)...)
	return full[:len(b)]
}

// filled is b with its spare room, as a text.
func filled(b []byte) string { return string(b[:cap(b)]) }

func fromHex(t *testing.T, s string) []byte {
	t.Helper()
	b, err := hex.DecodeString(strings.ReplaceAll(s, " ", ""))
	if err != nil {
		t.Fatal(err)
	}
	return b
}

// some are keys of which no two have a byte in common at one place.
func some() guard.Keys {
	return guard.Keys{Key: string(row(16)), Iv: string(row(40)[20:32]), Mask: string(row(70)[50:66])}
}

// headOf is a head of n bytes ahead of the number's: of a long header, or of a short one.
func headOf(long bool, n, size, number int) []byte {
	h := row(n)
	h[0] = 0x54
	if long {
		h[0] = 0xe8
	}
	h[0] |= byte(size - 1)
	for i := range size {
		h = append(h, byte(number>>(8*(size-1-i))))
	}
	return h
}

// library is what a packet's bytes are, by the library's ciphers and the chapter's words.
func library(t *testing.T, k guard.Keys, head []byte, size, number int, carries []byte) []byte {
	t.Helper()
	block, err := aes.NewCipher([]byte(k.Key))
	if err != nil {
		t.Fatal(err)
	}
	mode, err := cipher.NewGCM(block)
	if err != nil {
		t.Fatal(err)
	}
	nonce := []byte(k.Iv)
	for i := range 8 {
		nonce[4+i] ^= byte(uint64(number) >> (56 - 8*i))
	}
	b := append(bytes.Clone(head), mode.Seal(nil, nonce, carries, head)...)
	hides, err := aes.NewCipher([]byte(k.Mask))
	if err != nil {
		t.Fatal(err)
	}
	at := len(head) - size
	var mask [16]byte
	hides.Encrypt(mask[:], b[at+4:at+20])
	if head[0] >= 0x80 {
		b[0] ^= mask[0] % 16
	} else {
		b[0] ^= mask[0] % 32
	}
	for i := range size {
		b[at+i] ^= mask[1+i]
	}
	return b
}

// wants tells whether an answer is some bytes, without an error.
func wants(t *testing.T, what string, want []byte) func([]byte, api.Errno) {
	t.Helper()
	return func(got []byte, e api.Errno) {
		t.Helper()
		if e != api.OK || !bytes.Equal(got, want) {
			t.Errorf("%s: %x, %d; not %x", what, got, e, want)
		}
	}
}

// refuses tells whether an answer is an error and nothing beside.
func refuses(t *testing.T, what string, want api.Errno) func([]byte, api.Errno) {
	t.Helper()
	return func(got []byte, e api.Errno) {
		t.Helper()
		if e != want || len(got) != 0 {
			t.Errorf("%s: %x, %d; not %d", what, got, e, want)
		}
	}
}

// opens tells whether a packet was opened.
func opens(t *testing.T, what string, head []byte, number int, carries []byte) func([]byte, int, []byte, api.Errno) {
	t.Helper()
	return func(h []byte, n int, c []byte, e api.Errno) {
		t.Helper()
		if e != api.OK || !bytes.Equal(h, head) || n != number || !bytes.Equal(c, carries) {
			t.Errorf("%s: %x, %x, %x, %d; not %x, %x, %x", what, h, n, c, e, head, number, carries)
		}
	}
}

// shut tells whether a packet wasn't opened, and nothing is beside the error.
func shut(t *testing.T, what string, want api.Errno) func([]byte, int, []byte, api.Errno) {
	t.Helper()
	return func(h []byte, n int, c []byte, e api.Errno) {
		t.Helper()
		if e != want || len(h) != 0 || n != 0 || len(c) != 0 {
			t.Errorf("%s: %x, %x, %x, %d; not %d", what, h, n, c, e, want)
		}
	}
}

// label is RFC 8446's HKDF-Expand-Label of at most 32 bytes, by the library.
func label(secret, name string, n int) string {
	m := hmac.New(sha256.New, []byte(secret))
	m.Write([]byte{0, byte(n), byte(6 + len(name))})
	m.Write([]byte("tls13 " + name + "\x00\x01"))
	return string(m.Sum(nil)[:n])
}

// P10.1: the secrets and keys of RFC 9001, appendix A.1.
func TestKnownKeys(t *testing.T) {
	client, server, e := guard.First(string(fromHex(t, "8394c8f03e515708")))
	if e != api.OK {
		t.Fatal(e)
	}
	for _, c := range []struct{ secret, want, key, iv, mask string }{
		{client, "c00cf151ca5be075ed0ebfb5c80323c42d6b7db67881289af4008f1f6c357aea", "1f369613dd76d5467730efcbe3b1a22d", "fa044b2f42a3fd3b46fb255c", "9f50449e04a0e810283a1e9933adedd2"},
		{server, "3c199828fd139efd216c155ad844cc81fb82fa8d7446fa7d78be803acdda951b", "cf3a5331653c364c88f0f379b6067e37", "0ac1493ca1905853b0bba03e", "c206b8d9b9f0f37644430b490eeaa314"},
	} {
		if c.secret != string(fromHex(t, c.want)) {
			t.Errorf("%x", c.secret)
		}
		k, e := guard.Of(c.secret)
		if e != api.OK || k.Key != string(fromHex(t, c.key)) || k.Iv != string(fromHex(t, c.iv)) || k.Mask != string(fromHex(t, c.mask)) {
			t.Errorf("%x, %d", k, e)
		}
	}
}

// P10.1: the next secret of RFC 9001, appendix A.5.
func TestKnownNext(t *testing.T) {
	next, e := guard.Next(string(fromHex(t, "9ac312a7f877468ebe69422748ad00a15443f18203a07d6060f688f30f21632b")))
	if e != api.OK || next != string(fromHex(t, "1223504755036d556342ee9361d253421a826c9ecdf3c7148684b36b714881f9")) {
		t.Errorf("%x, %d", next, e)
	}
}

// P10.1: Of and Next, of secrets with and without the right count of bytes.
func TestSecrets(t *testing.T) {
	for n := range 70 {
		secret := string(row(n))
		k, e := guard.Of(secret)
		next, f := guard.Next(secret)
		if n == 32 {
			want := guard.Keys{Key: label(secret, "quic key", 16), Iv: label(secret, "quic iv", 12), Mask: label(secret, "quic hp", 16)}
			if k != want || e != api.OK || next != label(secret, "quic ku", 32) || f != api.OK {
				t.Errorf("%x, %d; %x, %d", k, e, next, f)
			}
		} else if k != (guard.Keys{}) || e != api.ErrArg || next != "" || f != api.ErrArg {
			t.Errorf("%d bytes: %x, %d; %x, %d", n, k, e, next, f)
		}
	}
}

// P10.1: First, of names of all counts, and of too many bytes.
func TestFirst(t *testing.T) {
	salt := fromHex(t, "38762cf7f55934b34d179ae6a4c80cadccbb7f0a")
	for n := range 25 {
		dst := string(row(n))
		client, server, e := guard.First(dst)
		if n > 20 {
			if client != "" || server != "" || e != api.ErrArg {
				t.Errorf("%d bytes: %x, %x, %d", n, client, server, e)
			}
			continue
		}
		m := hmac.New(sha256.New, salt)
		m.Write([]byte(dst))
		common := string(m.Sum(nil))
		if client != label(common, "client in", 32) || server != label(common, "server in", 32) || e != api.OK {
			t.Errorf("%d bytes: %x, %x, %d", n, client, server, e)
		}
	}
}

// keysOf are the first keys of a name, the client's or the server's.
func keysOf(t *testing.T, dst string, server bool) guard.Keys {
	t.Helper()
	secret, other, e := guard.First(dst)
	if e != api.OK {
		t.Fatal(e)
	}
	if server {
		secret = other
	}
	k, e := guard.Of(secret)
	if e != api.OK {
		t.Fatal(e)
	}
	return k
}

// P10.1: the client's packet of RFC 9001, appendix A.2: its head, its first bytes and its seal.
func TestKnownClientPacket(t *testing.T) {
	k := keysOf(t, string(fromHex(t, "8394c8f03e515708")), false)
	carries := make([]byte, 1162)
	copy(carries, fromHex(t, `060040f1010000ed0303ebf8fa56f12939b9584a3896472ec40bb863cfd3e86804fe3a47f06a2b69484c00000413011302010000c000000010000e00000b6578616d706c652e636f6dff01000100000a00080006001d0017001800100007000504616c706e000500050100000000003300260024001d00209370b2c9caa47fbabaf4559fedba753de171fa71f50f1ce15d43e994ec74d748002b0003020304000d0010000e0403050306030203080408050806002d00020101001c00024001003900320408ffffffffffffffff05048000ffff07048000ffff0801100104800075300901100f088394c8f03e51570806048000ffff`))
	head := fromHex(t, "c300000001088394c8f03e5157080000449e00000002")
	b, e := guard.Seal(k, head, 4, 2, carries)
	if e != api.OK || len(b) != 1200 {
		t.Fatal(len(b), e)
	}
	front := fromHex(t, "c000000001088394c8f03e5157080000449e7b9aec34d1b1c98dd7689fb8ec11d242b123dc9b")
	if !bytes.HasPrefix(b, front) || !bytes.HasSuffix(b, fromHex(t, "e221af44860018ab0856972e194cd934")) {
		t.Errorf("%x", b)
	}
	opens(t, "the client's", head, 2, carries)(guard.Open(k, b, 18, 0))
}

// P10.1: the server's packet of RFC 9001, appendix A.3, byte by byte.
func TestKnownServerPacket(t *testing.T) {
	k := keysOf(t, string(fromHex(t, "8394c8f03e515708")), true)
	carries := fromHex(t, "02000000000600405a020000560303eefce7f7b37ba1d1632e96677825ddf73988cfc79825df566dc5430b9a045a1200130100002e00330024001d00209d3c940d89690b84d08a60993c144eca684d1081287c834d5311bcf32bb9da1a002b00020304")
	head := fromHex(t, "c1000000010008f067a5502a4262b50040750001")
	want := fromHex(t, "cf000000010008f067a5502a4262b5004075c0d95a482cd0991cd25b0aac406a5816b6394100f37a1c69797554780bb38cc5a99f5ede4cf73c3ec2493a1839b3dbcba3f6ea46c5b7684df3548e7ddeb9c3bf9c73cc3f3bded74b562bfb19fb84022f8ef4cdd93795d77d06edbb7aaf2f58891850abbdca3d20398c276456cbc42158407dd074ee")
	wants(t, "the server's", want)(guard.Seal(k, head, 2, 1, carries))
	opens(t, "the server's", head, 1, carries)(guard.Open(k, want, 18, 0))
}

// P10.1: the Retry of RFC 9001, appendix A.4, and others by the library.
func TestRetryTag(t *testing.T) {
	tag, e := guard.RetryTag(string(fromHex(t, "8394c8f03e515708")), fromHex(t, "ff000000010008f067a5502a4262b5746f6b656e"))
	if e != api.OK || tag != string(fromHex(t, "04a265ba2eff4d829058fb3f0f2496ba")) {
		t.Errorf("%x, %d", tag, e)
	}
	block, _ := aes.NewCipher(fromHex(t, "be0c690b9f66575a1d766b54e368c84e"))
	mode, _ := cipher.NewGCM(block)
	nonce := fromHex(t, "461599d35d632bf2239825bb")
	for n := range 25 {
		for _, m := range []int{0, 1, 20, 700, 70000} {
			dst, retry := row(n), row(m)
			tag, e := guard.RetryTag(string(dst), retry)
			want := mode.Seal(nil, nonce, nil, append(append([]byte{byte(n)}, dst...), retry...))
			if n > 20 && (tag != "" || e != api.ErrArg) || n <= 20 && (tag != string(want) || e != api.OK) {
				t.Errorf("%d and %d bytes: %x, %d", n, m, tag, e)
			}
		}
	}
	if tag, e := guard.RetryTag("", nil); len(tag) != 16 || e != api.OK {
		t.Errorf("%x, %d", tag, e)
	}
}

// P10.1: Reset, of secrets and names of any count.
func TestReset(t *testing.T) {
	for _, n := range []int{0, 1, 16, 32, 64, 65, 300} {
		for _, m := range []int{0, 1, 8, 20, 21, 100} {
			sum := hmac.New(sha256.New, row(n))
			sum.Write(row(m))
			if got := guard.Reset(string(row(n)), string(row(m))); got != string(sum.Sum(nil)[:16]) {
				t.Errorf("%d and %d bytes: %x", n, m, got)
			}
		}
	}
}

// P10.1, P10.2: packets of both kinds, of all sizes of numbers, from the fewest bytes that are carried on.
func TestPackets(t *testing.T) {
	numbers := []int{0, 1, 255, 256, 65535, 65536, 0xa82f9b32, 1<<32 - 1, 1 << 32, 0x123456789abcdef, top - 1, top}
	for _, number := range numbers {
		for size := 1; size <= 4; size++ {
			for _, long := range []bool{false, true} {
				for _, n := range []int{1, 2, 9, 40} {
					for _, m := range []int{4 - size, 5 - size, 15, 16, 17, 100} {
						head, carries := headOf(long, n, size, number), row(m)
						want := library(t, some(), head, size, number, carries)
						wants(t, "Seal", want)(guard.Seal(some(), head, size, number, carries))
						opens(t, "Open", head, number, carries)(guard.Open(some(), want, n, number))
					}
				}
			}
		}
	}
}

// P10.1: the mask's bits that count, of first bytes of all values.
func TestFirstBytes(t *testing.T) {
	for first := range 256 {
		size := first&3 + 1
		head := headOf(false, 5, size, 0x51234)
		head[0] = byte(first)
		for m := 4; m < 12; m++ {
			want := library(t, some(), head, size, 0x51234, row(m))
			wants(t, "Seal", want)(guard.Seal(some(), head, size, 0x51234, row(m)))
			opens(t, "Open", head, 0x51234, row(m))(guard.Open(some(), want, 5, 0x51234))
		}
	}
}

// P10.1: many keys, numbers, heads and texts.
func TestManyPackets(t *testing.T) {
	draw := rand.New(rand.NewSource(10))
	text := func(n int) string {
		b := make([]byte, n)
		draw.Read(b)
		return string(b)
	}
	for range 2000 {
		k := guard.Keys{Key: text(16), Iv: text(12), Mask: text(16)}
		size, number := 1+draw.Intn(4), draw.Intn(1<<(1+draw.Intn(62)))
		head, carries := headOf(draw.Intn(2) == 0, 1+draw.Intn(30), size, number), []byte(text(4+draw.Intn(60)))
		want := library(t, k, head, size, number, carries)
		wants(t, "Seal", want)(guard.Seal(k, head, size, number, carries))
		opens(t, "Open", head, number, carries)(guard.Open(k, want, len(head)-size, number))
	}
}

// P10.2: any expected number to which the bytes tell it opens a packet; any other one doesn't.
func TestExpected(t *testing.T) {
	for size := 1; size <= 4; size++ {
		window := 1 << (8 * size)
		for _, number := range []int{0, 3, window/2 - 1, window / 2, window, 3*window/2 + 5, 1<<40 + 77, top - window, top - 1, top} {
			head := headOf(size%2 == 0, 7, size, number)
			b := library(t, some(), head, size, number, row(20))
			for _, away := range []int{0, 1, window/2 - 1, window / 2, window/2 + 1, window - 1, window, 5 * window} {
				for _, expected := range []int{number - away, number + away, away, top - away} {
					if expected < 0 || expected > top {
						continue
					}
					if n, e := packet.Whole(number%window, size, expected); e == api.OK && n == number {
						opens(t, "told", head, number, row(20))(guard.Open(some(), b, 7, expected))
					} else {
						shut(t, "not told", api.ErrAuth)(guard.Open(some(), b, 7, expected))
					}
				}
			}
		}
	}
}

// P10.1: what Seal refuses, at the edges, and in which order.
func TestSealRefuses(t *testing.T) {
	k := some()
	short := func(n int) []byte { return headOf(false, 3, n, 0x1234567) }
	for _, size := range []int{math.MinInt, -1, 0, 5, 6, 260, math.MaxInt} {
		refuses(t, "size", api.ErrArg)(guard.Seal(k, row(99), size, 0, row(20)))
	}
	for _, number := range []int{math.MinInt, -1, top + 1, math.MaxInt} {
		refuses(t, "number", api.ErrArg)(guard.Seal(k, headOf(false, 3, 2, number), 2, number, row(20)))
	}
	for size := 1; size <= 4; size++ {
		for n := range size + 1 {
			head := short(size)[3:][:n]
			if n > 0 {
				head[0] = byte(size - 1)
			}
			refuses(t, "a short head", api.ErrArg)(guard.Seal(k, head, size, 0x1234567, row(20)))
		}
		refuses(t, "no head", api.ErrArg)(guard.Seal(k, nil, size, 0, row(20)))
	}
	for size := 1; size <= 4; size++ {
		for other := 1; other <= 4; other++ {
			head := short(size)
			head[0] = 0x40 + byte(other-1)
			if other != size {
				refuses(t, "another size", api.ErrForm)(guard.Seal(k, head, size, 0x1234567, row(20)))
			}
		}
		for i := range size {
			head := short(size)
			head[3+i] ^= 0x80
			refuses(t, "another number", api.ErrForm)(guard.Seal(k, head, size, 0x1234567, row(20)))
		}
		for n := range 4 - size {
			refuses(t, "too few", api.ErrTail)(guard.Seal(k, short(size), size, 0x1234567, row(n)))
		}
	}
	refuses(t, "too many", api.ErrBig)(guard.Seal(k, short(2), 2, 0x1234567, row(65001)))
	refuses(t, "far too many", api.ErrBig)(guard.Seal(k, short(2), 2, 0x1234567, row(1<<20)))
	head := short(2)
	head[4] ^= 1
	refuses(t, "all at once", api.ErrArg)(guard.Seal(k, head, 2, -1, nil))
	refuses(t, "form and tail", api.ErrForm)(guard.Seal(k, head, 2, 0x1234567, nil))
	refuses(t, "form and big", api.ErrForm)(guard.Seal(k, head, 2, 0x1234567, row(65001)))
	refuses(t, "big", api.ErrArg)(guard.Seal(k, head, 0, 0x1234567, row(65001)))
}

// P10.1: the most that is carried is opened; more than that was sealed by nobody.
func TestMostCarried(t *testing.T) {
	for size := 1; size <= 4; size++ {
		head := headOf(true, 30, size, 99)
		for _, n := range []int{64999, 65000, 65001, 65002, 70000} {
			b := library(t, some(), head, size, 99, row(n))
			if n <= 65000 {
				wants(t, "Seal", b)(guard.Seal(some(), head, size, 99, row(n)))
				opens(t, "Open", head, 99, row(n))(guard.Open(some(), b, 30, 99))
			} else {
				refuses(t, "Seal", api.ErrBig)(guard.Seal(some(), head, size, 99, row(n)))
				shut(t, "Open", api.ErrAuth)(guard.Open(some(), b, 30, 99))
			}
		}
	}
}

// P10.1: keys of wrong counts, ahead of whatever else is wrong.
func TestWrongKeys(t *testing.T) {
	head := headOf(false, 3, 2, 7)
	b := library(t, some(), head, 2, 7, row(9))
	for _, n := range []int{0, 1, 11, 12, 13, 15, 16, 17, 24, 32} {
		for part := range 3 {
			k, text := some(), string(row(n))
			switch {
			case part == 0 && n != 16:
				k.Key = text
			case part == 1 && n != 12:
				k.Iv = text
			case part == 2 && n != 16:
				k.Mask = text
			default:
				continue
			}
			refuses(t, "Seal", api.ErrArg)(guard.Seal(k, head, 2, 7, row(9)))
			refuses(t, "Seal of wrong form", api.ErrArg)(guard.Seal(k, row(9), 2, 7, nil))
			shut(t, "Open", api.ErrArg)(guard.Open(k, b, 3, 7))
			shut(t, "Open of too few", api.ErrArg)(guard.Open(k, nil, 3, 7))
		}
	}
	refuses(t, "no keys", api.ErrArg)(guard.Seal(guard.Keys{}, head, 2, 7, row(9)))
	shut(t, "no keys", api.ErrArg)(guard.Open(guard.Keys{}, b, 3, 7))
}

// P10.1: what Open refuses by its numbers alone, ahead of the bytes.
func TestOpenRefusesNumbers(t *testing.T) {
	b := library(t, some(), headOf(false, 3, 2, 7), 2, 7, row(9))
	for _, at := range []int{math.MinInt, -20, -1, 0} {
		shut(t, "at", api.ErrArg)(guard.Open(some(), b, at, 7))
		shut(t, "at, of nothing", api.ErrArg)(guard.Open(some(), nil, at, 7))
	}
	for _, expected := range []int{math.MinInt, -1, top + 1, math.MaxInt} {
		shut(t, "expected", api.ErrArg)(guard.Open(some(), b, 3, expected))
		shut(t, "expected, of nothing", api.ErrArg)(guard.Open(some(), nil, 3, expected))
	}
}

// P10.1: bytes that end too soon, at each count of them, and places far behind them.
func TestTail(t *testing.T) {
	for size := 1; size <= 4; size++ {
		head := headOf(true, 9, size, 7)
		b := library(t, some(), head, size, 7, row(4-size))
		if len(b) != 29 {
			t.Fatal(len(b))
		}
		opens(t, "the fewest", head, 7, row(4-size))(guard.Open(some(), b, 9, 7))
		for n := range b {
			shut(t, "less", api.ErrTail)(guard.Open(some(), b[:n], 9, 7))
		}
		for _, at := range []int{10, 28, 29, 30, 1000, math.MaxInt - 20, math.MaxInt - 1, math.MaxInt} {
			shut(t, "at", api.ErrTail)(guard.Open(some(), b, at, 7))
		}
	}
	shut(t, "nothing", api.ErrTail)(guard.Open(some(), nil, 1, 0))
	shut(t, "the fewest", api.ErrAuth)(guard.Open(some(), row(21), 1, 0))
	shut(t, "less", api.ErrTail)(guard.Open(some(), row(20), 1, 0))
}

// P10.1, P2: each bit of a packet counts, and so do its place, its count, and each key.
func TestEachBitCounts(t *testing.T) {
	for size := 1; size <= 4; size++ {
		for _, long := range []bool{false, true} {
			head := headOf(long, 6, size, 0x51234)
			b := library(t, some(), head, size, 0x51234, row(15))
			for i := range b {
				for bit := range 8 {
					b[i] ^= 1 << bit
					shut(t, "a bit changed", api.ErrAuth)(guard.Open(some(), b, 6, 0x51234))
					b[i] ^= 1 << bit
				}
			}
			for at := 1; at < len(b)-20; at++ {
				if at != 6 {
					shut(t, "at another place", api.ErrAuth)(guard.Open(some(), b, at, 0x51234))
				}
			}
			shut(t, "less", api.ErrAuth)(guard.Open(some(), b[:len(b)-1], 6, 0x51234))
			shut(t, "more", api.ErrAuth)(guard.Open(some(), append(bytes.Clone(b), 0), 6, 0x51234))
			for i := range 44 {
				shut(t, "by another key", api.ErrAuth)(guard.Open(changed(i), b, 6, 0x51234))
			}
			opens(t, "as it was", head, 0x51234, row(15))(guard.Open(some(), b, 6, 0x51234))
		}
	}
}

// changed are keys with their i-th byte changed.
func changed(i int) guard.Keys {
	k := some()
	all := []byte(k.Key + k.Iv + k.Mask)
	all[i] ^= 1
	return guard.Keys{Key: string(all[:16]), Iv: string(all[16:28]), Mask: string(all[28:])}
}

// P10.3: what is handed in isn't changed, nor its spare room.
func TestArgumentsStay(t *testing.T) {
	head, carries := roomy(headOf(true, 9, 3, 0x51234)), roomy(row(33))
	was, held := filled(head), filled(carries)
	b, e := guard.Seal(some(), head, 3, 0x51234, carries)
	if e != api.OK || filled(head) != was || filled(carries) != held {
		t.Error("Seal", e)
	}
	b = roomy(b)
	held = filled(b)
	opens(t, "Open", head, 0x51234, carries)(guard.Open(some(), b, 9, 0x51234))
	shut(t, "Open", api.ErrAuth)(guard.Open(some(), b, 9, 1<<30))
	retry := roomy(row(20))
	was = filled(retry)
	guard.RetryTag("ab", retry)
	if filled(b) != held || filled(retry) != was {
		t.Error("changed")
	}
}

// P10.3: answers are new memory, and no two of one answer share any.
func TestAnswersAreNew(t *testing.T) {
	head, carries := headOf(false, 9, 2, 0x51234), row(33)
	b, _ := guard.Seal(some(), head, 2, 0x51234, carries)
	want := bytes.Clone(b)
	clear(b[:cap(b)])
	if !bytes.Equal(head, headOf(false, 9, 2, 0x51234)) || !bytes.Equal(carries, row(33)) {
		t.Error("the packet is the arguments' memory")
	}
	wants(t, "again", want)(guard.Seal(some(), head, 2, 0x51234, carries))
	b = bytes.Clone(want)
	h, _, c, _ := guard.Open(some(), b, 9, 0x51234)
	clear(h[:cap(h)])
	if !bytes.Equal(b, want) || !bytes.Equal(c, carries) {
		t.Error("the head is another's memory")
	}
	h, _, c, _ = guard.Open(some(), b, 9, 0x51234)
	clear(c[:cap(c)])
	if !bytes.Equal(b, want) || !bytes.Equal(h, head) {
		t.Error("what is carried is another's memory")
	}
	h, _, c, _ = guard.Open(some(), b, 9, 0x51234)
	clear(b)
	if !bytes.Equal(h, head) || !bytes.Equal(c, carries) {
		t.Error("the answer is the packet's memory")
	}
}

// P1: Open answers for any bytes, at any place.
func TestAnyBytes(t *testing.T) {
	draw := rand.New(rand.NewSource(3))
	for range 5000 {
		b := make([]byte, draw.Intn(60))
		draw.Read(b)
		at, expected := 1+draw.Intn(50), draw.Intn(top)
		want := api.ErrAuth
		if len(b) < at+20 {
			want = api.ErrTail
		}
		shut(t, "any", want)(guard.Open(some(), b, at, expected))
	}
}

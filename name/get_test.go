package name_test

import (
	"math"
	"math/rand"
	"strings"
	"testing"

	"rhyne/api"
	"rhyne/name"
)

func gets(t *testing.T, b string, at int, want string, behind int) {
	t.Helper()
	if s, n, e := name.Get([]byte(b), at); s != want || n != behind || e != api.OK {
		t.Errorf("Get of %x at %d: %q, %d, %d; not %q, %d", b, at, s, n, e, want, behind)
	}
}

func refuses(t *testing.T, b string, at int, want api.Errno) {
	t.Helper()
	if s, n, e := name.Get([]byte(b), at); s != "" || n != 0 || e != want {
		t.Errorf("Get of %.300x at %d: %q, %d, %d; not %d", b, at, s, n, e, want)
	}
}

// P17.1, P17.2: a name comes back from its bytes, wherever they stand.
func TestGetWhole(t *testing.T) {
	for _, c := range someNames() {
		for _, ahead := range []string{"", "\x00", "\xff\xff\xff", strings.Repeat("\x40", 20000)} {
			gets(t, ahead+c.wire, len(ahead), c.s, len(ahead)+len(c.wire))
			gets(t, ahead+c.wire+"\x01z\x00", len(ahead), c.s, len(ahead)+len(c.wire))
			for i := range len(c.wire) {
				refuses(t, ahead+c.wire[:i], len(ahead), api.ErrTail)
			}
		}
	}
	gets(t, "\x01A\x04zZaB\x00", 0, "a.zzab.", 8)
}

// P17.1: a place for the rest of a name, at once or behind parts; the number is behind the first one.
func TestGetPlaces(t *testing.T) {
	b := "\x01a\x01b\x00" + "\x01c\xc0\x02" + "\xc0\x05" + "\x01d\xc0\x09" + "\xc0\x04" + "\x01e\xc0\x04"
	gets(t, b, 0, "a.b.", 5)
	gets(t, b, 2, "b.", 5)
	gets(t, b, 4, ".", 5)
	gets(t, b, 5, "c.b.", 9)
	gets(t, b, 7, "b.", 9)
	gets(t, b, 9, "c.b.", 11)
	gets(t, b, 11, "d.c.b.", 15)
	gets(t, b, 15, ".", 17)
	gets(t, b, 17, "e.", 21)
	// Each first byte from C0 on tells the same kind of place: 14 bits.
	for first := 0xc0; first < 0x100; first++ {
		at := (first - 0xc0) << 8
		far := strings.Repeat("\x40", at+7) + "\x01x\x00" + string([]byte{byte(first), 7})
		gets(t, far, at+10, "x.", at+12)
		gets(t, far+"\x01y"+string([]byte{byte(first), 7}), at+12, "y.x.", at+16)
	}
	// A place may lead into a part, and from there through what stands behind it.
	gets(t, "\x04\x01a\x01b\x00\xc0\x01", 6, "a.b.", 8)
	gets(t, "\x010"+part(48)+"\x00\xc0\x01", 51, part(48)+".", 53)
}

// P17.1: a place must be below where the part just ahead began, below where the place just ahead leads, or, if it is the first, below at.
func TestGetLoops(t *testing.T) {
	refuses(t, "\xc0\x00", 0, api.ErrLoop)
	refuses(t, "\xc0\x01\x00", 0, api.ErrLoop)
	refuses(t, "\xc0\x05\x00", 0, api.ErrLoop)
	refuses(t, "\xff\xff", 0, api.ErrLoop)
	gets(t, "\x00\xc0\x00", 1, ".", 3)
	refuses(t, "\x00\xc0\x01", 1, api.ErrLoop)
	refuses(t, "\x00\xc0\x02", 1, api.ErrLoop)
	// Behind a part: below where it began.
	refuses(t, "\x01a\xc0\x00", 0, api.ErrLoop)
	refuses(t, "\x01a\xc0\x02", 0, api.ErrLoop)
	gets(t, "\x00\x01a\xc0\x00", 1, "a.", 5)
	refuses(t, "\x00\x01a\xc0\x01", 1, api.ErrLoop)
	refuses(t, "\x00\x01a\xc0\x03", 1, api.ErrLoop)
	// Of several parts the last one counts, so that a place may lead to the first, at most for 255 bytes.
	refuses(t, "\x01a\x01b\xc0\x02", 0, api.ErrLoop)
	refuses(t, "\x01a\x01b\xc0\x00", 0, api.ErrName)
	refuses(t, "\x01a\x01b\xc0\x00", 2, api.ErrName)
	refuses(t, "\x01a\x01b\xc0\x00", 4, api.ErrName)
	refuses(t, "\x01a\x01b\xc0\x01", 2, api.ErrForm)
	refuses(t, "\x01a\xc0\x00", 2, api.ErrLoop)
	// Behind a place: below where that led.
	gets(t, "\x00\xc0\x00\xc0\x01\xc0\x03", 5, ".", 7)
	refuses(t, "\x00\xc0\x01\xc0\x01", 3, api.ErrLoop)
	refuses(t, "\x00\xc0\x03\xc0\x01", 3, api.ErrLoop)
	refuses(t, "\x00\xc0\x02\x00\xc0\x01", 4, api.ErrLoop)
	// Behind a part that a place led to: below where that part began, though it be far below at.
	gets(t, "\x00\x01a\xc0\x00\xc0\x01", 5, "a.", 7)
	refuses(t, "\x00\x01a\xc0\x01\xc0\x01", 5, api.ErrLoop)
	refuses(t, "\x00\x01a\xc0\x02\xc0\x01", 5, api.ErrLoop)
}

// P17.1: where at may be, and bytes that end.
func TestGetArgumentsAndTails(t *testing.T) {
	for _, at := range []int{math.MinInt, -1, 4, 5, math.MaxInt} {
		refuses(t, "\x01a\x00", at, api.ErrArg)
	}
	refuses(t, "\x01a\x00", 3, api.ErrTail)
	refuses(t, "", 0, api.ErrTail)
	refuses(t, "", 1, api.ErrArg)
	refuses(t, "\xc0", 0, api.ErrTail)
	refuses(t, "\xff", 0, api.ErrTail)
	refuses(t, "\x00\x01a\xc0", 1, api.ErrTail)
	refuses(t, "\x02a", 0, api.ErrTail)
	refuses(t, "\x3f"+part(62), 0, api.ErrTail)
	refuses(t, "\x01a", 0, api.ErrTail)
}

// P17.1: a byte from 64 to 191 is neither a count nor a place.
func TestGetForm(t *testing.T) {
	for first := range 256 {
		b := "\x00" + string([]byte{byte(first)}) + strings.Repeat("\x00", 64)
		switch {
		case first == 0:
			gets(t, b, 1, ".", 2)
		case first < 64:
			refuses(t, b, 1, api.ErrName)
			gets(t, "\x00"+string([]byte{byte(first)})+part(first)+"\x00", 1, part(first)+".", first+3)
		case first < 192:
			refuses(t, b, 1, api.ErrForm)
			refuses(t, "\x00\x01a"+b[1:], 1, api.ErrForm)
			refuses(t, b[:2], 1, api.ErrForm)
		case first == 192:
			gets(t, b, 1, ".", 3)
		default:
			refuses(t, b, 1, api.ErrLoop)
		}
	}
}

// P17.1: which error comes first, from the front on.
func TestGetFirstError(t *testing.T) {
	// A byte that no part has, ahead of bytes that end, and of what isn't in form.
	refuses(t, "\x05a b", 0, api.ErrName)
	refuses(t, "\x05a ", 0, api.ErrName)
	refuses(t, "\x05ab", 0, api.ErrTail)
	refuses(t, "\x02a \x40", 0, api.ErrName)
	refuses(t, "\x01a\x40\x01 ", 0, api.ErrForm)
	refuses(t, "\x01a\x01 \xc0\x00", 0, api.ErrName)
	refuses(t, "\x01a\xc0\x00\x01 ", 0, api.ErrLoop)
	refuses(t, "\x01a\xc0", 0, api.ErrTail)
	// Too many bytes are told when the part that makes them so has come whole.
	full := strings.Repeat("\x3f"+part(63), 3)
	gets(t, full+"\x3d"+part(61)+"\x00", 0, dotted(part(63), part(63), part(63), part(61)), 255)
	gets(t, full+"\x3c"+part(60)+"\x00", 0, dotted(part(63), part(63), part(63), part(60)), 254)
	refuses(t, full+"\x3e"+part(62), 0, api.ErrName)
	refuses(t, full+"\x3e"+part(62)+"\x00", 0, api.ErrName)
	refuses(t, full+"\x3e"+part(61), 0, api.ErrTail)
	refuses(t, full+"\x3d"+part(61), 0, api.ErrTail)
	refuses(t, full+"\x3d"+part(61)+"\x40", 0, api.ErrForm)
	refuses(t, full+"\x3e"+part(62)+"\x40", 0, api.ErrName)
	refuses(t, full+"\x3d"+part(61)+"\x01a\x00", 0, api.ErrName)
	refuses(t, full+"\x3d"+part(61)+"\x01", 0, api.ErrTail)
	refuses(t, full+"\x3f"+part(63), 0, api.ErrName)
	refuses(t, strings.Repeat("\x01a", 128)+"\x00", 0, api.ErrName)
	gets(t, strings.Repeat("\x01a", 127)+"\x00", 0, strings.Repeat("a.", 127), 255)
}

// P17.1: the 255 bytes are those of the whole name, though it be written short.
func TestGetLongByPlaces(t *testing.T) {
	half := strings.Repeat("\x01a", 64) + "\x00"
	gets(t, half+strings.Repeat("\x01b", 63)+"\xc0\x00", 129, strings.Repeat("b.", 63)+strings.Repeat("a.", 64), 129+128)
	refuses(t, half+strings.Repeat("\x01b", 64)+"\xc0\x00", 129, api.ErrName)
	gets(t, half+strings.Repeat("\x01b", 64)+"\xc0\x02", 129, strings.Repeat("b.", 64)+strings.Repeat("a.", 63), 129+130)
	// Many places, one behind the other.
	b := "\x01z\x00"
	for i := range 8000 {
		at := 0
		if i != 0 {
			at = len(b) - 2
		}
		b += string([]byte{0xc0 | byte(at>>8), byte(at)})
	}
	gets(t, b, len(b)-2, "z.", len(b))
}

// wordByWord is Get by the words of the chapter, kept apart from how the program does it.
func wordByWord(b []byte, at int) (string, int, api.Errno) {
	if at < 0 || at > len(b) {
		return "", 0, api.ErrArg
	}
	s, behind, bound, size := "", -1, at, 0
	for {
		if at >= len(b) {
			return "", 0, api.ErrTail
		}
		n := int(b[at])
		if n == 0 {
			if behind < 0 {
				behind = at + 1
			}
			if s == "" {
				s = "."
			}
			return s, behind, api.OK
		}
		if n >= 64 && n <= 191 {
			return "", 0, api.ErrForm
		}
		if n >= 192 {
			if at+1 >= len(b) {
				return "", 0, api.ErrTail
			}
			place := (n*256 + int(b[at+1])) % 0x4000
			if place >= bound {
				return "", 0, api.ErrLoop
			}
			if behind < 0 {
				behind = at + 2
			}
			at, bound = place, place
			continue
		}
		for i := 1; i <= n; i++ {
			if at+i >= len(b) {
				return "", 0, api.ErrTail
			}
			c := strings.ToLower(string(rune(b[at+i])))
			if b[at+i] >= 128 || !strings.Contains("abcdefghijklmnopqrstuvwxyz0123456789-_*", c) {
				return "", 0, api.ErrName
			}
			s += c
		}
		s += "."
		if size += n + 1; size > 254 {
			return "", 0, api.ErrName
		}
		bound = at
		at += n + 1
	}
}

// P17.1, P1: Get of any bytes, at any place, is as the chapter says.
func TestGetOfAnyBytes(t *testing.T) {
	draw := rand.New(rand.NewSource(173))
	told := map[api.Errno]int{}
	for range 200000 {
		b := anyBytes(draw)
		at := draw.Intn(len(b)+3) - 1
		s, n, e := name.Get(b, at)
		wantS, wantN, want := wordByWord(b, at)
		if s != wantS || n != wantN || e != want {
			t.Fatalf("Get of %x at %d: %q, %d, %d; not %q, %d, %d", b, at, s, n, e, wantS, wantN, want)
		}
		told[e]++
		if e == api.OK {
			if _, e := name.Labels(s); e != api.OK {
				t.Fatalf("Get of %x at %d: %q is no name", b, at, s)
			}
		}
	}
	for _, e := range []api.Errno{api.OK, api.ErrArg, api.ErrTail, api.ErrForm, api.ErrName, api.ErrLoop} {
		if told[e] < 500 {
			t.Error("told", e, "but", told[e], "times")
		}
	}
}

// anyBytes draws bytes that are now and then parts, places and ends.
func anyBytes(draw *rand.Rand) []byte {
	var b []byte
	most := 20 + draw.Intn(280)
	for len(b) < most {
		switch draw.Intn(12) {
		case 0:
			b = append(b, 0)
		case 1, 2, 3:
			place := draw.Intn(len(b) + 2)
			b = append(b, 0xc0|byte(draw.Intn(2)*draw.Intn(64)), byte(place))
		case 4:
			if draw.Intn(6) == 0 {
				b = append(b, byte(draw.Intn(256)))
			}
		default:
			n := 1 + draw.Intn(3)*draw.Intn(3)
			if draw.Intn(10) == 0 {
				n = 63
			}
			b = append(b, byte(n))
			for range n {
				b = append(b, "aZ0-"[draw.Intn(4)])
			}
		}
	}
	return b
}

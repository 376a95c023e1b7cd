package stream_test

import (
	"bytes"
	"math"
	"strings"
	"testing"

	"rhyne/api"
	"rhyne/stream"
)

const (
	top   = 1 << 40
	whole = 1 << 20
)

// piece is one without an end.
func piece(off int, data string) stream.Piece {
	return stream.Piece{Off: off, Data: data}
}

// last is a piece behind which the stream ends.
func last(off int, data string) stream.Piece {
	return stream.Piece{Off: off, Data: data, Fin: true}
}

// text is n bytes of all values.
func text(n int) string {
	b := make([]byte, n)
	for i := range b {
		b[i] = byte(i*7 + i>>8)
	}
	return string(b)
}

// sending is an end to which a text was written.
func sending(t *testing.T, limit int, s string) *stream.Send {
	t.Helper()
	x, e := stream.NewSend(limit)
	if x == nil || e != api.OK {
		t.Fatal("NewSend", e)
	}
	if e := x.Write([]byte(s)); e != api.OK {
		t.Fatal("Write", e)
	}
	return x
}

// next tells whether a piece is to be sent next.
func next(t *testing.T, x *stream.Send, most int, want stream.Piece) {
	t.Helper()
	if p, ok := x.Next(most); p != want || !ok {
		t.Errorf("Next(%d): %v, %v; not %v", most, p, ok, want)
	}
}

// nothing tells whether nothing is to be sent.
func nothing(t *testing.T, x *stream.Send) {
	t.Helper()
	for _, most := range []int{1, 5, math.MaxInt} {
		if p, ok := x.Next(most); ok || p != (stream.Piece{}) {
			t.Errorf("Next(%d): %v, %v", most, p, ok)
		}
	}
}

// answers tells whether an error is as it should be.
func answers(t *testing.T, what string, got, want api.Errno) {
	t.Helper()
	if got != want {
		t.Errorf("%s: %d, not %d", what, got, want)
	}
}

// P13.1: the chapter's example, of the end that sends.
func TestKnownSend(t *testing.T) {
	x := sending(t, 100, "abcdef")
	next(t, x, 4, piece(0, "abcd"))
	answers(t, "Close", x.Close(), api.OK)
	next(t, x, 4, last(4, "ef"))
	answers(t, "Lost", x.Lost(piece(0, "abcd")), api.OK)
	next(t, x, 2, piece(0, "ab"))
	next(t, x, 2, piece(2, "cd"))
	nothing(t, x)
}

// P13.1: which limits an end may have at first.
func TestNewSend(t *testing.T) {
	for _, limit := range []int{-1, math.MinInt, top + 1, math.MaxInt} {
		if x, e := stream.NewSend(limit); x != nil || e != api.ErrArg {
			t.Error(limit, e)
		}
	}
	for _, limit := range []int{0, 1, whole, top - 1, top} {
		nothing(t, sending(t, limit, ""))
	}
}

// P13.1, P13.4: as many bytes as may be written, and one more; none behind the close.
func TestWrite(t *testing.T) {
	x := sending(t, top, text(whole-3))
	answers(t, "four more", x.Write([]byte("abcd")), api.ErrFull)
	answers(t, "far more", x.Write(make([]byte, whole+1)), api.ErrFull)
	answers(t, "two more", x.Write([]byte("ab")), api.OK)
	answers(t, "two more", x.Write([]byte("cd")), api.ErrFull)
	answers(t, "the last", x.Write([]byte("c")), api.OK)
	answers(t, "one more", x.Write([]byte("d")), api.ErrFull)
	answers(t, "none", x.Write(nil), api.OK)
	answers(t, "Close", x.Close(), api.OK)
	answers(t, "behind the close", x.Write([]byte("d")), api.ErrOver)
	next(t, x, math.MaxInt, last(0, text(whole-3)+"abc"))
	x = sending(t, 9, "ab")
	answers(t, "Close", x.Close(), api.OK)
	for _, b := range [][]byte{nil, {}, {1}, make([]byte, whole+1)} {
		answers(t, "behind the close", x.Write(b), api.ErrOver)
	}
	answers(t, "Close", x.Close(), api.ErrOver)
	next(t, x, 9, last(0, "ab"))
	answers(t, "Close", x.Close(), api.ErrOver)
	nothing(t, x)
	x = sending(t, 9, "")
	answers(t, "too many at once", x.Write(make([]byte, whole+1)), api.ErrFull)
	nothing(t, x)
}

// P13.1: nothing goes beyond the limit, and the limit only grows.
func TestAllow(t *testing.T) {
	x := sending(t, 0, "abcdefgh")
	nothing(t, x)
	x.Allow(3)
	next(t, x, 9, piece(0, "abc"))
	for _, limit := range []int{3, 2, 0, -1, math.MinInt} {
		x.Allow(limit)
		nothing(t, x)
	}
	x.Allow(5)
	x.Allow(4)
	next(t, x, 9, piece(3, "de"))
	answers(t, "Close", x.Close(), api.OK)
	x.Allow(7)
	next(t, x, 9, piece(5, "fg"))
	nothing(t, x)
	x.Allow(math.MaxInt)
	next(t, x, 9, last(7, "h"))
	answers(t, "Lost", x.Lost(last(2, "cdefgh")), api.OK)
	next(t, x, 99, last(2, "cdefgh"))
	nothing(t, x)
}

// P13.1: most, at its edges; what is answered isn't to be sent any longer.
func TestNext(t *testing.T) {
	x := sending(t, 100, "abcdef")
	for _, most := range []int{0, -1, math.MinInt} {
		if p, ok := x.Next(most); ok || p != (stream.Piece{}) {
			t.Error(most, p)
		}
	}
	next(t, x, 1, piece(0, "a"))
	next(t, x, 2, piece(1, "bc"))
	next(t, x, 3, piece(3, "def"))
	nothing(t, x)
	answers(t, "Write", x.Write([]byte("gh")), api.OK)
	next(t, x, math.MaxInt, piece(6, "gh"))
	answers(t, "Lost", x.Lost(piece(3, "defg")), api.OK)
	answers(t, "Write", x.Write([]byte("ijk")), api.OK)
	next(t, x, 3, piece(3, "def"))
	next(t, x, 9, piece(6, "g"))
	next(t, x, 2, piece(8, "ij"))
	answers(t, "Lost", x.Lost(piece(7, "hi")), api.OK)
	next(t, x, 9, piece(7, "hi"))
	answers(t, "Lost", x.Lost(piece(8, "ij")), api.OK)
	next(t, x, 9, piece(8, "ijk")) // what was lost, and what never went, at once
	nothing(t, x)
}

// P13.1: when the end goes with bytes, and when alone.
func TestFin(t *testing.T) {
	x := sending(t, 100, "")
	answers(t, "Close", x.Close(), api.OK)
	next(t, x, 1, last(0, ""))
	nothing(t, x)

	x = sending(t, 6, "abcdef")
	next(t, x, 9, piece(0, "abcdef"))
	answers(t, "Close", x.Close(), api.OK)
	next(t, x, 1, last(6, ""))
	nothing(t, x)
	answers(t, "Lost", x.Lost(last(6, "")), api.OK)
	answers(t, "Lost", x.Lost(piece(1, "b")), api.OK)
	next(t, x, 9, piece(1, "b")) // the bytes ahead of the end
	next(t, x, 9, last(6, ""))
	answers(t, "Lost", x.Lost(last(4, "ef")), api.OK)
	next(t, x, 1, piece(4, "e"))
	next(t, x, 1, last(5, "f"))
	answers(t, "Lost", x.Lost(piece(4, "ef")), api.OK)
	next(t, x, 9, piece(4, "ef")) // the end isn't lost
	nothing(t, x)
	answers(t, "Lost", x.Lost(last(6, "")), api.OK)
	answers(t, "Lost", x.Lost(piece(5, "f")), api.OK)
	next(t, x, 9, last(5, "f"))

	x = sending(t, 5, "abcdef")
	next(t, x, 9, piece(0, "abcde"))
	answers(t, "Close", x.Close(), api.OK)
	nothing(t, x) // the limit is below the count
	x.Allow(6)
	next(t, x, 9, last(5, "f"))
}

// P13.1: of what was lost, what came isn't sent again; nor is what comes though it was given up.
func TestLostAndCame(t *testing.T) {
	x := sending(t, 100, "abcdefgh")
	answers(t, "Close", x.Close(), api.OK)
	next(t, x, 99, last(0, "abcdefgh"))
	answers(t, "Came", x.Came(piece(2, "cd")), api.OK)
	answers(t, "Came", x.Came(piece(6, "g")), api.OK)
	answers(t, "Lost", x.Lost(last(1, "bcdefgh")), api.OK)
	next(t, x, 99, piece(1, "b"))
	next(t, x, 99, piece(4, "ef"))
	next(t, x, 99, last(7, "h"))
	answers(t, "Lost", x.Lost(last(0, "abcdefgh")), api.OK)
	answers(t, "Came", x.Came(last(4, "efgh")), api.OK)
	next(t, x, 99, piece(0, "ab"))
	nothing(t, x)
	answers(t, "Lost", x.Lost(last(4, "efgh")), api.OK)
	answers(t, "Lost", x.Lost(last(8, "")), api.OK)
	nothing(t, x)
	if x.Done() {
		t.Error("a and b didn't come")
	}
	answers(t, "Came", x.Came(piece(0, "a")), api.OK)
	answers(t, "Came", x.Came(piece(0, "a")), api.OK)
	if x.Done() {
		t.Error("b didn't come")
	}
	answers(t, "Came", x.Came(piece(1, "b")), api.OK)
	if !x.Done() {
		t.Error("all came")
	}
	answers(t, "Lost", x.Lost(last(0, "abcdefgh")), api.OK)
	nothing(t, x)
	if !x.Done() {
		t.Error("all came")
	}
}

// P13.1: what came behind its loss isn't to be sent any longer, at the place where the next piece begins, or behind it.
func TestCameBehindLoss(t *testing.T) {
	x := sending(t, 100, "abcdefgh")
	next(t, x, 99, piece(0, "abcdefgh"))
	answers(t, "Lost", x.Lost(piece(0, "abcdefgh")), api.OK)
	answers(t, "Came", x.Came(piece(0, "ab")), api.OK)
	answers(t, "Came", x.Came(piece(4, "e")), api.OK)
	next(t, x, 1, piece(2, "c"))
	next(t, x, 9, piece(3, "d"))
	next(t, x, 9, piece(5, "fgh"))
	nothing(t, x)
}

// P13.1: done is an end that is closed, and of which the bytes came, and the end.
func TestDone(t *testing.T) {
	x := sending(t, 100, "")
	if x.Done() {
		t.Error("it is open")
	}
	x.Close()
	if x.Done() {
		t.Error("the end didn't come")
	}
	next(t, x, 9, last(0, ""))
	answers(t, "Came", x.Came(piece(0, "")), api.OK)
	if x.Done() {
		t.Error("the end didn't come")
	}
	answers(t, "Came", x.Came(last(0, "")), api.OK)
	if !x.Done() {
		t.Error("all came")
	}

	x = sending(t, 100, "ab")
	next(t, x, 9, piece(0, "ab"))
	answers(t, "Came", x.Came(piece(0, "ab")), api.OK)
	if x.Done() {
		t.Error("it is open")
	}
	x.Close()
	if x.Done() {
		t.Error("the end didn't go")
	}
	next(t, x, 9, last(2, ""))
	answers(t, "Came", x.Came(last(2, "")), api.OK)
	if !x.Done() {
		t.Error("all came")
	}

	x = sending(t, 100, "ab")
	x.Close()
	next(t, x, 9, last(0, "ab"))
	answers(t, "Came", x.Came(last(1, "b")), api.OK)
	if x.Done() {
		t.Error("a didn't come")
	}
}

// P13.1, P13.4: pieces that weren't sent so; they change nothing.
func TestPiecesNotSent(t *testing.T) {
	x := sending(t, 100, "abcdefgh")
	next(t, x, 6, piece(0, "abcdef"))
	refuse := func(l ...stream.Piece) {
		t.Helper()
		for _, p := range l {
			answers(t, "Lost", x.Lost(p), api.ErrArg)
			answers(t, "Came", x.Came(p), api.ErrArg)
		}
	}
	long := strings.Repeat("a", 100)
	refuse(piece(-1, "a"), piece(-1, ""), piece(math.MinInt, ""), piece(math.MinInt, "a"))
	refuse(piece(7, ""), piece(8, ""), piece(math.MaxInt, ""), piece(math.MaxInt, "a"), piece(math.MaxInt-3, long))
	refuse(piece(0, "abcdefg"), piece(5, "fg"), piece(6, "g"), piece(7, "h"), piece(0, long))
	refuse(piece(0, "x"), piece(0, "abcdex"), piece(1, "abc"), piece(5, "\x00"))
	refuse(last(0, "abcdef"), last(6, ""), last(5, "f"), last(8, ""))
	nothing6 := func() {
		t.Helper()
		for _, p := range []stream.Piece{piece(0, ""), piece(3, ""), piece(6, "")} {
			answers(t, "Lost, of no bytes", x.Lost(p), api.OK)
			answers(t, "Came, of no bytes", x.Came(p), api.OK)
		}
	}
	nothing6()
	answers(t, "Close", x.Close(), api.OK)
	refuse(last(0, "abcdef"), last(6, ""), last(6, "gh"), last(8, ""))
	next(t, x, 9, last(6, "gh"))
	refuse(last(0, "abcdef"), last(6, ""), last(6, "g"), last(7, ""), last(9, ""), last(7, "hi"), last(-1, ""), last(0, ""))
	nothing(t, x)
	answers(t, "Lost", x.Lost(last(8, "")), api.OK)
	refuse(last(6, "g"), last(7, ""))
	answers(t, "Lost, though it wasn't sent again", x.Lost(last(8, "")), api.OK)
	answers(t, "Came, though it wasn't sent again", x.Came(last(8, "")), api.OK)
	nothing(t, x)
	nothing6()
	refuse(piece(9, ""), piece(8, "i"))
	answers(t, "Lost", x.Lost(piece(0, "abcdefgh")), api.OK)
	next(t, x, 99, piece(0, "abcdefgh"))
	answers(t, "Came", x.Came(piece(0, "abcdefgh")), api.OK)
	refuse(piece(0, "x"), piece(0, "abcdefgx"), last(0, "abcdefg"))
	if !x.Done() {
		t.Error("all came")
	}
}

// P13.1: the bytes that were sent at least once.
func TestFresh(t *testing.T) {
	x := sending(t, 5, "abcdefgh")
	fresh := func(want int) {
		t.Helper()
		if x.Fresh() != want {
			t.Error(x.Fresh(), "not", want)
		}
	}
	fresh(0)
	x.Next(3)
	fresh(3)
	x.Lost(piece(0, "abc"))
	fresh(3)
	x.Next(1)
	fresh(3)
	x.Next(9)
	fresh(5)
	x.Came(piece(0, "abcd"))
	fresh(5)
	x.Close()
	x.Allow(100)
	x.Next(9)
	fresh(8)
	x.Lost(last(8, ""))
	x.Next(9)
	fresh(8)
}

// P13.3: of all bytes there may be, each for itself, every other one comes at once: more ranges than a set may have.
func TestManyPieces(t *testing.T) {
	s := text(whole)
	x := sending(t, whole, s)
	answers(t, "Close", x.Close(), api.OK)
	for i := range whole {
		p, ok := x.Next(1)
		if !ok || p.Off != i || p.Data != s[i:i+1] || p.Fin != (i == whole-1) {
			t.Fatal(i, p, ok)
		}
		if i%2 == 0 {
			answers(t, "Came", x.Came(p), api.OK)
		}
	}
	answers(t, "Lost", x.Lost(last(0, s)), api.OK)
	for i := 1; i < whole; i += 2 {
		p, ok := x.Next(99)
		if !ok || p.Off != i || p.Data != s[i:i+1] || p.Fin != (i == whole-1) || x.Done() {
			t.Fatal(i, p, ok)
		}
		answers(t, "Came", x.Came(p), api.OK)
	}
	nothing(t, x)
	if !x.Done() {
		t.Error("all came")
	}
}

// P1, P13.1: an end that isn't one.
func TestNoSend(t *testing.T) {
	var x *stream.Send
	answers(t, "Write", x.Write([]byte("a")), api.ErrArg)
	answers(t, "Write", x.Write(nil), api.ErrArg)
	answers(t, "Close", x.Close(), api.ErrArg)
	answers(t, "Lost", x.Lost(piece(0, "")), api.ErrArg)
	answers(t, "Came", x.Came(last(0, "")), api.ErrArg)
	x.Allow(9)
	nothing(t, x)
	if x.Fresh() != 0 || x.Done() {
		t.Error("it is none")
	}
}

// P1: an end that NewSend didn't make is one whose limit is 0.
func TestZeroSend(t *testing.T) {
	x := &stream.Send{}
	answers(t, "Write", x.Write([]byte("a")), api.OK)
	nothing(t, x)
	x.Allow(9)
	answers(t, "Close", x.Close(), api.OK)
	next(t, x, 9, last(0, "a"))
	answers(t, "Came", x.Came(last(0, "a")), api.OK)
	if !x.Done() {
		t.Error("all came")
	}
}

// Rule 4: what is written isn't kept, nor changed in its spare room.
func TestWrittenIsntKept(t *testing.T) {
	b := bytes.Repeat([]byte{'x'}, 20)
	x := sending(t, 100, "")
	answers(t, "Write", x.Write(b[:3]), api.OK)
	answers(t, "Write", x.Write(b[:5]), api.OK)
	if string(b) != strings.Repeat("x", 20) {
		t.Error("changed", b)
	}
	clear(b)
	next(t, x, 2, piece(0, "xx"))
	next(t, x, 99, piece(2, "xxxxxx"))
}

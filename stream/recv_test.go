package stream_test

import (
	"math"
	"testing"

	"rhyne/api"
	"rhyne/stream"
)

// taking is an end to which nothing came.
func taking(t *testing.T, window int) *stream.Recv {
	t.Helper()
	r, e := stream.NewRecv(window)
	if r == nil || e != api.OK {
		t.Fatal("NewRecv", e)
	}
	return r
}

// takes tells whether a piece goes so much farther.
func takes(t *testing.T, r *stream.Recv, p stream.Piece, want int) {
	t.Helper()
	if n, e := r.Take(p); n != want || e != api.OK {
		t.Errorf("Take %d %q %v: %d, %d; not %d", p.Off, p.Data, p.Fin, n, e, want)
	}
}

// takesNot tells whether pieces are refused.
func takesNot(t *testing.T, r *stream.Recv, want api.Errno, l ...stream.Piece) {
	t.Helper()
	for _, p := range l {
		if n, e := r.Take(p); n != 0 || e != want {
			t.Errorf("Take %d %q %v: %d, %d; not %d", p.Off, p.Data, p.Fin, n, e, want)
		}
	}
}

// resets tells whether a reset is answered so.
func resets(t *testing.T, r *stream.Recv, size, want int, e api.Errno) {
	t.Helper()
	if n, got := r.Reset(size); n != want || got != e {
		t.Errorf("Reset(%d): %d, %d; not %d, %d", size, n, got, want, e)
	}
}

// reads tells whether a text is read, and whether it ends there.
func reads(t *testing.T, r *stream.Recv, most int, want string, end bool) {
	t.Helper()
	if s, fin, e := r.Read(most); s != want || fin != end || e != api.OK {
		t.Errorf("Read(%d): %q, %v, %d; not %q, %v", most, s, fin, e, want, end)
	}
}

// readsNot tells whether a reading is refused.
func readsNot(t *testing.T, r *stream.Recv, most int, want api.Errno) {
	t.Helper()
	if s, fin, e := r.Read(most); s != "" || fin || e != want {
		t.Errorf("Read(%d): %q, %v, %d; not %d", most, s, fin, e, want)
	}
}

// grants tells whether the limit is so, and is to be told.
func grants(t *testing.T, r *stream.Recv, want int, tell bool) {
	t.Helper()
	if n, ok := r.Grant(); n != want || ok != tell {
		t.Errorf("Grant: %d, %v; not %d, %v", n, ok, want, tell)
	}
}

// sized tells whether a size is known; -1: none is.
func sized(t *testing.T, r *stream.Recv, want int) {
	t.Helper()
	if n, ok := r.Size(); ok != (want >= 0) || n != max(want, 0) {
		t.Errorf("Size: %d, %v; not %d", n, ok, want)
	}
}

// P13.1: the chapter's example, of the end that takes.
func TestKnownRecv(t *testing.T) {
	r := taking(t, 100)
	takes(t, r, piece(2, "cd"), 4)
	reads(t, r, 9, "", false)
	takes(t, r, piece(0, "ab"), 0)
	reads(t, r, 9, "abcd", false)
}

// P13.1: which windows there may be.
func TestNewRecv(t *testing.T) {
	for _, window := range []int{0, -1, math.MinInt, api.MaxWindow + 1, math.MaxInt} {
		if r, e := stream.NewRecv(window); r != nil || e != api.ErrArg {
			t.Error(window, e)
		}
	}
	for _, window := range []int{1, 2, 1000, api.MaxWindow} {
		r := taking(t, window)
		grants(t, r, window, false)
		sized(t, r, -1)
		reads(t, r, 9, "", false)
	}
}

// P13.1, P13.2: bytes that had come stay as they were, those that were read too; what is new in a piece comes.
func TestTake(t *testing.T) {
	r := taking(t, 100)
	takes(t, r, piece(4, "ef"), 6)
	takes(t, r, piece(1, "bcdXXgh"), 2)
	takes(t, r, piece(6, "XXij"), 2)
	reads(t, r, 9, "", false)
	takes(t, r, piece(0, "aXXXXXXXXXk"), 1)
	reads(t, r, 3, "abc", false)
	takes(t, r, piece(0, "XXXXXXXXXXXl"), 1)
	takes(t, r, piece(0, "XX"), 0)
	takes(t, r, piece(2, "XX"), 0)
	reads(t, r, 99, "defghijkl", false)
	takes(t, r, piece(0, "XXXXXXXXXXXX"), 0)
	takes(t, r, piece(11, "Xm"), 1)
	takes(t, r, piece(14, "o"), 2)
	reads(t, r, 99, "m", false)
	takes(t, r, piece(13, "n"), 0)
	reads(t, r, 99, "no", false)
}

// P13.1: how much farther a piece goes than any ahead, one without bytes too.
func TestFarther(t *testing.T) {
	r := taking(t, 100)
	takes(t, r, piece(0, ""), 0)
	takes(t, r, piece(5, ""), 5)
	takes(t, r, piece(3, "de"), 0)
	takes(t, r, piece(3, "def"), 1)
	takes(t, r, piece(4, ""), 0)
	takes(t, r, piece(100, ""), 94)
	takes(t, r, piece(99, "z"), 0)
	reads(t, r, 99, "", false)
	takes(t, r, last(100, ""), 0)
	sized(t, r, 100)
	r = taking(t, 100)
	takes(t, r, last(7, "hi"), 9)
	takes(t, r, piece(0, "abcdefghi"), 0)
	reads(t, r, 99, "abcdefghi", true)
}

// P13.1, P13.4: the errors, in their order, and that they change nothing.
func TestTakeRefuses(t *testing.T) {
	r := taking(t, 10)
	takesNot(t, r, api.ErrArg, piece(-1, "a"), piece(-1, ""), last(-1, ""), piece(math.MinInt, ""), piece(top+1, ""), piece(math.MaxInt, "abc"), last(top+1, "a"))
	takesNot(t, r, api.ErrFlow, piece(11, ""), piece(10, "a"), piece(0, "abcdefghijk"), piece(top, ""), piece(top, "abc"), last(11, ""), last(10, "a"))
	sized(t, r, -1)
	takes(t, r, piece(10, ""), 10)
	takes(t, r, piece(1, "bc"), 0)
	takesNot(t, r, api.ErrSize, last(9, ""), last(1, "bc"), last(0, ""))
	takesNot(t, r, api.ErrFlow, last(11, ""))
	sized(t, r, -1)
	reads(t, r, 9, "", false)
	takes(t, r, last(10, ""), 0)
	sized(t, r, 10)
	takesNot(t, r, api.ErrSize, piece(11, ""), piece(10, "a"), last(9, ""), last(11, ""), last(1, "bc"), piece(top, "abc"), piece(0, "abcdefghijk"))
	takesNot(t, r, api.ErrArg, piece(top+1, ""), last(-1, ""))
	takes(t, r, last(9, "j"), 0)
	takes(t, r, piece(0, "aXXd"), 0)
	reads(t, r, 9, "abcd", false)
	r = taking(t, 10)
	takes(t, r, last(0, ""), 0)
	takesNot(t, r, api.ErrSize, piece(0, "a"), piece(1, ""), last(1, ""), last(0, "a"))
	reads(t, r, 9, "", true)
	r = taking(t, 10)
	takes(t, r, last(3, "de"), 5)
	takesNot(t, r, api.ErrSize, piece(6, ""), piece(0, "abcdef"), piece(11, ""), last(4, ""))
	takes(t, r, last(5, ""), 0)
	takes(t, r, piece(0, "abc"), 0)
	reads(t, r, 9, "abcde", true)
}

// P13.1: readings of most, at its edges, and at the end again and again.
func TestRead(t *testing.T) {
	r := taking(t, 10)
	takes(t, r, piece(0, "abcde"), 5)
	for _, most := range []int{-1, math.MinInt} {
		readsNot(t, r, most, api.ErrArg)
	}
	reads(t, r, 0, "", false)
	reads(t, r, 1, "a", false)
	reads(t, r, 4, "bcde", false)
	reads(t, r, math.MaxInt, "", false)
	takes(t, r, piece(5, "f"), 1)
	takes(t, r, last(7, "h"), 2)
	reads(t, r, 9, "f", false)
	takes(t, r, piece(6, "g"), 0)
	reads(t, r, 1, "g", false)
	reads(t, r, 0, "", false)
	reads(t, r, 1, "h", true)
	reads(t, r, 0, "", true)
	reads(t, r, math.MaxInt, "", true)
	readsNot(t, r, -1, api.ErrArg)
	r = taking(t, 10)
	takes(t, r, piece(0, "ab"), 2)
	reads(t, r, 9, "ab", false)
	takes(t, r, last(2, ""), 0)
	reads(t, r, 9, "", true)
}

// P13.1: when more is granted: when less than half a window is left.
func TestGrant(t *testing.T) {
	r := taking(t, 11)
	takes(t, r, piece(0, "abcdefghijk"), 11)
	reads(t, r, 6, "abcdef", false)
	grants(t, r, 11, false) // 5 of 11 are left: that is the half, rounded down
	reads(t, r, 1, "g", false)
	takesNot(t, r, api.ErrFlow, piece(11, "l"))
	grants(t, r, 18, true)
	grants(t, r, 18, false)
	takes(t, r, piece(11, "lmnopqr"), 7)
	takesNot(t, r, api.ErrFlow, piece(18, "s"))
	reads(t, r, 99, "hijklmnopqr", false)
	grants(t, r, 29, true)
	takes(t, r, last(18, "st"), 2)
	reads(t, r, 99, "st", true)
	grants(t, r, 29, false)

	r = taking(t, 10)
	takes(t, r, last(0, "abcdefghij"), 10)
	reads(t, r, 99, "abcdefghij", true)
	grants(t, r, 10, false) // the size is known
	r = taking(t, 10)
	takes(t, r, piece(0, "abcdefghij"), 10)
	reads(t, r, 9, "abcdefghi", false)
	resets(t, r, 10, 0, api.OK)
	grants(t, r, 10, false) // it was reset

	for window, left := range map[int]int{1: 0, 2: 0, 3: 0, 4: 1, 5: 1, 65535: 32766, api.MaxWindow: 32767} {
		r = taking(t, window)
		takes(t, r, piece(0, text(window)), window)
		reads(t, r, window-left-1, text(window)[:window-left-1], false)
		grants(t, r, window, false)
		reads(t, r, 1, text(window)[window-left-1:window-left], false)
		if window == 1 {
			grants(t, r, 1, false) // nothing is less than half of 1, rounded down
		} else {
			grants(t, r, 2*window-left, true)
		}
	}
}

// P13.1: a reset drops what wasn't read, if not all came.
func TestReset(t *testing.T) {
	r := taking(t, 10)
	takes(t, r, piece(0, "abcd"), 4)
	reads(t, r, 1, "a", false)
	resets(t, r, 9, 5, api.OK)
	sized(t, r, 9)
	readsNot(t, r, 9, api.ErrOver)
	readsNot(t, r, 0, api.ErrOver)
	readsNot(t, r, -1, api.ErrArg)
	takes(t, r, piece(1, "bcdefghi"), 0) // dropped
	takes(t, r, last(0, "abcdefghi"), 0)
	readsNot(t, r, 9, api.ErrOver)
	resets(t, r, 9, 0, api.OK)
	readsNot(t, r, 9, api.ErrOver)
	takesNot(t, r, api.ErrSize, piece(9, "j"), last(8, ""), piece(99, ""))
	takesNot(t, r, api.ErrArg, piece(-1, ""))
	grants(t, r, 10, false)

	r = taking(t, 10)
	resets(t, r, 10, 10, api.OK)
	readsNot(t, r, 9, api.ErrOver)
	takes(t, r, piece(3, "de"), 0)
	readsNot(t, r, 9, api.ErrOver)

	r = taking(t, 10)
	takes(t, r, last(3, "de"), 5) // the size was known
	resets(t, r, 5, 0, api.OK)
	takes(t, r, piece(0, "abc"), 0)
	readsNot(t, r, 9, api.ErrOver)
	sized(t, r, 5)

	r = taking(t, 10)
	takes(t, r, piece(0, "ab"), 2)
	takes(t, r, piece(3, "de"), 3)
	resets(t, r, 5, 0, api.OK) // all but one came
	readsNot(t, r, 9, api.ErrOver)
}

// P13.1: a reset drops nothing, if all came.
func TestResetOfWhole(t *testing.T) {
	r := taking(t, 10)
	takes(t, r, piece(2, "cde"), 5)
	takes(t, r, piece(0, "ab"), 0)
	reads(t, r, 1, "a", false)
	resets(t, r, 5, 0, api.OK)
	sized(t, r, 5)
	reads(t, r, 2, "bc", false)
	resets(t, r, 5, 0, api.OK)
	takes(t, r, piece(0, "XXXXX"), 0)
	takesNot(t, r, api.ErrSize, piece(5, "f"))
	reads(t, r, 9, "de", true)
	resets(t, r, 5, 0, api.OK)
	reads(t, r, 9, "", true)
	grants(t, r, 10, false)

	r = taking(t, 10)
	resets(t, r, 0, 0, api.OK)
	sized(t, r, 0)
	reads(t, r, 9, "", true)

	r = taking(t, 10)
	takes(t, r, last(0, "abc"), 3)
	resets(t, r, 3, 0, api.OK)
	reads(t, r, 9, "abc", true)
}

// P13.1, P13.4: what Reset refuses; nothing is dropped then.
func TestResetRefuses(t *testing.T) {
	r := taking(t, 10)
	takes(t, r, piece(0, "abcd"), 4)
	takes(t, r, piece(6, ""), 2)
	for size, want := range map[int]api.Errno{
		-1: api.ErrArg, math.MinInt: api.ErrArg, top + 1: api.ErrArg, math.MaxInt: api.ErrArg,
		0: api.ErrSize, 4: api.ErrSize, 5: api.ErrSize, 11: api.ErrFlow, top: api.ErrFlow,
	} {
		resets(t, r, size, 0, want)
	}
	sized(t, r, -1)
	reads(t, r, 2, "ab", false)
	takes(t, r, last(7, ""), 1)
	for size, want := range map[int]api.Errno{-1: api.ErrArg, 0: api.ErrSize, 6: api.ErrSize, 8: api.ErrSize, 11: api.ErrSize, top: api.ErrSize, top + 1: api.ErrArg} {
		resets(t, r, size, 0, want)
	}
	reads(t, r, 9, "cd", false)
	resets(t, r, 7, 0, api.OK)
	readsNot(t, r, 9, api.ErrOver)
	resets(t, r, 8, 0, api.ErrSize)
	readsNot(t, r, 9, api.ErrOver)
}

// P13.2: of the greatest window every other byte comes first.
func TestManyRanges(t *testing.T) {
	s := text(2 * api.MaxWindow)
	r := taking(t, api.MaxWindow)
	takes(t, r, piece(0, s[:api.MaxWindow-1]), api.MaxWindow-1)
	reads(t, r, api.MaxWindow-1, s[:api.MaxWindow-1], false)
	grants(t, r, 2*api.MaxWindow-1, true)
	for i := api.MaxWindow; i < 2*api.MaxWindow-1; i += 2 {
		if n, e := r.Take(piece(i, s[i:i+1])); e != api.OK || n < 1 {
			t.Fatal(i, n, e)
		}
		reads(t, r, 9, "", false)
	}
	for i := 2*api.MaxWindow - 3; i >= api.MaxWindow-1; i -= 2 {
		takes(t, r, piece(i, s[i:i+1]), 0)
	}
	takes(t, r, last(2*api.MaxWindow-2, s[2*api.MaxWindow-2:2*api.MaxWindow-1]), 0)
	reads(t, r, math.MaxInt, s[api.MaxWindow-1:2*api.MaxWindow-1], true)
}

// P1, P13.1: an end that isn't one.
func TestNoRecv(t *testing.T) {
	for _, r := range []*stream.Recv{nil, {}} {
		takesNot(t, r, api.ErrArg, piece(0, "a"), last(0, ""), piece(-1, ""))
		resets(t, r, 0, 0, api.ErrArg)
		readsNot(t, r, 9, api.ErrArg)
		readsNot(t, r, -1, api.ErrArg)
		grants(t, r, 0, false)
		sized(t, r, -1)
	}
}

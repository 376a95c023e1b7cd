package doq_test

import (
	"math/rand"
	"slices"
	"strings"
	"testing"

	"rhyne/api"
	"rhyne/doq"
)

// mostWaiting is how many bytes may wait.
const mostWaiting = 1 << 20

// frame is a text as it stands on a stream, be it empty, too.
func frame(s string) string { return string([]byte{byte(len(s) >> 8), byte(len(s))}) + s }

// feeds tells whether Feed answers as it should.
func feeds(t *testing.T, r *doq.Reader, s string, want api.Errno) {
	t.Helper()
	if e := r.Feed(s); e != want {
		t.Errorf("Feed of %d bytes: %d; not %d", len(s), e, want)
	}
}

// next tells whether Next answers a message.
func next(t *testing.T, r *doq.Reader, want string) {
	t.Helper()
	if s, ok := r.Next(); !ok || s != want {
		t.Errorf("Next: %.50q, %v; not %.50q", s, ok, want)
	}
}

// nothing tells whether Next says that there is no message.
func nothing(t *testing.T, r *doq.Reader) {
	t.Helper()
	for range 2 {
		if s, ok := r.Next(); ok || s != "" {
			t.Errorf("Next: %.50q, %v", s, ok)
		}
	}
}

// ends tells whether End answers a code, again and again.
func ends(t *testing.T, r *doq.Reader, want int) {
	t.Helper()
	for range 2 {
		if code := r.End(); code != want {
			t.Errorf("End: %d; not %d", code, want)
		}
	}
}

// P23.1: messages come out as soon as they are there wholly.
func TestReader(t *testing.T) {
	r := &doq.Reader{}
	nothing(t, r)
	feeds(t, r, "", api.OK)
	nothing(t, r)
	// The chapter's example.
	feeds(t, r, "\x00", api.OK)
	nothing(t, r)
	feeds(t, r, "\x02\x61", api.OK)
	nothing(t, r)
	feeds(t, r, "b", api.OK)
	next(t, r, "ab")
	nothing(t, r)
	feeds(t, r, frame("c")+frame(strings.Repeat("d", 256))+frame("e")[:2], api.OK)
	next(t, r, "c")
	next(t, r, strings.Repeat("d", 256))
	nothing(t, r)
	feeds(t, r, "e", api.OK)
	next(t, r, "e")
	nothing(t, r)
	ends(t, r, doq.NoError)
}

// P23.1: a stream that ends, with nothing left, or something.
func TestEnd(t *testing.T) {
	ends(t, &doq.Reader{}, doq.NoError)
	r := &doq.Reader{}
	feeds(t, r, "\x00", api.OK)
	feeds(t, r, "\x02\x61", api.OK)
	nothing(t, r)
	ends(t, r, doq.Protocol)
	for _, s := range []string{"\x00", "\x01", "\x00\x01", "\x00\x02a", "\x01\x00" + strings.Repeat("a", 255), "\xff\xff" + strings.Repeat("a", 65534)} {
		r := &doq.Reader{}
		feeds(t, r, s, api.OK)
		nothing(t, r)
		ends(t, r, doq.Protocol)
		feeds(t, r, "a", api.ErrOver)
		feeds(t, r, "", api.ErrOver)
		nothing(t, r)
		ends(t, r, doq.Protocol)
		r = &doq.Reader{}
		feeds(t, r, frame("m")+s, api.OK)
		next(t, r, "m")
		ends(t, r, doq.Protocol)
	}
	// What came ahead of the end is answered behind it, too.
	r = &doq.Reader{}
	feeds(t, r, frame("a")+frame("b"), api.OK)
	ends(t, r, doq.Protocol)
	next(t, r, "a")
	ends(t, r, doq.Protocol)
	next(t, r, "b")
	ends(t, r, doq.NoError)
	nothing(t, r)
	feeds(t, r, frame("c"), api.ErrOver)
	feeds(t, r, strings.Repeat("c", mostWaiting+1), api.ErrOver)
	nothing(t, r)
	ends(t, r, doq.NoError)
}

// P23.1: a frame of no bytes is none, and nothing behind it is.
func TestFrameOfNoBytes(t *testing.T) {
	for _, pieces := range [][]string{{"\x00\x00"}, {"\x00", "\x00"}, {"\x00\x00" + frame("b")}, {"\x00", "\x00\x00\x01b"}, {"\x00\x00\x00\x00\x00"}} {
		for _, ahead := range []string{"", "a", strings.Repeat("a", 300)} {
			r := &doq.Reader{}
			if ahead != "" {
				feeds(t, r, frame(ahead), api.OK)
			}
			for _, s := range pieces {
				feeds(t, r, s, api.OK)
			}
			if ahead != "" {
				next(t, r, ahead)
			}
			nothing(t, r)
			feeds(t, r, frame("c"), api.OK)
			nothing(t, r)
			ends(t, r, doq.Protocol)
			nothing(t, r)
			ends(t, r, doq.Protocol)
		}
	}
}

// P23.1: 2^20 bytes wait, and one more.
func TestMostWaiting(t *testing.T) {
	great := frame(strings.Repeat("g", 65535))
	all := strings.Repeat(great, 15) + frame("h") + frame(strings.Repeat("i", 65514)) + "\x00\x01"
	if len(all) != mostWaiting {
		t.Fatal(len(all))
	}
	for _, size := range []int{1000, 65535, mostWaiting - 1, mostWaiting} {
		r := &doq.Reader{}
		feeds(t, r, all+"\x00", api.ErrFull)
		nothing(t, r)
		for piece := range slices.Chunk([]byte(all), size) {
			feeds(t, r, string(piece), api.OK)
		}
		for range 2 {
			feeds(t, r, "j", api.ErrFull)
			feeds(t, r, all, api.ErrFull)
			feeds(t, r, "", api.OK)
		}
		// A message that was answered leaves room for its bytes and its count's.
		next(t, r, great[2:])
		more := "j" + frame(strings.Repeat("k", 65534))
		feeds(t, r, more+"l", api.ErrFull)
		feeds(t, r, more, api.OK)
		feeds(t, r, "l", api.ErrFull)
		for range 14 {
			next(t, r, great[2:])
		}
		next(t, r, "h")
		next(t, r, strings.Repeat("i", 65514))
		next(t, r, "j")
		next(t, r, strings.Repeat("k", 65534))
		nothing(t, r)
		ends(t, r, doq.NoError)
	}
	// What no message can be taken of waits as well.
	r := &doq.Reader{}
	feeds(t, r, strings.Repeat("\x00", mostWaiting), api.OK)
	feeds(t, r, "\x00", api.ErrFull)
	nothing(t, r)
	feeds(t, r, "\x00", api.ErrFull)
	ends(t, r, doq.Protocol)
	feeds(t, r, "\x00", api.ErrOver)
}

// P1, P23.1: no reader.
func TestNoReader(t *testing.T) {
	var r *doq.Reader
	for range 2 {
		feeds(t, r, "", api.ErrArg)
		feeds(t, r, frame("a"), api.ErrArg)
		feeds(t, r, strings.Repeat("a", mostWaiting+1), api.ErrArg)
		nothing(t, r)
		ends(t, r, doq.Protocol)
	}
}

// P23.2: framed and fed in pieces of any size: they come back, each as soon as it is there.
func TestComeBack(t *testing.T) {
	rnd := rand.New(rand.NewSource(2))
	var sent []string
	var all []byte
	for _, n := range []int{1, 2, 3, 255, 256, 257, 511, 512, 4000, 65534, 65535, 1, 300} {
		b := make([]byte, n)
		rnd.Read(b)
		framed, e := doq.Frame(b)
		if e != api.OK {
			t.Fatal(n, e)
		}
		sent, all = append(sent, string(b)), append(all, framed...)
	}
	for _, size := range []int{1, 2, 3, 4, 5, 7, 254, 255, 256, 257, 1000, 65535, 65536, 65537, 65538, len(all) - 1, len(all)} {
		r := &doq.Reader{}
		var got []string
		came, whole := 0, 0
		for piece := range slices.Chunk(all, size) {
			feeds(t, r, string(piece), api.OK)
			came += len(piece)
			for s, ok := r.Next(); ok; s, ok = r.Next() {
				got = append(got, s)
				whole += 2 + len(s)
			}
			if len(got) < len(sent) && whole+2+len(sent[len(got)]) <= came {
				t.Fatal("a message is there, but isn't answered", size, came)
			}
		}
		if !slices.Equal(got, sent) {
			t.Error("others came back", size, len(got))
		}
		ends(t, r, doq.NoError)
	}
}

// plain is a reader that has all that ever came.
type plain struct {
	all  string
	at   int
	over bool
}

// first is the first message that wasn't answered.
func (p *plain) first() (string, bool) {
	rest := p.all[p.at:]
	if len(rest) < 3 || rest[:2] == "\x00\x00" {
		return "", false
	}
	count := int(rest[0])*256 + int(rest[1])
	if len(rest)-2 < count {
		return "", false
	}
	p.at += 2 + count
	return rest[2 : 2+count], true
}

// P23.1: whatever is called in whatever order, a reader does as a plain one.
func TestReaderBesidePlain(t *testing.T) {
	rnd := rand.New(rand.NewSource(3))
	for range 3000 {
		r, p := &doq.Reader{}, &plain{}
		for range rnd.Intn(60) {
			switch n := rnd.Intn(30); {
			case n == 0:
				p.over = true
				want := doq.NoError
				if p.at < len(p.all) {
					want = doq.Protocol
				}
				ends(t, r, want)
			case n < 14:
				s, ok := p.first()
				if got, there := r.Next(); got != s || there != ok {
					t.Fatalf("Next: %.50q, %v; not %.50q, %v", got, there, s, ok)
				}
			default:
				s := strings.Repeat("s", rnd.Intn(4)*rnd.Intn(200))
				if len(s) > 0 || rnd.Intn(20) == 0 {
					s = frame(s)
				}
				s = s[:len(s)-rnd.Intn(len(s)+1)/8]
				if p.over {
					feeds(t, r, s, api.ErrOver)
					continue
				}
				feeds(t, r, s, api.OK)
				p.all += s
			}
		}
	}
}

// P23.3: pieces aren't kept; messages are new memory.
func TestReaderMemory(t *testing.T) {
	r := &doq.Reader{}
	piece := []byte("\x00\x03abc\x00\x02d")
	feeds(t, r, fleeting(piece), api.OK)
	clear(piece)
	first, _ := r.Next()
	for range 100 {
		feeds(t, r, "e", api.OK)
		if s, ok := r.Next(); !ok || s != "de" {
			t.Fatal(s, ok)
		}
		feeds(t, r, "\x00\x02d", api.OK)
	}
	if first != "abc" {
		t.Error("a message changed", first)
	}
	// Each reader has its own bytes.
	other := &doq.Reader{}
	feeds(t, other, frame("x"), api.OK)
	feeds(t, r, "e", api.OK)
	next(t, other, "x")
	next(t, r, "de")
}

// As many messages as can wait.
func TestManyWait(t *testing.T) {
	r := &doq.Reader{}
	feeds(t, r, strings.Repeat(frame("m"), mostWaiting/3), api.OK)
	n := 0
	for s, ok := r.Next(); ok; s, ok = r.Next() {
		if n++; s != "m" {
			t.Fatal(n, s)
		}
	}
	if n != mostWaiting/3 {
		t.Error(n)
	}
	ends(t, r, doq.NoError)
}

package name_test

import (
	"bytes"
	"math"
	"math/rand"
	"slices"
	"strings"
	"testing"

	"rhyne/api"
	"rhyne/name"
)

// part is a part of n bytes.
func part(n int) string { return strings.Repeat("p", n) }

// dotted is parts with a dot behind each.
func dotted(parts ...string) string {
	return strings.Join(parts, ".") + "."
}

// roomy is b with spare room behind it that is filled.
func roomy(b []byte) []byte {
	full := append(bytes.Clone(b), strings.Repeat("\xee", 400)...)
	return full[:len(b)]
}

// known is a name, its parts and its bytes.
type known struct {
	s      string
	labels []string
	wire   string
}

func someNames() []known {
	longest := part(63)
	return []known{
		{".", nil, "\x00"},
		{"a.", []string{"a"}, "\x01a\x00"},
		{"a.bc.", []string{"a", "bc"}, "\x01a\x02bc\x00"},
		{"www.example.com.", []string{"www", "example", "com"}, "\x03www\x07example\x03com\x00"},
		{"*.x.", []string{"*", "x"}, "\x01*\x01x\x00"},
		{"-.", []string{"-"}, "\x01-\x00"},
		{"_.", []string{"_"}, "\x01_\x00"},
		{"0-9_*z.a0.", []string{"0-9_*z", "a0"}, "\x060-9_*z\x02a0\x00"},
		{longest + ".", []string{longest}, "\x3f" + longest + "\x00"},
		{dotted(longest, longest, longest, part(61)), []string{longest, longest, longest, part(61)}, strings.Repeat("\x3f"+longest, 3) + "\x3d" + part(61) + "\x00"},
		{strings.Repeat("a.", 127), slices.Repeat([]string{"a"}, 127), strings.Repeat("\x01a", 127) + "\x00"},
	}
}

func noNames() []string {
	longest := part(63)
	return []string{
		"", "a", "..", "...", ".a", ".a.", "a..", "a..b.", "a.b", "a.b..", "..a.", "x.a", " .", "a .", " a.", "a b.", "A.", "Z.", "a.B.", "a.bC.", "ä.", "a\x00.", "\x00.", "\xff.",
		"a\\.b.", "a/b.", "a+.", "a,b.", "a:.", "`.", "{.", "@.", "[.", "\n", "a.\n", ".\n",
		part(64) + ".", "a." + part(64) + ".", part(64) + ".a.", part(255) + ".", part(256) + ".", part(257) + ".",
		longest, dotted(longest, longest, longest, part(62)), dotted(longest, longest, longest, longest), dotted(longest, longest, longest, part(61), "a"),
		strings.Repeat("a.", 128), strings.Repeat("a.", 127) + "a", strings.Repeat("a.", 126) + "ab.a.", strings.Repeat("a.", 1<<20), strings.Repeat(".", 1<<20), part(1 << 20),
	}
}

// P17.1: the parts and the bytes of names.
func TestLabelsAndWire(t *testing.T) {
	for _, c := range someNames() {
		if l, e := name.Labels(c.s); e != api.OK || !slices.Equal(l, c.labels) {
			t.Errorf("Labels of %q: %q, %d", c.s, l, e)
		}
		if b, e := name.Wire(c.s); e != api.OK || string(b) != c.wire {
			t.Errorf("Wire of %q: %x, %d; not %x", c.s, b, e, c.wire)
		}
	}
	if b, _ := name.Wire(strings.Repeat("a.", 127)); len(b) != api.MaxName {
		t.Error("the longest name has", len(b), "bytes")
	}
}

// P17.1: what isn't a name is told by every call.
func TestNoNames(t *testing.T) {
	for _, s := range noNames() {
		if l, e := name.Labels(s); len(l) != 0 || e != api.ErrName {
			t.Errorf("Labels of %.99q: %q, %d", s, l, e)
		}
		if b, e := name.Wire(s); len(b) != 0 || e != api.ErrName {
			t.Errorf("Wire of %.99q: %x, %d", s, b, e)
		}
		if up, e := name.Up(s); up != "" || e != api.ErrName {
			t.Errorf("Up of %.99q: %q, %d", s, up, e)
		}
		if b, e := new(name.Table).Put([]byte("ahead"), s); len(b) != 0 || e != api.ErrName {
			t.Errorf("Put of %.99q: %x, %d", s, b, e)
		}
		for _, other := range append(noNames(), ".", "a.", "zz.zz.") {
			if name.Less(s, other) || name.Less(other, s) {
				t.Errorf("Less of %.99q and %.99q", s, other)
			}
			if name.Under(s, other) || name.Under(other, s) {
				t.Errorf("Under of %.99q and %.99q", s, other)
			}
		}
	}
}

// P17.1: which bytes a part may have, wherever they stand in it; large letters in bytes alone.
func TestBytesOfParts(t *testing.T) {
	for c := range 256 {
		own := strings.IndexByte("abcdefghijklmnopqrstuvwxyz0123456789-_*", byte(c)) >= 0
		large := 'A' <= c && c <= 'Z'
		for _, p := range []string{string([]byte{byte(c)}), string([]byte{byte(c), 'a'}), string([]byte{'a', byte(c), 'b'}), string([]byte{'a', byte(c)})} {
			want := api.ErrName
			if own {
				want = api.OK
			}
			// A dot doesn't stand in a part: it ends one.
			if c != '.' {
				if _, e := name.Labels(p + ".z."); e != want {
					t.Errorf("Labels of %q: %d", p+".z.", e)
				}
			}
			if large {
				want = api.OK
			}
			s, at, e := name.Get(append(append([]byte{byte(len(p))}, p...), "\x01z\x00"...), 0)
			if e != want || e == api.OK && (s != strings.ToLower(p)+".z." || at != len(p)+4) {
				t.Errorf("Get of %q: %q, %d, %d", p, s, at, e)
			}
		}
	}
}

// P17.1: Up, from part to part.
func TestUp(t *testing.T) {
	for _, c := range someNames() {
		s := c.s
		for i := range c.labels {
			up, e := name.Up(s)
			if e != api.OK {
				t.Fatalf("Up of %q: %d", s, e)
			}
			if l, e := name.Labels(up); e != api.OK || !slices.Equal(l, c.labels[i+1:]) {
				t.Errorf("Up of %q: %q", s, up)
			}
			s = up
		}
		if up, e := name.Up(s); s != "." || up != "" || e != api.ErrEnd {
			t.Errorf("Up of %q: %q, %d", s, up, e)
		}
	}
}

// inOrder are names, rising.
func inOrder() []string {
	return []string{
		".", "*.", "-.", "-a.", "0.", "00.", "09.", "9.", "_.", "a.", "*.a.", "-.a.", "a.a.", "a.a.a.", "z.a.a.", "aa.a.", "z.a.",
		"a-.", "a0.", "aa.", "a.aa.", "ab.", "az.", "b.", "a.b.", "*.a.b.", "b.a.b.", "ab.b.", "z.b.", "zz.", "a.zz.", part(62) + ".zz.", part(63) + ".zz.", "z.zz.", "zzz.",
	}
}

// P17.1, P17.3: Less is as the chapter says; of two unlike names just one comes ahead.
func TestLess(t *testing.T) {
	l := inOrder()
	for i, a := range l {
		for j, b := range l {
			if name.Less(a, b) != (i < j) {
				t.Errorf("Less of %q and %q isn't %v", a, b, i < j)
			}
		}
	}
	for _, c := range [][2]string{{"b.", "a.b."}, {"z.a.", "a.b."}, {"z.", "a.z."}, {".", "a."}, {"a.", "ab."}, {"z.a.", "ab."}, {"zz.a.a.", "a.ab."}, {"-.", "0."}, {"9.", "_."}, {"_.", "a."}, {"*.", "-."}} {
		if !name.Less(c[0], c[1]) || name.Less(c[1], c[0]) {
			t.Error("Less of", c)
		}
	}
}

// byLabels compares names by the words of the chapter: parts from the highest on.
func byLabels(a, b string) int {
	one, _ := name.Labels(a)
	other, _ := name.Labels(b)
	slices.Reverse(one)
	slices.Reverse(other)
	return slices.Compare(one, other)
}

// someName draws a name of few letters, so that names often have a part in common.
func someName(draw *rand.Rand) string {
	parts := make([]string, draw.Intn(6))
	for i := range parts {
		p := make([]byte, 1+draw.Intn(3))
		for j := range p {
			p[j] = "ab-*_0"[draw.Intn(6)]
		}
		parts[i] = string(p)
	}
	if len(parts) == 0 {
		return "."
	}
	return dotted(parts...)
}

// P17.1, P17.3: Less and Under, of any two names, beside their parts.
func TestLessAndUnderOfAny(t *testing.T) {
	draw := rand.New(rand.NewSource(171))
	for range 50000 {
		a, b := someName(draw), someName(draw)
		if draw.Intn(4) == 0 && a != "." && b != "." {
			a += b
		}
		if order := byLabels(a, b); name.Less(a, b) != (order < 0) || name.Less(b, a) != (order > 0) || (a == b) != (order == 0) {
			t.Fatalf("Less of %q and %q", a, b)
		}
		one, _ := name.Labels(a)
		other, _ := name.Labels(b)
		under := len(one) >= len(other) && slices.Equal(one[len(one)-len(other):], other)
		if name.Under(a, b) != under {
			t.Fatalf("Under of %q and %q isn't %v", a, b, under)
		}
	}
}

// P17.1: Under goes by whole parts.
func TestUnder(t *testing.T) {
	for _, c := range []struct {
		a, b string
		want bool
	}{
		{"a.b.", "b.", true}, {"a.b.", "a.b.", true}, {"a.b.", ".", true}, {".", ".", true}, {"a.b.c.d.", "c.d.", true},
		{"b.", "a.b.", false}, {"ab.", "b.", false}, {"a.b.", "a.", false}, {".", "a.", false}, {"x.ab.", "b.", false}, {"a.b.c.", "a.b.", false}, {"a.b.", "b", false}, {"a.b", "b", false},
	} {
		if name.Under(c.a, c.b) != c.want {
			t.Errorf("Under of %q and %q isn't %v", c.a, c.b, c.want)
		}
	}
	for _, c := range someNames() {
		if !name.Under(c.s, c.s) || !name.Under(c.s, ".") {
			t.Errorf("Under of %q", c.s)
		}
	}
}

// P17.4: answers are new memory: who changes one changes no other.
func TestAnswersAreNew(t *testing.T) {
	for _, c := range someNames() {
		l, _ := name.Labels(c.s)
		clear(l[:cap(l)])
		b, _ := name.Wire(c.s)
		clear(b[:cap(b)])
		if l, _ := name.Labels(c.s); !slices.Equal(l, c.labels) {
			t.Errorf("Labels of %q: %q", c.s, l)
		}
		if b, _ := name.Wire(c.s); string(b) != c.wire {
			t.Errorf("Wire of %q: %x", c.s, b)
		}
	}
	b := roomy([]byte("\x01a\x00\x01b\xc0\x00"))
	held := string(b[:cap(b)])
	s, _, e := name.Get(b, 3)
	if string(b[:cap(b)]) != held {
		t.Error("Get changed its bytes")
	}
	clear(b)
	if s != "b.a." || e != api.OK {
		t.Error("Get", s, e)
	}
}

// P1: every call answers, for any text and any place.
func TestAnyText(t *testing.T) {
	draw := rand.New(rand.NewSource(172))
	for range 20000 {
		b := make([]byte, draw.Intn(300))
		for i := range b {
			b[i] = "ab.\x00\xc0\xffZ"[draw.Intn(7)]
			if draw.Intn(2) == 0 {
				b[i] = 'c'
			}
		}
		s := string(b)
		l, e := name.Labels(s)
		w, f := name.Wire(s)
		_, g := name.Up(s)
		p, h := new(name.Table).Put(nil, s)
		if e != f || e != h || (e == api.OK) != name.Under(s, ".") || e != g && g != api.ErrEnd || !bytes.Equal(w, p) {
			t.Fatalf("%q: %d, %d, %d, %d", s, e, f, g, h)
		}
		if e == api.OK && s != "." && s != dotted(l...) {
			t.Fatalf("Labels of %q: %q", s, l)
		}
		for _, at := range []int{math.MinInt, -1, len(b), len(b) + 1, math.MaxInt} {
			if s, _, e := name.Get(b, at); s != "" || e == api.OK {
				t.Fatal(s, e)
			}
		}
	}
}

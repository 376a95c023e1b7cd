package name_test

import (
	"bytes"
	"math/rand"
	"strings"
	"testing"

	"rhyne/api"
	"rhyne/name"
)

// puts puts a name behind b, and answers both.
func puts(t *testing.T, table *name.Table, b []byte, s, want string) []byte {
	t.Helper()
	ahead := string(b)
	out, e := table.Put(b, s)
	if e != api.OK || string(out) != ahead+want {
		t.Fatalf("Put of %q behind %d bytes: %x, %d; not %x", s, len(ahead), out[min(len(ahead), len(out)):], e, want)
	}
	return out
}

// P17.1: names are written short by what stands ahead.
func TestPut(t *testing.T) {
	table := &name.Table{}
	b := puts(t, table, nil, "a.b.", "\x01a\x01b\x00")
	b = puts(t, table, b, "c.b.", "\x01c\xc0\x02")
	b = puts(t, table, b, "a.b.", "\xc0\x00")
	b = puts(t, table, b, "b.", "\xc0\x02")
	b = puts(t, table, b, "c.b.", "\xc0\x05")
	b = puts(t, table, b, ".", "\x00")
	b = puts(t, table, b, ".", "\x00")
	b = puts(t, table, b, "c.", "\x01c\x00")
	b = puts(t, table, b, "a.", "\x01a\x00")
	b = puts(t, table, b, "x.y.c.b.", "\x01x\x01y\xc0\x05")
	b = puts(t, table, b, "y.c.b.", "\xc0\x19")
	b = puts(t, table, b, "ab.", "\x02ab\x00")
	b = puts(t, table, b, "b.ab.", "\x01b\xc0\x1f")
	puts(t, table, b, "a.b.ab.", "\x01a\xc0\x23")
	// Another table knows nothing of it.
	puts(t, &name.Table{}, b, "a.b.", "\x01a\x01b\x00")
}

// P17.1: no name, and no table; nothing is known by a call that refuses.
func TestPutRefuses(t *testing.T) {
	var none *name.Table
	for s, want := range map[string]api.Errno{"a.": api.ErrArg, ".": api.ErrArg, "": api.ErrName, "a": api.ErrName, "A.": api.ErrName} {
		if b, e := none.Put([]byte("12"), s); len(b) != 0 || e != want {
			t.Errorf("Put of %q into no table: %x, %d", s, b, e)
		}
	}
	table := &name.Table{}
	for _, s := range []string{"a.B.", "a.b", "a..b.", strings.Repeat("a.", 128)} {
		if b, e := table.Put([]byte("12"), s); len(b) != 0 || e != api.ErrName {
			t.Errorf("Put of %q: %x, %d", s, b, e)
		}
	}
	b := puts(t, table, []byte("123"), "a.b.", "\x01a\x01b\x00")
	if _, e := table.Put(b, "c..a.b."); e != api.ErrName {
		t.Error(e)
	}
	puts(t, table, b, "c.a.b.", "\x01c\xc0\x03")
}

// P17.1: two bytes tell a place below 16384, and no other.
func TestPutFarPlaces(t *testing.T) {
	for _, far := range []int{255, 256, 16380, 16381, 16382, 16383} {
		table := &name.Table{}
		b := puts(t, table, make([]byte, far), "a.", "\x01a\x00")
		b = puts(t, table, b, "a.", string([]byte{0xc0 | byte(far>>8), byte(far)}))
		if s, _, e := name.Get(b, far+3); s != "a." || e != api.OK {
			t.Error(far, s, e)
		}
	}
	for _, far := range []int{16384, 16385, 32768, 65536, 1 << 20} {
		table := &name.Table{}
		b := puts(t, table, make([]byte, far), "a.", "\x01a\x00")
		b = puts(t, table, b, "a.", "\x01a\x00")
		puts(t, table, b, "b.a.", "\x01b\x01a\x00")
	}
	// The first part of a name may stand at such a place, and its rest not.
	table := &name.Table{}
	b := puts(t, table, make([]byte, 16382), "a.b.", "\x01a\x01b\x00")
	b = puts(t, table, b, "b.", "\x01b\x00")
	b = puts(t, table, b, "a.b.", "\xff\xfe")
	b = puts(t, table, b, "c.a.b.", "\x01c\xff\xfe")
	puts(t, table, b, "c.a.b.", "\x01c\xff\xfe")
}

// P17.1: it is the first place of a rest that is told, below 16384.
func TestPutFirstPlace(t *testing.T) {
	table := &name.Table{}
	b := puts(t, table, nil, "a.", "\x01a\x00")
	b = puts(t, table, b, "b.a.", "\x01b\xc0\x00")
	b = puts(t, table, b, "a.", "\xc0\x00")
	puts(t, table, b, "b.a.", "\xc0\x03")
	// A place that two bytes can't tell isn't such a one.
	table = &name.Table{}
	puts(t, table, make([]byte, 20000), "a.", "\x01a\x00")
	b = puts(t, table, make([]byte, 7), "a.", "\x01a\x00")
	puts(t, table, b, "a.", "\xc0\x07")
	puts(t, table, make([]byte, 20000), "a.", "\xc0\x07")
}

// P17.2: names that are put one behind the other come back, and are as short as can be.
func TestPutComesBack(t *testing.T) {
	draw := rand.New(rand.NewSource(174))
	for range 300 {
		table := &name.Table{}
		b := make([]byte, draw.Intn(3)*draw.Intn(9000))
		places := map[string]int{}
		for range 40 {
			s := someName(draw)
			at := len(b)
			out, e := table.Put(b, s)
			if e != api.OK || !bytes.Equal(out[:at], b) || string(out[at:]) != short(places, at, s) {
				t.Fatalf("Put of %q: %x, %d; not %x", s, out[at:], e, short(places, at, s))
			}
			b = out
			know(places, at, s)
			got, behind, e := name.Get(b, at)
			if got != s || behind != len(b) || e != api.OK {
				t.Fatalf("Get of %q: %q, %d, %d", s, got, behind, e)
			}
			b = append(b, make([]byte, draw.Intn(300))...)
		}
	}
}

// short is what Put should write at a place, if these rests are known.
func short(places map[string]int, at int, s string) string {
	labels, _ := name.Labels(s)
	out := ""
	for i, label := range labels {
		if place, ok := places[dotted(labels[i:]...)]; ok {
			return out + string([]byte{0xc0 + byte(place/256), byte(place % 256)})
		}
		out += string([]byte{byte(len(label))}) + label
	}
	return out + "\x00"
}

// know is what is known once s was put at a place.
func know(places map[string]int, at int, s string) {
	labels, _ := name.Labels(s)
	for i, label := range labels {
		rest := dotted(labels[i:]...)
		if _, ok := places[rest]; ok {
			return
		}
		if at < 16384 {
			places[rest] = at
		}
		at += 1 + len(label)
	}
}

// P17.4: what is handed in stays, but for its spare room, which the answer may have; nothing of it is kept.
func TestPutArgumentsStay(t *testing.T) {
	table := &name.Table{}
	b := roomy([]byte("ahead"))
	out := puts(t, table, b, "a.b.", "\x01a\x01b\x00")
	if string(b) != "ahead" {
		t.Errorf("%q", b)
	}
	clear(out[:cap(out)])
	clear(b[:cap(b)])
	puts(t, table, make([]byte, 20), "b.", "\xc0\x07")
}

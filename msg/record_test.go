package msg_test

import (
	"cmp"
	"math"
	"math/rand"
	"slices"
	"strings"
	"testing"

	"rhyne/api"
	"rhyne/msg"
	"rhyne/name"
)

// longest is a name of 255 bytes.
func longest() string {
	return strings.Repeat(strings.Repeat("p", 63)+".", 3) + strings.Repeat("p", 61) + "."
}

// sample is a type's data, and whether it is right.
type sample struct {
	kind int
	data string
	ok   bool
}

func samples() []sample {
	numbers := strings.Repeat("\xff", 20)
	return []sample{
		{api.A, "1234", true}, {api.A, "\x00\x00\x00\x00", true}, {api.A, "", false}, {api.A, "123", false}, {api.A, "12345", false},
		{api.AAAA, text(16), true}, {api.AAAA, text(15), false}, {api.AAAA, text(17), false}, {api.AAAA, text(4), false}, {api.AAAA, "", false},
		{api.NS, "\x00", true}, {api.NS, wire("a.b."), true}, {api.NS, wire(longest()), true}, {api.NS, "", false}, {api.NS, "\x01", false}, {api.NS, "\x01a", false},
		{api.NS, "\x00\x00", false}, {api.NS, wire("a.") + "\x00", false}, {api.NS, "a.", false}, {api.NS, "\x01A\x00", false}, {api.NS, "\x01 \x00", false},
		{api.NS, "\x40" + text(64) + "\x00", false}, {api.NS, "\xc0\x00", false}, {api.NS, "\x01a\xc0\x00", false}, {api.NS, strings.Repeat("\x01a", 128) + "\x00", false},
		{api.CNAME, "\x00", true}, {api.CNAME, wire("*.b."), true}, {api.CNAME, wire("a.") + "a", false}, {api.CNAME, "", false}, {api.CNAME, "\x02a\x00", false}, {api.CNAME, "\x01Z\x00", false},
		{api.MX, "\x00\x00\x00", true}, {api.MX, "\xff\xfe" + wire("a.b."), true}, {api.MX, "AB" + wire(longest()), true}, {api.MX, "", false}, {api.MX, "\x00", false}, {api.MX, "\x00\x00", false},
		{api.MX, wire("a.b."), true}, {api.MX, wire("ab.c."), false}, {api.MX, "AB" + wire("a.") + "\x00", false}, {api.MX, "AB\x01A\x00", false}, {api.MX, "AB\x01a", false}, {api.MX, "\x00\x00\xc0\x00", false}, {api.MX, "\x00\x00\x01a\xc0\x00", false},
		{api.SOA, "\x00\x00" + numbers, true}, {api.SOA, wire("a.") + wire("b.c.") + numbers, true}, {api.SOA, wire(longest()) + wire(longest()) + numbers, true},
		{api.SOA, "", false}, {api.SOA, numbers, false}, {api.SOA, "\x00" + numbers, false}, {api.SOA, "\x00\x00" + numbers[1:], false}, {api.SOA, "\x00\x00\x00" + numbers, false}, {api.SOA, "\x00\x00" + numbers + "\x00", false},
		{api.SOA, wire("a.") + "\x01B\x00" + numbers, false}, {api.SOA, "\x01A\x00\x00" + numbers, false}, {api.SOA, wire("a.") + "\xc0\x00" + numbers, false}, {api.SOA, wire("a.") + "\x01b\xc0\x00" + numbers, false},
		{api.SOA, wire("a."), false}, {api.SOA, wire("a.") + wire("b."), false},
		{api.TXT, "\x00", true}, {api.TXT, "\x00\x00", true}, {api.TXT, "\x02hi", true}, {api.TXT, "\x02Hi\x00\x01\xff", true}, {api.TXT, "\xff" + text(255), true}, {api.TXT, strings.Repeat("\x00", 1000), true},
		{api.TXT, "", false}, {api.TXT, "\x01", false}, {api.TXT, "\x02a", false}, {api.TXT, "\x02hi\x01", false}, {api.TXT, "\xff" + text(254), false}, {api.TXT, "\x01hi", false},
		{99, "", true}, {99, "\xc0\x00", true}, {99, text(1000), true}, {99, text(1001), false}, {3, "A", true}, {65535, "\x40", true}, {251, "", true}, {41, "", true},
		{api.TXT, strings.Repeat("\x00", 1001), false}, {99, text(1 << 20), false}, {api.NS, text(1 << 20), false},
	}
}

// P18.1: whether a record's data is right, for each type.
func TestCheckData(t *testing.T) {
	for _, c := range samples() {
		r := record{Name: "x.", Type: c.kind, TTL: 1, Data: c.data}
		want := api.OK
		if !c.ok {
			want = api.ErrForm
		}
		if e := msg.Check(r); e != want {
			t.Errorf("Check of %d, %.99x: %d", c.kind, c.data, e)
		}
		taken(t, message{Extra: []record{r}}, c.ok)
	}
}

// P18.1: the other parts of a record, their limits, and one beyond.
func TestCheckParts(t *testing.T) {
	check := func(r record, ok bool) {
		t.Helper()
		if e := msg.Check(r); ok != (e == api.OK) || !ok && e != api.ErrForm {
			t.Errorf("Check of %+v: %d", r, e)
		}
	}
	for s, ok := range map[string]bool{".": true, "a.": true, longest(): true, "*.a.": true, "": false, "a": false, "A.": false, "a..": false, ".a.": false, "p" + longest(): false, "a." + longest(): false} {
		check(record{Name: s, Type: 99}, ok)
		check(record{Name: s, Type: api.A, Data: "1234"}, ok)
	}
	for n, ok := range map[int]bool{math.MinInt: false, -1: false, 0: false, 3: true, 255: true, 65535: true, 65536: false, 65537: false, 1<<32 + 3: false, math.MaxInt: false} {
		check(record{Name: "a.", Type: n}, ok)
	}
	for n, ok := range map[int]bool{math.MinInt: false, -1: false, 0: true, 1: true, 1<<31 - 1: true, 1 << 31: false, 1 << 32: false, math.MaxInt: false} {
		check(record{Name: "a.", Type: 99, TTL: n}, ok)
	}
	check(record{}, false)
}

// P18.1: the name that data has, or begins with.
func TestTarget(t *testing.T) {
	numbers := strings.Repeat("\x01", 20)
	for _, s := range []string{".", "a.", "a.b.c.", "*.x-y._z.", longest()} {
		for kind, data := range map[int]string{api.NS: wire(s), api.CNAME: wire(s), api.MX: "\x01\x01" + wire(s), api.SOA: wire(s) + wire("other.") + numbers} {
			if got, e := msg.Target(record{Name: "x.", Type: kind, Data: data}); got != s || e != api.OK {
				t.Errorf("Target of %d, %x: %q, %d", kind, data, got, e)
			}
		}
	}
	for _, c := range samples() {
		r := record{Name: "x.", Type: c.kind, Data: c.data}
		got, e := msg.Target(r)
		has := c.kind == api.NS || c.kind == api.CNAME || c.kind == api.MX || c.kind == api.SOA
		want := api.OK
		switch {
		case !c.ok:
			want = api.ErrForm
		case !has:
			want = api.ErrMiss
		}
		if e != want || (got != "") != (e == api.OK) {
			t.Errorf("Target of %d, %.99x: %q, %d", c.kind, c.data, got, e)
		}
	}
	for _, r := range []record{{Name: "x", Type: api.NS, Data: "\x00"}, {Name: "x.", Type: api.NS, TTL: -1, Data: "\x00"}, {Name: "x.", Type: 0}, {Name: "x", Type: 99}} {
		if got, e := msg.Target(r); got != "" || e != api.ErrForm {
			t.Errorf("Target of %+v: %q, %d", r, got, e)
		}
	}
}

// P18.1: the serial of an SOA, and of no other.
func TestSerial(t *testing.T) {
	for _, serial := range []int{0, 1, 255, 256, 258, 1<<31 - 1, 1 << 31, 1<<32 - 1, 0x01020304} {
		for _, names := range []string{wire(".") + wire("."), wire("a.b.") + wire("."), wire(longest()) + wire(longest())} {
			own := string([]byte{byte(serial >> 24), byte(serial >> 16), byte(serial >> 8), byte(serial)})
			r := record{Name: "x.", Type: api.SOA, Data: names + own + strings.Repeat("\x55", 16)}
			if n, e := msg.Serial(r); n != serial || e != api.OK {
				t.Errorf("Serial of %x: %d, %d", r.Data, n, e)
			}
		}
	}
	for _, c := range samples() {
		n, e := msg.Serial(record{Name: "x.", Type: c.kind, Data: c.data})
		want := api.OK
		switch {
		case !c.ok:
			want = api.ErrForm
		case c.kind != api.SOA:
			want = api.ErrMiss
		}
		if e != want || e != api.OK && n != 0 {
			t.Errorf("Serial of %d, %.99x: %d, %d", c.kind, c.data, n, e)
		}
	}
	if n, e := msg.Serial(record{Name: "x", Type: api.SOA, Data: soaData(5, 1)}); n != 0 || e != api.ErrForm {
		t.Error(n, e)
	}
}

// inOrder are records, rising.
func inOrder() []record {
	return []record{
		{Name: ".", Type: 99, Data: "z"},
		{Name: "a.", Type: api.A, TTL: 9, Data: "1234"},
		{Name: "a.", Type: api.A, TTL: 0, Data: "1235"},
		{Name: "a.", Type: api.A, TTL: 7, Data: "1235"},
		{Name: "a.", Type: api.A, TTL: 10, Data: "1235"},
		{Name: "a.", Type: api.A, TTL: 1, Data: "\xff\xff\xff\xff"},
		{Name: "a.", Type: api.NS, Data: "\x00"},
		{Name: "a.", Type: 99, Data: ""},
		{Name: "a.", Type: 99, Data: "a"},
		{Name: "a.", Type: 99, Data: "aa"},
		{Name: "a.", Type: 99, Data: "b"},
		{Name: "a.", Type: 100, Data: "a"},
		{Name: "z.a.", Type: api.A, Data: "1234"},
		{Name: "aa.", Type: api.A, Data: "1234"},
		{Name: "b.", Type: api.A, Data: "1234"},
		{Name: "a.b.", Type: api.A, Data: "0000"},
	}
}

// P18.1: records in their order, each once.
func TestSort(t *testing.T) {
	want := inOrder()
	draw := rand.New(rand.NewSource(183))
	for range 500 {
		l := slices.Repeat(want, 1+draw.Intn(3))
		draw.Shuffle(len(l), func(i, j int) { l[i], l[j] = l[j], l[i] })
		if got := msg.Sort(l); !slices.Equal(got, want) {
			t.Fatalf("Sort: %+v", got)
		}
	}
	for _, l := range [][]record{nil, {}} {
		if got := msg.Sort(l); len(got) != 0 {
			t.Error(got)
		}
	}
	one := record{Name: "a.", Type: 99}
	if got := msg.Sort([]record{one, one, one}); !slices.Equal(got, []record{one}) {
		t.Error(got)
	}
}

// byChapter compares records by the words of the chapter.
func byChapter(a, b record) int {
	order := 0
	switch {
	case name.Less(a.Name, b.Name):
		order = -1
	case name.Less(b.Name, a.Name):
		order = 1
	}
	return cmp.Or(order, a.Type-b.Type, strings.Compare(a.Data, b.Data), a.TTL-b.TTL)
}

// P18.1: any records: none is lost, none is twice there, each is ahead of the next.
func TestSortOfAny(t *testing.T) {
	draw := rand.New(rand.NewSource(184))
	for range 300 {
		var l []record
		for range draw.Intn(60) {
			r := record{Name: anyName(draw), Type: 98 + draw.Intn(3), TTL: draw.Intn(3), Data: text(draw.Intn(3))}
			l = append(l, r)
		}
		got := msg.Sort(l)
		for i, r := range got {
			if i != 0 && byChapter(got[i-1], r) >= 0 {
				t.Fatalf("%+v isn't ahead of %+v", got[i-1], r)
			}
			if !slices.Contains(l, r) {
				t.Fatalf("%+v wasn't there", r)
			}
		}
		for _, r := range l {
			if !slices.Contains(got, r) {
				t.Fatalf("%+v is lost", r)
			}
		}
	}
}

// P1, P18.1: what isn't a record is sorted in any order, but each is once there, whatever order it came in.
func TestSortOfNoRecords(t *testing.T) {
	names := []string{"", "a", "A.", "z.a.", "b.", "m", "a.b", "..", "\xff", "zz.", "."}
	var l []record
	for i, s := range names {
		l = append(l, record{Name: s, Type: -i, TTL: math.MinInt}, record{Name: s, Type: math.MaxInt, Data: text(2000)}, record{Name: s, Type: math.MinInt, TTL: math.MaxInt})
	}
	want := msg.Sort(l)
	if len(want) != len(l) {
		t.Errorf("%d of %d", len(want), len(l))
	}
	draw := rand.New(rand.NewSource(185))
	for range 200 {
		more := slices.Repeat(l, 2)
		draw.Shuffle(len(more), func(i, j int) { more[i], more[j] = more[j], more[i] })
		if got := msg.Sort(more); !slices.Equal(got, want) {
			t.Fatalf("Sort: %+v", got)
		}
	}
}

// P18.3: what is sorted stays as it was, and the answer is new memory.
func TestSortArgumentStays(t *testing.T) {
	l := inOrder()
	slices.Reverse(l)
	held := slices.Clone(l)
	spare := append(slices.Clone(l), record{Name: "spare."}, record{Name: "room."})
	got := msg.Sort(spare[:len(l)])
	clear(got[:cap(got)])
	if !slices.Equal(spare[:len(l)], held) || spare[len(l)].Name != "spare." || spare[len(l)+1].Name != "room." {
		t.Errorf("%+v", spare)
	}
	one := []record{{Name: "a.", Type: 99}}
	clear(msg.Sort(one))
	if one[0].Name != "a." {
		t.Error(one)
	}
}

package ranges_test

import (
	"iter"
	"math"
	"math/rand"
	"slices"
	"testing"

	"rhyne/api"
	"rhyne/ranges"
)

// Kinds of numbers of one's own.
type (
	ownInt    int
	ownInt32  int32
	ownInt64  int64
	ownUint64 uint64
)

// pair is a range.
type pair[T ranges.Number] struct{ from, to T }

// gone is what is gone through, as a list.
func gone[T ranges.Number](l iter.Seq2[T, T]) []pair[T] {
	var out []pair[T]
	for from, to := range l {
		out = append(out, pair[T]{from, to})
	}
	return out
}

// pairs are ranges of first and last numbers, one behind the other.
func pairs[T ranges.Number](l ...T) []pair[T] {
	var out []pair[T]
	for i := 0; i < len(l); i += 2 {
		out = append(out, pair[T]{l[i], l[i+1]})
	}
	return out
}

// set is a new set, to which ranges were added.
func set[T ranges.Number](t *testing.T, most int, l ...T) *ranges.Set[T] {
	t.Helper()
	s, e := ranges.New[T](most)
	if s == nil || e != api.OK {
		t.Fatal("New", e)
	}
	for _, p := range pairs(l...) {
		if e := s.Add(p.from, p.to); e != api.OK {
			t.Fatal("Add", e)
		}
	}
	return s
}

// has tells whether a set has just those ranges, whichever way they are asked for.
func has[T ranges.Number](t *testing.T, what string, s *ranges.Set[T], l ...T) {
	t.Helper()
	want := pairs(l...)
	if got := gone(s.Up()); !slices.Equal(got, want) {
		t.Errorf("%s: Up is %v, not %v", what, got, want)
	}
	slices.Reverse(want)
	if got := gone(s.Down()); !slices.Equal(got, want) {
		t.Errorf("%s: Down is %v, not %v", what, got, want)
	}
	if s.Count() != len(want) {
		t.Errorf("%s: Count is %d, not %d", what, s.Count(), len(want))
	}
	for _, p := range want {
		if !s.Has(p.from) || !s.Has(p.to) {
			t.Errorf("%s: %v isn't in it", what, p)
		}
	}
}

// lacks tells whether the gaps between two numbers are just those.
func lacks[T ranges.Number](t *testing.T, s *ranges.Set[T], from, to T, l ...T) {
	t.Helper()
	if got := gone(s.Gaps(from, to)); !slices.Equal(got, pairs(l...)) {
		t.Errorf("Gaps from %v to %v: %v, not %v", from, to, got, l)
	}
}

// P11.1: the chapter's example.
func TestKnownSet(t *testing.T) {
	s := set(t, 2, 1, 3, 5, 5)
	has(t, "two", s, 1, 3, 5, 5)
	s.Add(4, 4)
	has(t, "one", s, 1, 5)
	s.Add(9, 9)
	has(t, "two again", s, 1, 5, 9, 9)
	s.Add(20, 20)
	has(t, "the lowest is out", s, 9, 9, 20, 20)
	lacks(t, s, 8, 21, 8, 8, 10, 19, 21, 21)
	if s.Has(1) || s.Has(5) {
		t.Error("the lowest is in")
	}
}

// P11.1: how many ranges a set may be allowed.
func TestMost(t *testing.T) {
	for _, most := range []int{math.MinInt, -1, 0, 100001, math.MaxInt} {
		if s, e := ranges.New[int64](most); s != nil || e != api.ErrArg {
			t.Error(most, e)
		}
	}
	for _, most := range []int{1, 2, api.MaxRanges, 99999, 100000} {
		has(t, "new", set[int32](t, most))
	}
}

// P11.1: as many ranges as are allowed, and one more.
func TestAllowedRanges(t *testing.T) {
	for _, most := range []int{1, 2, 3, 64, 100000} {
		s := set[int](t, most)
		for i := range most {
			s.Add(10*i, 10*i+3)
		}
		if s.Count() != most || !s.Has(0) {
			t.Error(most, s.Count())
		}
		s.Add(10*most, 10*most)
		if s.Count() != most || s.Has(0) || s.Has(3) || !s.Has(10*most) {
			t.Error(most, s.Count())
		}
		s.Add(-5, -5)
		if s.Count() != most || s.Has(-5) {
			t.Error("a lowest one stays", most)
		}
		if most == 1 {
			continue
		}
		s.Cut(11, 11)
		if s.Count() != most || s.Has(10) || !s.Has(12) || !s.Has(13) || !s.Has(20) {
			t.Error("a Cut that makes two of one", most)
		}
		s.Cut(10*most, 10*most)
		s.Cut(12, 12)
		if s.Count() != most-1 || s.Has(12) || !s.Has(13) {
			t.Error("a Cut that makes less", most)
		}
	}
	s := set(t, 1, 1, 10)
	s.Cut(5, 5)
	has(t, "the higher half", s, 6, 10)
}

// P11.1: what joins ranges, and what doesn't.
func TestAdd(t *testing.T) {
	for _, c := range []struct {
		from, to int
		want     []int
	}{
		{1, 2, []int{1, 2, 10, 14, 20, 24, 30, 34}},
		{1, 8, []int{1, 8, 10, 14, 20, 24, 30, 34}},
		{1, 9, []int{1, 14, 20, 24, 30, 34}},
		{9, 9, []int{9, 14, 20, 24, 30, 34}},
		{10, 10, []int{10, 14, 20, 24, 30, 34}},
		{11, 13, []int{10, 14, 20, 24, 30, 34}},
		{10, 14, []int{10, 14, 20, 24, 30, 34}},
		{14, 15, []int{10, 15, 20, 24, 30, 34}},
		{15, 15, []int{10, 15, 20, 24, 30, 34}},
		{16, 18, []int{10, 14, 16, 18, 20, 24, 30, 34}},
		{15, 18, []int{10, 18, 20, 24, 30, 34}},
		{16, 19, []int{10, 14, 16, 24, 30, 34}},
		{15, 19, []int{10, 24, 30, 34}},
		{14, 20, []int{10, 24, 30, 34}},
		{12, 31, []int{10, 34}},
		{9, 35, []int{9, 35}},
		{0, 99, []int{0, 99}},
		{15, 29, []int{10, 34}},
		{16, 28, []int{10, 14, 16, 28, 30, 34}},
		{35, 35, []int{10, 14, 20, 24, 30, 35}},
		{36, 36, []int{10, 14, 20, 24, 30, 34, 36, 36}},
	} {
		s := set(t, 5, 10, 14, 20, 24, 30, 34)
		if e := s.Add(c.from, c.to); e != api.OK {
			t.Error(e)
		}
		has(t, "Add", s, c.want...)
	}
}

// P11.1: what is cut out of ranges.
func TestCut(t *testing.T) {
	for _, c := range []struct {
		from, to int
		want     []int
	}{
		{1, 9, []int{10, 14, 20, 24, 30, 34}},
		{15, 19, []int{10, 14, 20, 24, 30, 34}},
		{35, 99, []int{10, 14, 20, 24, 30, 34}},
		{1, 10, []int{11, 14, 20, 24, 30, 34}},
		{10, 10, []int{11, 14, 20, 24, 30, 34}},
		{12, 12, []int{10, 11, 13, 14, 20, 24, 30, 34}},
		{11, 13, []int{10, 10, 14, 14, 20, 24, 30, 34}},
		{14, 14, []int{10, 13, 20, 24, 30, 34}},
		{14, 17, []int{10, 13, 20, 24, 30, 34}},
		{10, 14, []int{20, 24, 30, 34}},
		{9, 15, []int{20, 24, 30, 34}},
		{14, 20, []int{10, 13, 21, 24, 30, 34}},
		{12, 31, []int{10, 11, 32, 34}},
		{10, 34, nil},
		{0, 99, nil},
		{11, 33, []int{10, 10, 34, 34}},
		{20, 34, []int{10, 14}},
	} {
		s := set(t, 5, 10, 14, 20, 24, 30, 34)
		if e := s.Cut(c.from, c.to); e != api.OK {
			t.Error(e)
		}
		has(t, "Cut", s, c.want...)
	}
	s := set[int](t, 5)
	if e := s.Cut(1, 5); e != api.OK || s.Count() != 0 {
		t.Error("of an empty set", e)
	}
}

// P11.1: numbers that go the wrong way change nothing.
func TestWrongWay(t *testing.T) {
	s := set(t, 5, 10, 14, 20, 24)
	for _, p := range pairs(2, 1, 12, 11, 20, 14, math.MaxInt, math.MinInt, 0, -1) {
		if e := s.Add(p.from, p.to); e != api.ErrArg {
			t.Error("Add", p, e)
		}
		if e := s.Cut(p.from, p.to); e != api.ErrArg {
			t.Error("Cut", p, e)
		}
		lacks(t, s, p.from, p.to)
	}
	has(t, "unchanged", s, 10, 14, 20, 24)
}

// P11.1: gaps, as they begin and end in ranges, beside them and between.
func TestGaps(t *testing.T) {
	s := set(t, 5, 10, 14, 20, 20, 30, 34)
	lacks(t, s, 0, 40, 0, 9, 15, 19, 21, 29, 35, 40)
	lacks(t, s, 0, 9, 0, 9)
	lacks(t, s, 0, 10, 0, 9)
	lacks(t, s, 9, 14, 9, 9)
	lacks(t, s, 10, 14)
	lacks(t, s, 12, 12)
	lacks(t, s, 12, 15, 15, 15)
	lacks(t, s, 14, 20, 15, 19)
	lacks(t, s, 15, 19, 15, 19)
	lacks(t, s, 16, 18, 16, 18)
	lacks(t, s, 20, 20)
	lacks(t, s, 19, 21, 19, 19, 21, 21)
	lacks(t, s, 34, 34)
	lacks(t, s, 34, 35, 35, 35)
	lacks(t, s, 35, 35, 35, 35)
	lacks(t, s, 12, 32, 15, 19, 21, 29)
	lacks(t, s, 50, 60, 50, 60)
	lacks(t, s, 5, 4)
	lacks(t, set[int](t, 5), -3, 3, -3, 3)
}

// edges goes through all that is done at the least and the greatest numbers of a kind.
func edges[T ranges.Number](t *testing.T, least, most T) {
	t.Helper()
	s := set(t, 4, least, least, most, most)
	has(t, "both", s, least, least, most, most)
	lacks(t, s, least, most, least+1, most-1)
	lacks(t, s, least, least)
	lacks(t, s, most, most)
	if s.Has(least+1) || s.Has(most-1) {
		t.Error("beside the edges")
	}
	s.Add(least+1, least+1)
	s.Add(most-1, most-1)
	has(t, "beside both", s, least, least+1, most-1, most)
	s.Add(least, least)
	s.Add(most, most)
	has(t, "once more", s, least, least+1, most-1, most)
	s.Add(least+2, most-2)
	has(t, "all", s, least, most)
	if !s.Has(least/2 + most/2) {
		t.Error("the middle")
	}
	lacks(t, s, least, most)
	s.Cut(least, least)
	s.Cut(most, most)
	has(t, "but both", s, least+1, most-1)
	lacks(t, s, least, most, least, least, most, most)
	s.Add(least, most)
	has(t, "all again", s, least, most)
	s.Cut(least+1, most-1)
	has(t, "both again", s, least, least, most, most)
	s.Cut(least, most)
	has(t, "none", s)
	lacks(t, s, least, most, least, most)
	if e := s.Add(most, least); e != api.ErrArg || s.Cut(most, least) != api.ErrArg {
		t.Error("the wrong way", e)
	}
	lacks(t, s, most, least)
}

// P11.1: the least and the greatest numbers of each kind, those of one's own too.
func TestEdgesOfKinds(t *testing.T) {
	edges[int](t, math.MinInt, math.MaxInt)
	edges[int32](t, math.MinInt32, math.MaxInt32)
	edges[int64](t, math.MinInt64, math.MaxInt64)
	edges[uint64](t, 0, math.MaxUint64)
	edges[ownInt](t, math.MinInt, math.MaxInt)
	edges[ownInt32](t, math.MinInt32, math.MaxInt32)
	edges[ownInt64](t, math.MinInt64, math.MaxInt64)
	edges[ownUint64](t, 0, math.MaxUint64)
}

// P11.1: numbers about 0, of a kind that has those below it.
func TestAboutNought(t *testing.T) {
	s := set(t, 3, ownInt32(-1), -1, 1, 1)
	has(t, "two", s, -1, -1, 1, 1)
	s.Add(0, 0)
	has(t, "one", s, -1, 1)
	lacks(t, s, -2, 2, -2, -2, 2, 2)
}

// P11.1: sets are gone through as they were when the going began.
func TestChangedWhileGoing(t *testing.T) {
	for name, going := range map[string]func(*ranges.Set[int]) iter.Seq2[int, int]{
		"Up":   (*ranges.Set[int]).Up,
		"Down": (*ranges.Set[int]).Down,
		"Gaps": func(s *ranges.Set[int]) iter.Seq2[int, int] { return s.Gaps(0, 50) },
	} {
		for what, change := range map[string]func(*ranges.Set[int], int){
			"all out":  func(s *ranges.Set[int], _ int) { s.Cut(0, 99) },
			"all in":   func(s *ranges.Set[int], _ int) { s.Add(0, 99) },
			"one out":  func(s *ranges.Set[int], _ int) { s.Cut(20, 24) },
			"more in":  func(s *ranges.Set[int], n int) { s.Add(99+3*n, 99+3*n) },
			"cut in 2": func(s *ranges.Set[int], n int) { s.Cut(11+n%3, 11+n%3) },
			"low ones": func(s *ranges.Set[int], n int) { s.Add(-9*n-9, -9*n-8) },
		} {
			s := set(t, 4, 10, 14, 20, 24, 30, 34)
			want := gone(going(s))
			var got []pair[int]
			for from, to := range going(s) {
				change(s, len(got))
				got = append(got, pair[int]{from, to})
			}
			if !slices.Equal(got, want) {
				t.Error(name, what, got)
			}
		}
	}
}

// P11.1: the going begins with the first step, not when it was asked for; and it may be gone through again.
func TestGoingBegins(t *testing.T) {
	s := set(t, 4, 10, 14)
	up, down, gaps := s.Up(), s.Down(), s.Gaps(0, 30)
	s.Add(20, 24)
	for range 2 {
		if got := gone(up); !slices.Equal(got, pairs(10, 14, 20, 24)) {
			t.Error("Up", got)
		}
		if got := gone(down); !slices.Equal(got, pairs(20, 24, 10, 14)) {
			t.Error("Down", got)
		}
		if got := gone(gaps); !slices.Equal(got, pairs(0, 9, 15, 19, 25, 30)) {
			t.Error("Gaps", got)
		}
	}
	s.Cut(0, 15)
	if got := gone(up); !slices.Equal(got, pairs(20, 24)) {
		t.Error("Up", got)
	}
	if got := gone(down); !slices.Equal(got, pairs(20, 24)) {
		t.Error("Down", got)
	}
	if got := gone(gaps); !slices.Equal(got, pairs(0, 19, 25, 30)) {
		t.Error("Gaps", got)
	}
}

// P11.1: the going may be left at any time, and who left isn't asked again.
func TestGoingIsLeft(t *testing.T) {
	s := set(t, 9, 10, 14, 20, 24, 30, 34)
	for name, going := range map[string]iter.Seq2[int, int]{
		"Up": s.Up(), "Down": s.Down(), "Gaps": s.Gaps(0, 50), "Gaps of none": s.Gaps(50, 60),
	} {
		want := gone(going)
		for stop := range len(want) {
			var got []pair[int]
			going(func(from, to int) bool {
				got = append(got, pair[int]{from, to})
				return len(got) <= stop
			})
			if !slices.Equal(got, want[:stop+1]) {
				t.Error(name, "left at", stop, got)
			}
		}
	}
	next, stop := iter.Pull2(s.Down())
	if from, to, ok := next(); from != 30 || to != 34 || !ok {
		t.Error(from, to, ok)
	}
	stop()
	has(t, "unchanged", s, 10, 14, 20, 24, 30, 34)
}

// P11.1: one going within another, of one set.
func TestGoingWithin(t *testing.T) {
	s := set(t, 9, 10, 14, 20, 24, 30, 34)
	up := s.Up()
	sum := 0
	for range up {
		for range up {
			for range s.Gaps(0, 50) {
				sum++
			}
		}
	}
	if sum != 36 {
		t.Error(sum)
	}
}

// P1, P11.1: no set, and one that New didn't make.
func TestNoSet(t *testing.T) {
	for _, s := range []*ranges.Set[int]{nil, {}} {
		if e := s.Add(1, 2); e != api.ErrArg {
			t.Error("Add", e)
		}
		if e := s.Add(2, 1); e != api.ErrArg {
			t.Error("Add the wrong way", e)
		}
		if e := s.Cut(1, 2); e != api.ErrArg {
			t.Error("Cut", e)
		}
		if e := s.Cut(2, 1); e != api.ErrArg {
			t.Error("Cut the wrong way", e)
		}
		if s.Has(0) || s.Has(1) {
			t.Error("Has")
		}
		has(t, "none", s)
		lacks(t, s, -3, 8, -3, 8)
		lacks(t, s, 4, 4, 4, 4)
		lacks(t, s, math.MinInt, math.MaxInt, math.MinInt, math.MaxInt)
		lacks(t, s, 4, 3)
	}
}

// P11.1: two sets know nothing of each other.
func TestTwoSets(t *testing.T) {
	a, b := set(t, 2, 1, 3), set(t, 2, 2, 9)
	a.Cut(2, 2)
	has(t, "one", a, 1, 1, 3, 3)
	has(t, "the other", b, 2, 9)
}

// model is the numbers from 0 on, each in the set or not.
type model []bool

// runs are the ranges of the numbers that are in it, or of those that aren't, from one to another.
func (m model) runs(from, to int, in bool) []pair[int] {
	var out []pair[int]
	for n := from; n <= to; n++ {
		switch {
		case m[n] != in:
		case n > from && m[n-1] == in:
			out[len(out)-1].to = n
		default:
			out = append(out, pair[int]{n, n})
		}
	}
	return out
}

// put makes numbers be in it or not, and leaves the lowest ranges out that are too many.
func (m model) put(from, to int, in bool, most int) {
	for n := from; n <= to; n++ {
		m[n] = in
	}
	for l := m.runs(0, len(m)-1, true); len(l) > most; l = l[1:] {
		for n := l[0].from; n <= l[0].to; n++ {
			m[n] = false
		}
	}
}

// same tells whether a set is as the model, its numbers from low on.
func same[T ranges.Number](t *testing.T, s *ranges.Set[T], m model, low T, from, to int) bool {
	t.Helper()
	shifted := func(l []pair[int]) []pair[T] {
		var out []pair[T]
		for _, p := range l {
			out = append(out, pair[T]{low + T(p.from), low + T(p.to)})
		}
		return out
	}
	up := shifted(m.runs(0, len(m)-1, true))
	gaps := shifted(m.runs(from, to, false))
	ok := slices.Equal(gone(s.Up()), up) && s.Count() == len(up) && slices.Equal(gone(s.Gaps(low+T(from), low+T(to))), gaps)
	slices.Reverse(up)
	ok = ok && slices.Equal(gone(s.Down()), up)
	for n, in := range m {
		ok = ok && s.Has(low+T(n)) == in
	}
	return ok
}

// walks changes a set at random, beside a model.
func walks[T ranges.Number](t *testing.T, low T, size int) {
	t.Helper()
	draw := rand.New(rand.NewSource(11))
	for range 40 {
		most := 1 + draw.Intn(size/3)
		s, m := set[T](t, most), make(model, size)
		for range 100 {
			from := draw.Intn(size)
			to := min(size-1, from+draw.Intn(1+draw.Intn(9)))
			add := draw.Intn(5) > 1
			m.put(from, to, add, most)
			e := api.OK
			if add {
				e = s.Add(low+T(from), low+T(to))
			} else {
				e = s.Cut(low+T(from), low+T(to))
			}
			a := draw.Intn(size)
			if e != api.OK || !same(t, s, m, low, a, a+draw.Intn(size-a)) {
				t.Fatalf("most %d: %v to %v: %v, not %v", most, from, to, gone(s.Up()), m.runs(0, size-1, true))
			}
		}
	}
}

// P11.1: sets that are changed at random, about 0 and at the least and the greatest numbers.
func TestWalks(t *testing.T) {
	walks[int](t, -20, 40)
	walks[int](t, math.MaxInt-39, 40)
	walks[int32](t, math.MinInt32, 40)
	walks[int32](t, math.MaxInt32-39, 40)
	walks[int64](t, math.MinInt64, 40)
	walks[uint64](t, 0, 40)
	walks[uint64](t, math.MaxUint64-39, 40)
	walks[ownUint64](t, math.MaxUint64/2-19, 40)
}

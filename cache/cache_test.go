package cache_test

import (
	"iter"
	"math"
	"math/rand"
	"slices"
	"testing"

	"rhyne/api"
	"rhyne/cache"
)

// maxTime is the last time there is.
const maxTime = 1 << 40

// made is a new cache.
func made[K comparable, V any](t testing.TB, most int) *cache.Cache[K, V] {
	t.Helper()
	c, e := cache.New[K, V](most)
	if e != api.OK || c == nil {
		t.Fatal(most, e)
	}
	return c
}

// puts tells whether Put answers as it should.
func puts[K comparable, V any](t *testing.T, c *cache.Cache[K, V], k K, v V, keep, at int, want api.Errno) {
	t.Helper()
	if e := c.Put(k, v, keep, at); e != want {
		t.Errorf("Put(%v, %v, %d, %d): %d; not %d", k, v, keep, at, e, want)
	}
}

// has tells whether a cache of words has just those, in their order.
func has(t *testing.T, c *cache.Cache[string, int], at int, want ...string) {
	t.Helper()
	var keys []string
	for k := range c.All(at) {
		keys = append(keys, k)
	}
	if !slices.Equal(keys, want) || c.Count(at) != len(want) {
		t.Errorf("at %d: %v, %d; not %v", at, keys, c.Count(at), want)
	}
}

// gets tells whether Get answers so.
func gets(t *testing.T, c *cache.Cache[string, int], k string, at, want, wantLeft int) {
	t.Helper()
	if v, left, ok := c.Get(k, at); v != want || left != wantLeft || !ok {
		t.Errorf("Get(%s, %d): %d, %d, %v; not %d, %d", k, at, v, left, ok, want, wantLeft)
	}
}

// lacks tells whether Get answers nothing.
func lacks[K comparable, V comparable](t *testing.T, c *cache.Cache[K, V], k K, at int) {
	t.Helper()
	var none V
	if v, left, ok := c.Get(k, at); v != none || left != 0 || ok {
		t.Errorf("Get(%v, %d): %v, %d, %v", k, at, v, left, ok)
	}
}

// P22.1: how many things may be kept.
func TestNew(t *testing.T) {
	for _, most := range []int{0, -1, math.MinInt, 10001, 1 << 40, math.MaxInt} {
		if c, e := cache.New[string, int](most); c != nil || e != api.ErrArg {
			t.Error(most, c, e)
		}
	}
	for _, most := range []int{1, 2, 9999, 10000} {
		has(t, made[string, int](t, most), 0)
	}
}

// P22.1: a thing goes at its time, and then nothing is kept.
func TestGoes(t *testing.T) {
	c := made[string, int](t, 3)
	puts(t, c, "a", 7, 10, 5, api.OK)
	gets(t, c, "a", 5, 7, 10)
	gets(t, c, "a", 14, 7, 1)
	has(t, c, 14, "a")
	lacks(t, c, "a", 15)
	has(t, c, 15)
	lacks(t, c, "b", 15)
	puts(t, c, "a", 8, 1, 15, api.OK)
	gets(t, c, "a", 15, 8, 1)
	if c.Drop("a", 16) || c.Count(16) != 0 {
		t.Error("kept beyond its time")
	}
}

// P22.1: a time below that of a call ahead counts as that one, whichever call it was; but for a Put that refused.
func TestTimeGoesOn(t *testing.T) {
	for i, call := range []func(c *cache.Cache[string, int], at int){
		func(c *cache.Cache[string, int], at int) { c.Put("z", 9, 0, at) },
		func(c *cache.Cache[string, int], at int) { c.Get("a", at) },
		func(c *cache.Cache[string, int], at int) { c.Get("z", at) },
		func(c *cache.Cache[string, int], at int) { c.Drop("z", at) },
		func(c *cache.Cache[string, int], at int) { c.Count(at) },
		func(c *cache.Cache[string, int], at int) { c.All(at) },
	} {
		c := made[string, int](t, 3)
		puts(t, c, "a", 7, 100, 0, api.OK)
		call(c, 40)
		gets(t, c, "a", 39, 7, 60)
		call(c, 39)
		gets(t, c, "a", 0, 7, 60)
		puts(t, c, "b", 8, 10, 5, api.OK)
		gets(t, c, "b", 3, 8, 10)
		call(c, 50)
		lacks(t, c, "b", 0)
		call(c, 99)
		has(t, c, 2, "a")
		call(c, 100)
		has(t, c, 99)
		puts(t, c, "c", i, 1, 0, api.OK)
		gets(t, c, "c", 100, i, 1)
		if c.Drop("c", 101) {
			t.Error(i)
		}
	}
	c := made[string, int](t, 3)
	puts(t, c, "a", 7, 100, 0, api.OK)
	for _, x := range [][2]int{{-1, 50}, {maxTime + 1, 50}, {1, maxTime + 1}, {math.MinInt, maxTime}, {-1, 100}} {
		puts(t, c, "a", 8, x[0], x[1], api.ErrArg)
		puts(t, c, "b", 8, x[0], x[1], api.ErrArg)
		gets(t, c, "a", 0, 7, 100)
		has(t, c, 0, "a")
	}
}

// P22.1: the least and the greatest times.
func TestTimes(t *testing.T) {
	c := made[string, int](t, 3)
	for _, n := range []int{-1, math.MinInt, maxTime + 1, math.MaxInt} {
		puts(t, c, "a", 1, n, 0, api.ErrArg)
		puts(t, c, "a", 1, 0, n, api.ErrArg)
		puts(t, c, "a", 1, n, n, api.ErrArg)
	}
	puts(t, c, "a", 1, maxTime, 0, api.OK)
	puts(t, c, "b", 2, maxTime, 1, api.OK)
	puts(t, c, "c", 3, maxTime-1, 1, api.OK)
	for _, n := range []int{-1, math.MinInt} {
		gets(t, c, "a", n, 1, maxTime-1)
		has(t, c, n, "a", "c", "b")
		if c.Drop("d", n) {
			t.Error(n)
		}
	}
	gets(t, c, "a", maxTime-1, 1, 1)
	for _, n := range []int{maxTime, maxTime + 1, math.MaxInt} {
		lacks(t, c, "a", n)
		gets(t, c, "b", n, 2, 1)
		has(t, c, n, "b")
	}
	puts(t, c, "a", 4, maxTime, maxTime, api.OK)
	gets(t, c, "a", math.MaxInt, 4, maxTime)
	puts(t, c, "a", 5, maxTime, 0, api.OK)
	gets(t, c, "a", 0, 5, maxTime)
	for _, n := range []int{maxTime + 1, math.MaxInt} {
		c := made[string, int](t, 3)
		puts(t, c, "a", 1, 5, 0, api.OK)
		c.Count(n)
		puts(t, c, "a", 1, 5, 0, api.OK)
		gets(t, c, "a", 0, 1, 5)
		has(t, c, n, "a")
	}
	for _, n := range []int{-1, math.MinInt} {
		c := made[string, int](t, 3)
		puts(t, c, "a", 1, 5, 0, api.OK)
		gets(t, c, "a", n, 1, 5)
		has(t, c, n, "a")
		if !c.Drop("a", n) {
			t.Error(n)
		}
	}
}

// P22.1: what is put by a key that has something is in its place, and counts as put then.
func TestPutAgain(t *testing.T) {
	c := made[string, int](t, 3)
	puts(t, c, "a", 1, 10, 0, api.OK)
	puts(t, c, "b", 2, 10, 0, api.OK)
	puts(t, c, "c", 3, 10, 0, api.OK)
	has(t, c, 0, "a", "b", "c")
	puts(t, c, "a", 4, 10, 0, api.OK)
	gets(t, c, "a", 0, 4, 10)
	has(t, c, 0, "b", "c", "a")
	puts(t, c, "c", 5, 5, 0, api.OK)
	has(t, c, 0, "c", "b", "a")
	puts(t, c, "b", 6, 20, 1, api.OK)
	has(t, c, 1, "c", "a", "b")
	// Keep 0: it goes, and what was there goes, too; nothing else does.
	puts(t, c, "a", 7, 0, 2, api.OK)
	lacks(t, c, "a", 2)
	has(t, c, 2, "c", "b")
	puts(t, c, "d", 8, 10, 2, api.OK)
	puts(t, c, "e", 9, 0, 2, api.OK)
	puts(t, c, "f", 9, 0, 2, api.OK)
	has(t, c, 2, "c", "d", "b")
	lacks(t, c, "e", 2)
}

// P22.1, P22.2: of more things than may be kept that is dropped which goes first; of several that which was put first.
func TestMost(t *testing.T) {
	c := made[string, int](t, 2)
	puts(t, c, "a", 1, 10, 0, api.OK)
	puts(t, c, "b", 2, 5, 0, api.OK)
	puts(t, c, "c", 3, 9, 1, api.OK)
	gets(t, c, "a", 4, 1, 6)
	lacks(t, c, "b", 4)
	has(t, c, 4, "a", "c")
	// What was put in is one of those kept, though it go first of all.
	puts(t, c, "d", 4, 1, 4, api.OK)
	has(t, c, 4, "d", "c")
	puts(t, c, "e", 5, 6, 4, api.OK)
	has(t, c, 4, "c", "e")
	// No other one is dropped for one that is in its own place.
	puts(t, c, "c", 6, 6, 4, api.OK)
	has(t, c, 4, "e", "c")
	puts(t, c, "f", 7, 6, 4, api.OK)
	has(t, c, 4, "c", "f")
	// What has gone by itself makes room.
	puts(t, c, "g", 8, 1, 10, api.OK)
	puts(t, c, "h", 9, 1, 10, api.OK)
	has(t, c, 10, "g", "h")
	only := made[string, int](t, 1)
	for i, k := range []string{"a", "b", "b", "c"} {
		puts(t, only, k, i, 10-i, 0, api.OK)
		has(t, only, 0, k)
	}
}

// P22.1: what was dropped is kept no longer.
func TestDrop(t *testing.T) {
	c := made[string, int](t, 3)
	for i, k := range []string{"a", "b", "c"} {
		puts(t, c, k, i, 10+i, 0, api.OK)
	}
	if c.Drop("d", 0) || !c.Drop("b", 0) || c.Drop("b", 0) {
		t.Error("Drop")
	}
	lacks(t, c, "b", 0)
	has(t, c, 0, "a", "c")
	if c.Drop("a", 10) || !c.Drop("c", 11) || c.Count(11) != 0 {
		t.Error("Drop")
	}
	puts(t, c, "b", 7, 1, 11, api.OK)
	has(t, c, 11, "b")
}

// P22.1: what is gone through is what was kept at the call; again and again, and left at any time.
func TestAll(t *testing.T) {
	c := made[string, int](t, 5)
	for i, k := range []string{"d", "b", "c", "a"} {
		puts(t, c, k, i, 10-i/2, 0, api.OK)
	}
	want := []string{"c", "a", "d", "b"}
	all := c.All(0)
	for stop := range len(want) + 1 {
		var keys []string
		for k, v := range all {
			if len(keys) == stop {
				break
			}
			if v != slices.Index([]string{"d", "b", "c", "a"}, k) {
				t.Error(k, v)
			}
			keys = append(keys, k)
		}
		if !slices.Equal(keys, want[:stop]) {
			t.Error(stop, keys)
		}
	}
	// The cache changes meanwhile, and time goes on.
	var keys []string
	for k := range all {
		keys = append(keys, k)
		c.Drop(k, 1)
		puts(t, c, "b", 9, 3, 1, api.OK)
		puts(t, c, k+k, 9, 3, 1, api.OK)
		for inner := range c.All(1) {
			c.Drop(inner, 1)
		}
		c.Count(3)
	}
	if !slices.Equal(keys, want) {
		t.Error(keys)
	}
	has(t, c, 20)
	for k, v := range all {
		if i := slices.Index(want, k); i < 0 || v != []int{2, 3, 0, 1}[i] {
			t.Error(k, v)
		}
	}
}

// P1, P22.1: no cache, and one that New didn't make.
func TestNoCache(t *testing.T) {
	for _, c := range []*cache.Cache[string, int]{nil, {}} {
		for _, n := range []int{0, 1, -1, maxTime, maxTime + 1, math.MinInt, math.MaxInt} {
			puts(t, c, "a", 1, 1, n, api.ErrArg)
			puts(t, c, "a", 1, n, 1, api.ErrArg)
			lacks(t, c, "a", n)
			if c.Drop("a", n) {
				t.Error(n)
			}
			has(t, c, n)
		}
	}
	var c *cache.Cache[any, int]
	puts(t, c, any([]int{1}), 1, 1, 1, api.ErrArg)
}

// P22.1: keys of any comparable kind, values of any kind.
func TestKinds(t *testing.T) {
	type spot struct {
		x, y int
		s    string
	}
	spots := made[spot, []int](t, 3)
	puts(t, spots, spot{1, 2, "a"}, []int{1}, 9, 0, api.OK)
	puts(t, spots, spot{1, 2, "b"}, nil, 9, 0, api.OK)
	puts(t, spots, spot{1, 2, "a"}, []int{2, 3}, 8, 0, api.OK)
	if v, left, ok := spots.Get(spot{1, 2, "a"}, 0); !slices.Equal(v, []int{2, 3}) || left != 8 || !ok {
		t.Error(v, left, ok)
	}
	if v, left, ok := spots.Get(spot{1, 2, "c"}, 0); v != nil || left != 0 || ok {
		t.Error(v, left, ok)
	}
	if v, _, ok := spots.Get(spot{1, 2, "b"}, 0); v != nil || !ok || spots.Count(0) != 2 {
		t.Error(v, ok)
	}
	rows := made[[3]byte, func() int](t, 3)
	rows.Put([3]byte{1}, func() int { return 5 }, 9, 0)
	if f, _, ok := rows.Get([3]byte{1}, 0); !ok || f() != 5 {
		t.Error(ok)
	}
	if f, _, ok := rows.Get([3]byte{2}, 0); ok || f != nil {
		t.Error(ok)
	}
	one, other := 1, 1
	places := made[*int, struct{}](t, 3)
	places.Put(&one, struct{}{}, 9, 0)
	places.Put(nil, struct{}{}, 9, 0)
	if _, _, ok := places.Get(&other, 0); ok || !places.Drop(nil, 0) || places.Count(0) != 1 || !places.Drop(&one, 0) {
		t.Error("pointers")
	}
	flags := made[bool, any](t, 3)
	flags.Put(true, nil, 9, 0)
	if v, _, ok := flags.Get(true, 0); v != nil || !ok || flags.Drop(false, 0) {
		t.Error(v, ok)
	}
	questions := made[api.Question, api.Record](t, api.MaxCache)
	puts(t, questions, api.Question{Name: "a.", Type: api.A}, api.Record{Name: "a.", TTL: 7}, 7, 0, api.OK)
	lacks(t, questions, api.Question{Name: "a.", Type: api.NS}, 0)
	nothing := made[struct{}, int](t, 1)
	puts(t, nothing, struct{}{}, 4, 9, 0, api.OK)
	puts(t, nothing, struct{}{}, 5, 9, 0, api.OK)
	if v, _, ok := nothing.Get(struct{}{}, 0); v != 5 || !ok {
		t.Error(v, ok)
	}
}

// P1, P22.1: keys behind an interface: of unlike kinds, and of such as can't be compared, by which nothing can be kept.
func TestInterfaceKeys(t *testing.T) {
	c := made[any, int](t, 9)
	for i, k := range []any{1, int8(1), "1", 1.0, [1]int{1}, nil, true} {
		puts(t, c, k, i, 9, 0, api.OK)
	}
	for i, k := range []any{1, int8(1), "1", 1.0, [1]int{1}, nil, true} {
		if v, _, ok := c.Get(k, 0); v != i || !ok {
			t.Error(k, v, ok)
		}
	}
	lacks(t, c, any(int16(1)), 0)
	for i, k := range []any{[]int{1}, map[int]int{}, func() {}, [1]any{[]int{1}}, struct{ x any }{[]int(nil)}} {
		puts(t, c, k, 1, 9, 100, api.ErrArg)
		if c.Count(i) != 7 {
			t.Error("a Put that refused let time go on")
		}
		lacks(t, c, k, i)
		if c.Drop(k, i) {
			t.Error(k)
		}
	}
	lacks(t, c, any([]int{1}), 8)
	if v, left, ok := c.Get(1, 0); v != 0 || left != 1 || !ok {
		t.Error(v, left, ok)
	}
	if c.Drop([]int{1}, 9) || c.Count(0) != 0 {
		t.Error("time didn't go on")
	}
}

// P22.1, P22.2: what is kept by a float that is no number is found by nobody, but goes as others do.
func TestNoNumber(t *testing.T) {
	c := made[float64, int](t, 3)
	nan := math.NaN()
	for i := range 2 {
		puts(t, c, nan, i, 10-i, 0, api.OK)
	}
	puts(t, c, 0, 5, 20, 0, api.OK)
	puts(t, c, math.Copysign(0, -1), 6, 20, 0, api.OK)
	lacks(t, c, nan, 0)
	if c.Drop(nan, 0) || c.Count(0) != 3 {
		t.Error(c.Count(0))
	}
	puts(t, c, nan, 7, 0, 0, api.OK)
	var values []int
	for _, v := range c.All(0) {
		values = append(values, v)
	}
	if !slices.Equal(values, []int{1, 0, 6}) || c.Count(9) != 2 || c.Count(10) != 1 || c.Count(20) != 0 {
		t.Error(values)
	}
	for i := range 1000 {
		puts(t, c, nan, i, 10, 20+i, api.OK)
		if n := c.Count(0); n != min(i+1, 3) {
			t.Fatal(n)
		}
	}
	// Unlike itself, and what is beside can't be compared.
	type odd struct {
		f float64
		x any
	}
	o := made[odd, int](t, 2)
	for i := range 5 {
		if e := o.Put(odd{nan, []int{1}}, i, 5, i); e != api.OK && e != api.ErrArg {
			t.Error(e)
		}
		lacks(t, o, odd{nan, []int{1}}, i)
		if o.Drop(odd{nan, []int{1}}, i) || o.Count(i) > 2 {
			t.Error(i)
		}
	}
	if o.Count(20) != 0 {
		t.Error(o.Count(20))
	}
}

// P22.1: the least of numbers.
func TestLeast(t *testing.T) {
	self := func(n int) int { return n }
	for _, c := range []struct {
		l    []int
		want int
	}{{[]int{5}, 5}, {[]int{5, 3, 4}, 3}, {[]int{1, 2, 3}, 1}, {[]int{3, 2, 1}, 1}, {[]int{0, 0}, 0}, {[]int{2, -7, 5}, -7}, {[]int{math.MaxInt}, math.MaxInt}, {[]int{math.MaxInt, math.MinInt}, math.MinInt}, {[]int{math.MinInt, math.MaxInt}, math.MinInt}} {
		if n, ok := cache.Least(slices.Values(c.l), self); n != c.want || !ok {
			t.Error(c.l, n, ok)
		}
	}
	if n, ok := cache.Least(slices.Values([]string{"abc", "de", "fgh"}), func(s string) int { return len(s) }); n != 2 || !ok {
		t.Error(n, ok)
	}
	// f is asked once of each, in their order.
	var asked []int
	cache.Least(slices.Values([]int{4, 2, 3}), func(n int) int { asked = append(asked, n); return n })
	if !slices.Equal(asked, []int{4, 2, 3}) {
		t.Error(asked)
	}
	for _, l := range []iter.Seq[int]{nil, slices.Values([]int(nil)), func(func(int) bool) {}} {
		for _, f := range []func(int) int{nil, self} {
			if n, ok := cache.Least(l, f); n != 0 || ok {
				t.Error(n, ok)
			}
		}
	}
}

// P1: functions that panic, or aren't there.
func TestLeastOfPanics(t *testing.T) {
	l := slices.Values([]int{-5, -6})
	for i, f := range []func(int) int{nil, func(int) int { panic(1) }, func(n int) int { return 1 / (n + 6) }} {
		if n, ok := cache.Least(l, f); n != 0 || ok {
			t.Error(i, n, ok)
		}
	}
	sorry := func(yield func(int) bool) {
		yield(-3)
		panic(2)
	}
	if n, ok := cache.Least(sorry, func(n int) int { return n }); n != 0 || ok {
		t.Error(n, ok)
	}
	calm := func(yield func(int) bool) {
		defer func() { _ = recover() }()
		yield(-3)
	}
	if n, ok := cache.Least(calm, func(n int) int { panic(3) }); n != 0 || ok {
		t.Error(n, ok)
	}
}

// plain is a cache as the chapter's words say: all that was put, in the order in which it was.
type plain struct {
	most, now int
	list      []entry
}

// entry is what was put.
type entry struct {
	key, value, goes int
}

// pass lets time go on.
func (p *plain) pass(at int) {
	p.now = max(p.now, min(max(at, 0), maxTime))
	p.list = slices.DeleteFunc(p.list, func(e entry) bool { return e.goes <= p.now })
}

// put is Put.
func (p *plain) put(k, v, keep, at int) api.Errno {
	if keep < 0 || keep > maxTime || at < 0 || at > maxTime {
		return api.ErrArg
	}
	p.pass(at)
	p.list = slices.DeleteFunc(p.list, func(e entry) bool { return e.key == k })
	others := p.order()
	p.list = append(p.list, entry{k, v, p.now + keep})
	p.pass(at)
	if len(p.list) > p.most {
		p.list = slices.DeleteFunc(p.list, func(e entry) bool { return e == others[0] })
	}
	return api.OK
}

// get is what is kept by a key.
func (p *plain) get(k, at int) (int, int, bool) {
	p.pass(at)
	for _, e := range p.list {
		if e.key == k {
			return e.value, e.goes - p.now, true
		}
	}
	return 0, 0, false
}

// drop is Drop.
func (p *plain) drop(k, at int) bool {
	p.pass(at)
	count := len(p.list)
	p.list = slices.DeleteFunc(p.list, func(e entry) bool { return e.key == k })
	return len(p.list) < count
}

// order is all that is kept, in its order.
func (p *plain) order() []entry {
	l := slices.Clone(p.list)
	slices.SortStableFunc(l, func(a, b entry) int { return a.goes - b.goes })
	return l
}

// sameAll tells whether a cache and the plain one go through the same.
func sameAll(c *cache.Cache[int, int], p *plain, at int) bool {
	p.pass(at)
	want := p.order()
	for k, v := range c.All(at) {
		if len(want) == 0 || want[0].key != k || want[0].value != v {
			return false
		}
		want = want[1:]
	}
	return len(want) == 0
}

// P22.1, P22.2: any calls, beside the plain cache.
func TestBesidePlain(t *testing.T) {
	draw := rand.New(rand.NewSource(221))
	for range 400 {
		most := 1 + draw.Intn(8)
		c, p := made[int, int](t, most), &plain{most: most}
		at := draw.Intn(3)
		for i := range 300 {
			at = max(-2, at+draw.Intn(9)-3)
			k, keep := draw.Intn(12), draw.Intn(20)-1
			ok := true
			switch draw.Intn(8) {
			case 0, 1, 2:
				ok = c.Put(k, i, keep, at) == p.put(k, i, keep, at)
			case 3, 4:
				v, left, found := c.Get(k, at)
				wv, wleft, wfound := p.get(k, at)
				ok = v == wv && left == wleft && found == wfound
			case 5:
				ok = c.Drop(k, at) == p.drop(k, at)
			case 6:
				p.pass(at)
				ok = c.Count(at) == len(p.list) && len(p.list) <= most
			case 7:
				ok = sameAll(c, p, at)
			}
			if !ok {
				t.Fatalf("call %d, of key %d at %d: unlike %+v", i, k, at, p)
			}
		}
	}
}

// P22.2: as many things as may be kept anywhere, and one more.
func TestTenThousand(t *testing.T) {
	c := made[int, int](t, 10000)
	for i := range 30000 {
		puts(t, c, i, -i, 40000, i, api.OK)
		if n := c.Count(i); n != min(i+1, 10000) {
			t.Fatal(i, n)
		}
	}
	for i := range 30000 {
		if _, _, ok := c.Get(i, 0); ok != (i >= 20000) {
			t.Fatal(i)
		}
	}
	next := 20000
	for k, v := range c.All(0) {
		if k != next || v != -next {
			t.Fatal(k, v)
		}
		next++
	}
	if next != 30000 || c.Count(60000) != 9999 || c.Count(69998) != 1 || c.Count(69999) != 0 {
		t.Error(next)
	}
}

// P4: how long a thing is kept still falls as time goes on.
func TestLeftFalls(t *testing.T) {
	draw := rand.New(rand.NewSource(222))
	for range 200 {
		c := made[string, int](t, 1)
		keep := 1 + draw.Intn(1000)
		puts(t, c, "a", 1, keep, 0, api.OK)
		before := keep
		for at := 0; at < keep; at += 1 + draw.Intn(20) {
			_, left, ok := c.Get("a", at-draw.Intn(2))
			if !ok || left > before || left < 1 {
				t.Fatal(at, left, before)
			}
			before = left
		}
		lacks(t, c, "a", keep)
	}
}

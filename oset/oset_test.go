package oset

import (
	"cmp"
	"math"
	"slices"
	"strings"
	"testing"
)

// pair is a member that is like others (of one key), and still not the same (of another mark).
type pair struct {
	key  int
	mark string
}

func byKey(a, b pair) int { return cmp.Compare(a.key, b.key) }

func down(a, b int) int { return cmp.Compare(b, a) }

// wantMembers holds all that a set tells against what it should hold, in order.
func wantMembers[T comparable](t *testing.T, what string, s *Set[T], want ...T) {
	t.Helper()
	if got := s.List(); !slices.Equal(got, want) {
		t.Fatalf("P3.1: %s: List = %v; want %v", what, got, want)
	}
	if s.Len() != len(want) {
		t.Fatalf("P3.1: %s: Len = %d; want %d", what, s.Len(), len(want))
	}
	for i, x := range want {
		if got, ok := s.At(i); !ok || got != x {
			t.Fatalf("P3.1: %s: At(%d) = %v, %v; want %v", what, i, got, ok, x)
		}
		if !s.Has(x) {
			t.Fatalf("P3.1: %s: Has(%v) = false", what, x)
		}
	}
	var zero T
	for _, i := range []int{math.MinInt, -1, len(want), len(want) + 1, math.MaxInt} {
		if got, ok := s.At(i); ok || got != zero {
			t.Fatalf("P3.1: %s: At(%d) = %v, %v; want nothing", what, i, got, ok)
		}
	}
}

func want(t *testing.T, what string, got, want bool) {
	t.Helper()
	if got != want {
		t.Fatalf("P3.1: %s = %v; want %v", what, got, want)
	}
}

func TestNewIsEmpty(t *testing.T) {
	s := New(cmp.Compare[int])
	if s == nil {
		t.Fatal("P3.1: New = nil")
	}
	wantMembers(t, "New", s)
	want(t, "Has of none", s.Has(0), false)
	want(t, "Del of none", s.Del(0), false)
	wantMembers(t, "New, behind Del", s)
}

func TestOneComesAndGoes(t *testing.T) {
	s := New(cmp.Compare[string])
	for range 3 {
		want(t, "Add", s.Add("b"), true)
		want(t, "Add again", s.Add("b"), false)
		wantMembers(t, "one", s, "b")
		want(t, "Has of one below", s.Has("a"), false)
		want(t, "Has of one above", s.Has("c"), false)
		want(t, "Del of one below", s.Del("a"), false)
		want(t, "Del of one above", s.Del("c"), false)
		wantMembers(t, "one, behind Del of others", s, "b")
		want(t, "Del", s.Del("b"), true)
		want(t, "Del again", s.Del("b"), false)
		wantMembers(t, "none", s)
	}
}

// orders are all the orders of l.
func orders(l []int) [][]int {
	if len(l) == 0 {
		return [][]int{nil}
	}
	var all [][]int
	for i, x := range l {
		rest := slices.Delete(slices.Clone(l), i, i+1)
		for _, o := range orders(rest) {
			all = append(all, append([]int{x}, o...))
		}
	}
	return all
}

func TestMembersComeAndGoInAnyOrder(t *testing.T) {
	all := orders([]int{10, 20, 30, 40, 50})
	for k, in := range all {
		s := New(cmp.Compare[int])
		for i, x := range in {
			want(t, "Add", s.Add(x), true)
			wantMembers(t, "coming", s, slices.Sorted(slices.Values(in[:i+1]))...)
		}
		for x := 5; x <= 55; x += 10 {
			want(t, "Has between", s.Has(x), false)
			want(t, "Del between", s.Del(x), false)
		}
		out := all[len(all)-1-k]
		for i, x := range out {
			want(t, "Del", s.Del(x), true)
			want(t, "Has behind Del", s.Has(x), false)
			wantMembers(t, "going", s, slices.Sorted(slices.Values(out[i+1:]))...)
		}
	}
}

// TestAgainstAPlainList does many things in turn to a set and to a list that is searched through and sorted each time.
func TestAgainstAPlainList(t *testing.T) {
	for name, compare := range map[string]func(a, b pair) int{
		"upwards":   byKey,
		"downwards": func(a, b pair) int { return b.key - a.key },
		"by thirds": func(a, b pair) int { return a.key/3 - b.key/3 },
		"far apart": func(a, b pair) int { return cmp.Compare(a.key, b.key) * math.MaxInt },
	} {
		s := New(compare)
		var l []pair
		x := uint32(2463534242)
		for step := range 3000 {
			x ^= x << 13
			x ^= x >> 17
			x ^= x << 5
			p := pair{int(x>>4) % 40, string(rune('a' + step%26))}
			at := slices.IndexFunc(l, func(q pair) bool { return compare(q, p) == 0 })
			want(t, name+": Has", s.Has(p), at >= 0)
			if x%5 < 3 {
				want(t, name+": Add", s.Add(p), at < 0)
				if at < 0 {
					l = append(l, p)
				}
			} else {
				want(t, name+": Del", s.Del(p), at >= 0)
				if at >= 0 {
					l = slices.Delete(l, at, at+1)
				}
			}
			slices.SortFunc(l, compare)
			wantMembers(t, name, s, l...)
		}
	}
}

func TestTheFirstOfAlikeStays(t *testing.T) {
	s := New(byKey)
	want(t, "Add", s.Add(pair{2, "first"}), true)
	want(t, "Add of one alike", s.Add(pair{2, "second"}), false)
	wantMembers(t, "alike", s, pair{2, "first"})
	want(t, "Has of one alike", s.Has(pair{2, "third"}), true)
	want(t, "Del of one alike", s.Del(pair{2, "third"}), true)
	wantMembers(t, "alike, behind Del", s)
	want(t, "Add behind Del", s.Add(pair{2, "second"}), true)
	wantMembers(t, "alike, behind Add", s, pair{2, "second"})
}

func TestOf(t *testing.T) {
	wantMembers(t, "Of none", Of(cmp.Compare[int]))
	wantMembers(t, "Of a nil list", Of(cmp.Compare[int], []int(nil)...))
	wantMembers(t, "Of an empty list", Of(cmp.Compare[int], []int{}...))
	wantMembers(t, "Of one", Of(cmp.Compare[int], 7), 7)
	wantMembers(t, "Of some", Of(cmp.Compare[int], 3, 1, 2, 3, 1, -5), -5, 1, 2, 3)
	wantMembers(t, "Of some, downwards", Of(down, 3, 1, 2, 3, 1, -5), 3, 2, 1, -5)
	wantMembers(t, "Of the farthest", Of(cmp.Compare[int], math.MaxInt, 0, math.MinInt), math.MinInt, 0, math.MaxInt)
	wantMembers(t, "Of alike", Of(byKey, pair{2, "a"}, pair{1, "b"}, pair{2, "c"}, pair{1, "d"}), pair{1, "b"}, pair{2, "a"})
	if Of(cmp.Compare[int]) == nil {
		t.Error("P3.1: Of none = nil")
	}
	s := Of(cmp.Compare[int], 1, 3)
	want(t, "Add behind Of", s.Add(2), true)
	wantMembers(t, "Add behind Of", s, 1, 2, 3)
}

func TestUnion(t *testing.T) {
	for _, c := range []struct {
		s, t, all []int
		came      bool
	}{
		{nil, nil, nil, false},
		{[]int{1}, nil, []int{1}, false},
		{nil, []int{1}, []int{1}, true},
		{[]int{1, 3}, []int{1, 3}, []int{1, 3}, false},
		{[]int{1, 3}, []int{3}, []int{1, 3}, false},
		{[]int{1, 3}, []int{0, 1, 3}, []int{0, 1, 3}, true},
		{[]int{1, 3}, []int{1, 2, 3}, []int{1, 2, 3}, true},
		{[]int{1, 3}, []int{1, 3, 4}, []int{1, 3, 4}, true},
		{[]int{5, 6}, []int{1, 2}, []int{1, 2, 5, 6}, true},
		{[]int{1, 4}, []int{0, 2, 3, 5}, []int{0, 1, 2, 3, 4, 5}, true},
	} {
		a, b := Of(cmp.Compare[int], c.s...), Of(cmp.Compare[int], c.t...)
		want(t, "Union", a.Union(b), c.came)
		wantMembers(t, "Union", a, c.all...)
		wantMembers(t, "what is laid to it", b, c.t...)
		want(t, "Union again", a.Union(b), false)
		wantMembers(t, "Union again", a, c.all...)
		want(t, "Union with itself", a.Union(a), false)
		wantMembers(t, "Union with itself", a, c.all...)
		want(t, "Union with a nil set", a.Union(nil), false)
		wantMembers(t, "Union with a nil set", a, c.all...)
	}
}

func TestUnionKeepsWhatIsAlike(t *testing.T) {
	s := Of(byKey, pair{1, "a"}, pair{3, "a"})
	want(t, "Union", s.Union(Of(byKey, pair{1, "b"}, pair{2, "b"}, pair{3, "b"})), true)
	wantMembers(t, "Union of alike", s, pair{1, "a"}, pair{2, "b"}, pair{3, "a"})
}

// Each set has an order of its own; what comes in is ordered by that of the set that it comes into.
func TestUnionOfTwoOrders(t *testing.T) {
	s := Of(down, 5, 1)
	want(t, "Union", s.Union(Of(cmp.Compare[int], 0, 3, 5, 9)), true)
	wantMembers(t, "Union of two orders", s, 9, 5, 3, 1, 0)
	short := New(func(a, b string) int { return len(a) - len(b) })
	want(t, "Union", short.Union(Of(strings.Compare, "dd", "c", "bb", "a")), true)
	wantMembers(t, "Union of finer members", short, "a", "bb")
}

func TestSetsOfAUnionStayApart(t *testing.T) {
	a, b := Of(cmp.Compare[int], 1), Of(cmp.Compare[int], 2, 3)
	a.Union(b)
	b.Del(2)
	b.Add(9)
	wantMembers(t, "P0.3: the first", a, 1, 2, 3)
	a.Del(3)
	a.Add(4)
	wantMembers(t, "P0.3: the second", b, 3, 9)
	empty := New(cmp.Compare[int])
	empty.Union(b)
	b.Add(1)
	empty.Add(7)
	wantMembers(t, "P0.3: one that was empty", empty, 3, 7, 9)
	wantMembers(t, "P0.3: the second again", b, 1, 3, 9)
}

func TestNilCompare(t *testing.T) {
	if New[int](nil) != nil {
		t.Error("P3.1: New of a nil compare is not nil")
	}
	if Of[int](nil) != nil || Of[int](nil, 1, 2) != nil {
		t.Error("P3.1: Of a nil compare is not nil")
	}
}

// wantNone asks all of a set that takes and tells nothing.
func wantNone(t *testing.T, s *Set[string]) {
	t.Helper()
	for range 2 {
		want(t, "Add", s.Add("a"), false)
		want(t, "Del", s.Del("a"), false)
		want(t, "Has", s.Has("a"), false)
		want(t, "Union", s.Union(Of(strings.Compare, "a", "b")), false)
		want(t, "Union with a nil set", s.Union(nil), false)
		want(t, "Union with itself", s.Union(s), false)
		wantMembers(t, "none", s)
	}
}

func TestNilSet(t *testing.T) {
	wantNone(t, nil)
	wantNone(t, New[string](nil))
	wantNone(t, Of[string](nil, "a", "b"))
	wantNone(t, new(Set[string]))
	s := Of(strings.Compare, "a")
	want(t, "Union with a set that New did not make", s.Union(new(Set[string])), false)
	wantMembers(t, "Union with none", s, "a")
}

// A compare that is no order has no right answer, but each call must end without a panic (P0.1).
func TestCompareThatIsNoOrder(t *testing.T) {
	turn := 0
	for _, compare := range []func(a, b int) int{
		func(a, b int) int { return 0 },
		func(a, b int) int { return 1 },
		func(a, b int) int { return -1 },
		func(a, b int) int { return math.MinInt },
		func(a, b int) int { turn++; return turn%3 - 1 },
		func(a, b int) int { panic("no order") },
		func(a, b int) int { return 1 / (a - b) },
	} {
		s := Of(compare, 3, 1, 2, 3)
		for x := range 9 {
			s.Add(x)
			s.Del(8 - x)
			s.Has(x)
			s.Union(s)
			s.Union(Of(compare, 4, 6))
			s.At(x)
			if s.Len() != len(s.List()) {
				t.Fatal("P3.1: Len is not that of List")
			}
			if s.Len() > 500 {
				s = New(compare)
			}
		}
	}
}

func TestPanicOfCompareChangesNothing(t *testing.T) {
	s := Of(func(a, b int) int {
		if a == 9 || b == 9 {
			panic("9")
		}
		return a - b
	}, 1, 9, 2)
	want(t, "Add", s.Add(9), false)
	want(t, "Del", s.Del(9), false)
	want(t, "Has", s.Has(9), false)
	wantMembers(t, "behind a panic", s, 1, 2)
	want(t, "Union", s.Union(Of(cmp.Compare[int], 0, 9, 10)), true)
	wantMembers(t, "behind a panic in Union", s, 0, 1, 2, 10)
}

func TestListsAreLeftAlone(t *testing.T) {
	room := []int{5, 3, 9, 3, 1, 77, 78, 79}
	kept := slices.Clone(room)
	s := Of(cmp.Compare[int], room[:5]...)
	s.Add(4)
	s.Add(0)
	s.Del(9)
	if !slices.Equal(room, kept) {
		t.Errorf("P0.3: a list or its spare room was changed: %v; it was %v", room, kept)
	}
	for i := range room {
		room[i] = -1
	}
	wantMembers(t, "P0.3: a list that is kept", s, 0, 1, 3, 4, 5)
}

func TestListIsACopy(t *testing.T) {
	s := Of(cmp.Compare[int], 1, 2, 3, 4, 5)
	s.Del(5)
	c, d := s.List(), s.List()
	for i := range c[:cap(c)] {
		c[:cap(c)][i] = -7
	}
	wantMembers(t, "P0.3: behind writing into List", s, 1, 2, 3, 4)
	if !slices.Equal(d, []int{1, 2, 3, 4}) {
		t.Errorf("P0.3: two answers of List share memory: %v", d)
	}
	s.Add(0)
	s.Del(3)
	if !slices.Equal(d, []int{1, 2, 3, 4}) {
		t.Errorf("P0.3: List's answer changes with the set: %v", d)
	}
	s.Add(6)
	wantMembers(t, "P0.3: spare room of the set", s, 0, 1, 2, 4, 6)
}

func TestSetsOfOneOrderStayApart(t *testing.T) {
	l := []int{2, 1}
	a, b := Of(cmp.Compare[int], l...), Of(cmp.Compare[int], l...)
	a.Add(3)
	b.Del(1)
	wantMembers(t, "P0.5: the first", a, 1, 2, 3)
	wantMembers(t, "P0.5: the second", b, 2)
}

// Members may be of any type, also of one that == does not hold for.
func TestMembersOfAnyType(t *testing.T) {
	s := Of(slices.Compare[[]int], []int{2}, []int{1, 5}, nil, []int{1}, []int{})
	if s.Len() != 4 || !s.Has(nil) || !s.Has([]int{1, 5}) || s.Has([]int{5}) {
		t.Errorf("P3.1: a set of lists: %v", s.List())
	}
	if _, ok := s.At(0); !ok {
		t.Error("P3.1: a member that is a zero value is told as none")
	}
	wantMembers(t, "a set of things", Of(func(a, b any) int { return cmp.Compare(a.(int), b.(int)) }, any(3), any(1)), any(1), any(3))
	wantMembers(t, "a set of runes", Of(cmp.Compare[rune], 'z', 'ä', 'a', 'z'), 'a', 'z', 'ä')
}

func TestManyMembers(t *testing.T) {
	const n = 20000
	s := New(cmp.Compare[int])
	for i := range n {
		want(t, "Add", s.Add(i*7919%n), true)
	}
	for i := range n {
		if x, ok := s.At(i); !ok || x != i {
			t.Fatalf("P3.1: At(%d) = %d, %v", i, x, ok)
		}
	}
	want(t, "Union with itself", s.Union(s), false)
	for i := range n {
		want(t, "Del", s.Del(i*7907%n), true)
	}
	wantMembers(t, "many, all gone", s)
}

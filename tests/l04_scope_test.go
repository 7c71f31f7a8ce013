package tests

import (
	"math"
	"slices"
	"sort"
	"testing"

	"loop.example/g00396/impl"
)

// The second ones below tell of any list, set or not, what the chapter says of it, by counts and
// cuts where the program goes through it once.

func countOf(s []int, n int) int {
	count := 0
	for _, m := range s {
		if m == n {
			count++
		}
	}
	return count
}

func rightSet(s []int) bool {
	sorted := slices.Clone(s)
	sort.Ints(sorted)
	for _, n := range s {
		if n < 0 || countOf(s, n) != 1 {
			return false
		}
	}
	return slices.Equal(s, sorted)
}

func withOf(s []int, n int) []int {
	if countOf(s, n) > 0 {
		return slices.Clone(s)
	}
	at := 0
	for at < len(s) && s[at] < n {
		at++
	}
	return slices.Concat(s[:at], []int{n}, s[at:])
}

func withoutOf(s []int, n int) []int {
	return slices.DeleteFunc(slices.Clone(s), func(m int) bool { return m == n })
}

func flipOf(s []int, n int) []int {
	if countOf(s, n) > 0 {
		return withoutOf(s, n)
	}
	return withOf(s, n)
}

func withinOf(a, b []int) bool {
	for _, n := range a {
		if countOf(b, n) == 0 {
			return false
		}
	}
	return true
}

// everyList calls each with every list of at most most of numbers.
func everyList(numbers []int, most int, each func([]int)) {
	var grow func(s []int)
	grow = func(s []int) {
		each(s)
		for i := 0; i < len(numbers) && len(s) < most; i++ {
			grow(append(slices.Clone(s), numbers[i]))
		}
	}
	grow(nil)
}

// everySet calls each with every set of numbers from 0 on below most.
func everySet(most int, each func([]int)) {
	for bits := range 1 << most {
		var s []int
		for n := range most {
			if bits>>n&1 == 1 {
				s = append(s, n)
			}
		}
		each(s)
	}
}

// longSet is of size numbers, by a fixed rule, with gaps between them.
func longSet(seed uint64, size int) []int {
	var s []int
	last := 0
	for range size {
		seed = seed*6364136223846793005 + 1442695040888963407
		last += 1 + int(seed>>40)%4
		s = append(s, last)
	}
	return s
}

func checkMade(t *testing.T, s []int, n int) {
	t.Helper()
	for _, c := range []struct {
		name      string
		got, want []int
	}{
		{"With", impl.With(s, n), withOf(s, n)},
		{"Without", impl.Without(s, n), withoutOf(s, n)},
		{"Flip", impl.Flip(s, n), flipOf(s, n)},
	} {
		if !slices.Equal(c.got, c.want) {
			t.Errorf("%s(%.300v, %d) = %.300v, not %.300v", c.name, s, n, c.got, c.want)
		}
	}
}

func checkHeld(t *testing.T, a, b []int) {
	t.Helper()
	if got, want := impl.Within(a, b), withinOf(a, b); got != want {
		t.Errorf("Within(%.300v, %.300v) is %v", a, b, got)
	}
	if got, want := impl.SameSet(a, b), slices.Equal(a, b); got != want {
		t.Errorf("SameSet(%.300v, %.300v) is %v", a, b, got)
	}
}

func TestSetOkTakes(t *testing.T) {
	for _, s := range [][]int{
		nil, {}, {0}, {1}, {7}, {math.MaxInt}, {0, 1}, {0, math.MaxInt}, {3, 9, 10}, {0, 1, 2, 3, 4}, {greatestWord, greatestWord + 1, 1 << 40}, {math.MaxInt - 1, math.MaxInt},
	} {
		if !impl.SetOk(s) {
			t.Errorf("SetOk(%v) is false", s)
		}
	}
	for _, size := range []int{1000, 100000} {
		if !impl.SetOk(longSet(1, size)) {
			t.Errorf("SetOk of a set of %d is false", size)
		}
	}
}

func TestSetOkRefuses(t *testing.T) {
	for _, s := range [][]int{
		{-1}, {math.MinInt}, {-1, 0}, {-5, -1}, {-2, 3, 4}, {math.MinInt, math.MaxInt}, {0, -1}, {3, -1, 4}, {3, 4, -1},
		{0, 0}, {2, 2}, {1, 1, 2}, {1, 2, 2}, {1, 2, 2, 3}, {1, 2, 1}, {math.MaxInt, math.MaxInt},
		{1, 0}, {2, 1}, {2, 1, 3}, {1, 3, 2}, {0, 2, 1, 3}, {3, 2, 1, 0}, {math.MaxInt, 0}, {math.MaxInt, math.MinInt}, {1 << 32, 1},
	} {
		if impl.SetOk(s) {
			t.Errorf("SetOk(%v) is true", s)
		}
	}
}

// Each place of a long set made wrong: one below 0 there, that of the place behind it, and one above that.
func TestSetOkEachPlace(t *testing.T) {
	const size = 200
	right := longSet(3, size)
	for at := range size - 1 {
		for _, n := range []int{-1, right[at+1], right[at+1] + 1} {
			s := slices.Clone(right)
			s[at] = n
			if impl.SetOk(s) {
				t.Errorf("SetOk is true of what has %d at %d", n, at)
			}
		}
	}
}

func TestSetOkSmallLists(t *testing.T) {
	right := 0
	everyList([]int{-1, 0, 1, 2, 3}, 5, func(s []int) {
		if got, want := impl.SetOk(s), rightSet(s); got != want {
			t.Errorf("SetOk(%v) is %v", s, got)
		}
		if impl.SetOk(s) {
			right++
		}
	})
	if right != 16 {
		t.Errorf("%d sets of 0 to 3 are right", right)
	}
}

func TestWithTable(t *testing.T) {
	for _, c := range []struct {
		s    []int
		n    int
		want []int
	}{
		{nil, 0, []int{0}}, {[]int{}, 5, []int{5}}, {nil, math.MaxInt, []int{math.MaxInt}},
		{[]int{5}, 5, []int{5}}, {[]int{5}, 0, []int{0, 5}}, {[]int{5}, 4, []int{4, 5}}, {[]int{5}, 6, []int{5, 6}}, {[]int{0}, 0, []int{0}}, {[]int{0}, 1, []int{0, 1}},
		{[]int{2, 5, 9}, 0, []int{0, 2, 5, 9}}, {[]int{2, 5, 9}, 1, []int{1, 2, 5, 9}}, {[]int{2, 5, 9}, 3, []int{2, 3, 5, 9}}, {[]int{2, 5, 9}, 8, []int{2, 5, 8, 9}}, {[]int{2, 5, 9}, 10, []int{2, 5, 9, 10}}, {[]int{2, 5, 9}, math.MaxInt, []int{2, 5, 9, math.MaxInt}},
		{[]int{2, 5, 9}, 2, []int{2, 5, 9}}, {[]int{2, 5, 9}, 5, []int{2, 5, 9}}, {[]int{2, 5, 9}, 9, []int{2, 5, 9}},
		// What is no set is answered as it stands: where the number is there nothing is put in, else it stands ahead of the first one that is not below it.
		{nil, -1, []int{-1}}, {[]int{0, 1}, -1, []int{-1, 0, 1}}, {[]int{0, 1}, math.MinInt, []int{math.MinInt, 0, 1}}, {[]int{-3, 4}, -3, []int{-3, 4}}, {[]int{-3, 4}, -2, []int{-3, -2, 4}}, {[]int{-3, -3}, 0, []int{-3, -3, 0}},
		{[]int{5, 2}, 2, []int{5, 2}}, {[]int{9, 2, 5}, 5, []int{9, 2, 5}}, {[]int{9, 2, 5}, 2, []int{9, 2, 5}}, {[]int{9, 2, 5}, 3, []int{3, 9, 2, 5}}, {[]int{5, 2}, 9, []int{5, 2, 9}}, {[]int{1, 7, 2, 8}, 4, []int{1, 4, 7, 2, 8}},
		{[]int{2, 2}, 2, []int{2, 2}}, {[]int{2, 2}, 1, []int{1, 2, 2}}, {[]int{2, 2}, 3, []int{2, 2, 3}}, {[]int{1, 3, 3}, 2, []int{1, 2, 3, 3}},
	} {
		if got := impl.With(c.s, c.n); !slices.Equal(got, c.want) {
			t.Errorf("With(%v, %d) = %v, not %v", c.s, c.n, got, c.want)
		}
	}
}

func TestWithoutTable(t *testing.T) {
	for _, c := range []struct {
		s    []int
		n    int
		want []int
	}{
		{nil, 0, nil}, {[]int{}, 5, nil}, {[]int{5}, 5, nil}, {[]int{0}, 0, nil}, {[]int{5}, 4, []int{5}}, {[]int{5}, 6, []int{5}}, {[]int{5}, 0, []int{5}},
		{[]int{2, 5, 9}, 2, []int{5, 9}}, {[]int{2, 5, 9}, 5, []int{2, 9}}, {[]int{2, 5, 9}, 9, []int{2, 5}},
		{[]int{2, 5, 9}, 0, []int{2, 5, 9}}, {[]int{2, 5, 9}, 3, []int{2, 5, 9}}, {[]int{2, 5, 9}, 10, []int{2, 5, 9}}, {[]int{0, 1, 2}, 0, []int{1, 2}}, {[]int{1, math.MaxInt}, math.MaxInt, []int{1}},
		{[]int{2, 5, 9}, -1, []int{2, 5, 9}}, {[]int{-1, 2}, -1, []int{2}}, {[]int{math.MinInt}, math.MinInt, nil},
		{[]int{5, 2}, 5, []int{2}}, {[]int{5, 2}, 2, []int{5}}, {[]int{5, 2}, 3, []int{5, 2}},
		{[]int{2, 2}, 2, nil}, {[]int{2, 3, 2}, 2, []int{3}}, {[]int{2, 3, 2}, 3, []int{2, 2}}, {[]int{1, 2, 2, 2, 3}, 2, []int{1, 3}},
	} {
		if got := impl.Without(c.s, c.n); !slices.Equal(got, c.want) {
			t.Errorf("Without(%v, %d) = %v, not %v", c.s, c.n, got, c.want)
		}
	}
}

func TestFlipTable(t *testing.T) {
	for _, c := range []struct {
		s    []int
		n    int
		want []int
	}{
		{nil, 0, []int{0}}, {[]int{}, 5, []int{5}}, {[]int{5}, 5, nil}, {[]int{0}, 0, nil}, {[]int{5}, 0, []int{0, 5}}, {[]int{5}, 4, []int{4, 5}}, {[]int{5}, 6, []int{5, 6}},
		{[]int{2, 5, 9}, 2, []int{5, 9}}, {[]int{2, 5, 9}, 5, []int{2, 9}}, {[]int{2, 5, 9}, 9, []int{2, 5}},
		{[]int{2, 5, 9}, 0, []int{0, 2, 5, 9}}, {[]int{2, 5, 9}, 3, []int{2, 3, 5, 9}}, {[]int{2, 5, 9}, 7, []int{2, 5, 7, 9}}, {[]int{2, 5, 9}, 10, []int{2, 5, 9, 10}},
		{[]int{2, 5}, -1, []int{-1, 2, 5}}, {[]int{-1, 2, 5}, -1, []int{2, 5}},
		{[]int{5, 2}, 2, []int{5}}, {[]int{5, 2}, 3, []int{3, 5, 2}}, {[]int{2, 3, 2}, 2, []int{3}}, {[]int{2, 3, 2}, 4, []int{2, 3, 2, 4}},
	} {
		if got := impl.Flip(c.s, c.n); !slices.Equal(got, c.want) {
			t.Errorf("Flip(%v, %d) = %v, not %v", c.s, c.n, got, c.want)
		}
	}
}

func TestWithinTable(t *testing.T) {
	for _, c := range []struct {
		a, b []int
		want bool
	}{
		{nil, nil, true}, {nil, []int{}, true}, {[]int{}, nil, true}, {nil, []int{0}, true}, {[]int{}, []int{2, 5}, true}, {[]int{0}, nil, false}, {[]int{0}, []int{}, false},
		{[]int{5}, []int{5}, true}, {[]int{5}, []int{4}, false}, {[]int{5}, []int{6}, false}, {[]int{0}, []int{0, 1}, true}, {[]int{0}, []int{1}, false},
		{[]int{2, 5, 9}, []int{2, 5, 9}, true}, {[]int{2}, []int{2, 5, 9}, true}, {[]int{5}, []int{2, 5, 9}, true}, {[]int{9}, []int{2, 5, 9}, true}, {[]int{2, 9}, []int{2, 5, 9}, true}, {[]int{5, 9}, []int{2, 5, 9}, true},
		{[]int{1, 5, 9}, []int{2, 5, 9}, false}, {[]int{2, 6, 9}, []int{2, 5, 9}, false}, {[]int{2, 5, 10}, []int{2, 5, 9}, false}, {[]int{2, 5, 9, 10}, []int{2, 5, 9}, false}, {[]int{0, 2, 5, 9}, []int{2, 5, 9}, false}, {[]int{10}, []int{2, 5, 9}, false},
		{[]int{1, 2}, []int{2, 3}, false}, {[]int{2, 3}, []int{1, 2}, false},
		// What is no set: each number of a by itself, wherever and however often it stands in b.
		{[]int{9, 2}, []int{2, 5, 9}, true}, {[]int{2, 9}, []int{9, 5, 2}, true}, {[]int{9, 5, 2}, []int{5, 2, 9}, true}, {[]int{9, 3}, []int{2, 5, 9}, false}, {[]int{2, 2}, []int{2}, true}, {[]int{2}, []int{2, 2}, true}, {[]int{2, 5, 2}, []int{2, 5}, true}, {[]int{2, 2, 3}, []int{2}, false},
		{[]int{-1}, []int{-1, 0}, true}, {[]int{-1}, []int{0, 1}, false}, {[]int{-1, 0}, []int{0}, false}, {[]int{math.MinInt, math.MaxInt}, []int{math.MaxInt, math.MinInt}, true}, {[]int{1}, []int{1<<32 + 1}, false},
	} {
		if got := impl.Within(c.a, c.b); got != c.want {
			t.Errorf("Within(%v, %v) is %v", c.a, c.b, got)
		}
	}
}

func TestSameSetTable(t *testing.T) {
	for _, c := range []struct {
		a, b []int
		want bool
	}{
		{nil, nil, true}, {nil, []int{}, true}, {nil, []int{0}, false}, {[]int{}, []int{5}, false},
		{[]int{0}, []int{0}, true}, {[]int{5}, []int{5}, true}, {[]int{5}, []int{6}, false}, {[]int{0}, []int{1}, false},
		{[]int{2, 5, 9}, []int{2, 5, 9}, true}, {[]int{2, 5, 9}, []int{1, 5, 9}, false}, {[]int{2, 5, 9}, []int{2, 6, 9}, false}, {[]int{2, 5, 9}, []int{2, 5, 10}, false},
		{[]int{2, 5, 9}, []int{2, 5}, false}, {[]int{2, 5, 9}, []int{5, 9}, false}, {[]int{2, 5, 9}, []int{2, 5, 9, 10}, false}, {[]int{2, 5, 9}, []int{0, 2, 5, 9}, false},
		// What is no set: one by one, as it stands.
		{[]int{2, 5}, []int{5, 2}, false}, {[]int{5, 2}, []int{5, 2}, true}, {[]int{2, 2}, []int{2}, false}, {[]int{2, 2}, []int{2, 2}, true}, {[]int{2, 2, 5}, []int{2, 5, 5}, false},
		{[]int{-1}, []int{-1}, true}, {[]int{-1}, []int{1}, false}, {[]int{1}, []int{1<<32 + 1}, false}, {[]int{math.MinInt}, []int{math.MaxInt}, false},
	} {
		if got, turned := impl.SameSet(c.a, c.b), impl.SameSet(c.b, c.a); got != c.want || turned != c.want {
			t.Errorf("SameSet(%v, %v) is %v, turned round %v", c.a, c.b, got, turned)
		}
	}
}

func TestSetsSmallLists(t *testing.T) {
	everyList([]int{-1, 0, 2, 3}, 5, func(s []int) {
		for n := -2; n <= 4; n++ {
			checkMade(t, s, n)
		}
	})
	everyList([]int{-1, 0, 2, 3}, 4, func(a []int) {
		everyList([]int{-1, 0, 2, 3}, 4, func(b []int) { checkHeld(t, a, b) })
	})
}

func TestSetsOfManyInts(t *testing.T) {
	for _, n := range manyInts() {
		for _, s := range [][]int{nil, {n}, {0, 7, 1 << 40}, {math.MinInt, math.MaxInt}, {9, n, 3}} {
			checkMade(t, s, n)
			checkMade(t, s, ^n)
			checkHeld(t, []int{n}, s)
			checkHeld(t, s, []int{n})
		}
	}
}

// P4: a set that is flipped twice is as it was, once it is not, and what is made of a set is one.
func checkFlippedTwice(t *testing.T, s []int, n int) {
	t.Helper()
	once := impl.Flip(s, n)
	if impl.SameSet(once, s) || countOf(once, n) == countOf(s, n) || !impl.SetOk(once) {
		t.Fatalf("flipped once by %d %.300v is %.300v", n, s, once)
	}
	if twice := impl.Flip(once, n); !impl.SameSet(twice, s) || !slices.Equal(twice, s) {
		t.Fatalf("flipped twice by %d %.300v is %.300v", n, s, twice)
	}
	with, without := impl.With(s, n), impl.Without(s, n)
	if !impl.SetOk(with) || !impl.SetOk(without) || !impl.Within(s, with) || !impl.Within(without, s) || !impl.Within([]int{n}, with) || impl.Within([]int{n}, without) {
		t.Fatalf("with %d %.300v is %.300v, without it %.300v", n, s, with, without)
	}
	if !impl.SameSet(impl.Without(with, n), without) || !impl.SameSet(impl.With(without, n), with) || impl.SameSet(with, without) {
		t.Fatalf("with and without %d %.300v does not come back", n, s)
	}
}

func TestFlippedTwice(t *testing.T) {
	everySet(9, func(s []int) {
		for _, n := range []int{0, 1, 2, 3, 4, 5, 6, 7, 8, 9, 10, 1 << 40, math.MaxInt} {
			checkFlippedTwice(t, s, n)
		}
	})
	for seed := range 20 {
		s := longSet(uint64(seed), 40*seed)
		for n := range 3*len(s) + 5 {
			checkFlippedTwice(t, s, n)
		}
	}
}

// Flipped by many numbers, one behind the other, and then by the same ones in another order, it is as it was.
func TestFlippedByMany(t *testing.T) {
	maker := dataMaker{seed: 5}
	for range 200 {
		s := longSet(uint64(maker.pick(1000)), maker.pick(30))
		now, first, second := s, make([]int, 40), make([]int, 40)
		for i := range first {
			first[i] = maker.pick(60)
			second[len(second)-1-(i+13)%len(second)] = first[i]
		}
		for _, n := range slices.Concat(first, second) {
			now = impl.Flip(now, n)
			if !impl.SetOk(now) {
				t.Fatalf("%v is no set", now)
			}
		}
		if !impl.SameSet(now, s) {
			t.Fatalf("%v has become %v", s, now)
		}
	}
}

func TestWithinOfSets(t *testing.T) {
	everySet(7, func(a []int) {
		if !impl.Within(a, a) || !impl.Within(nil, a) || impl.Within(a, nil) != (len(a) == 0) {
			t.Errorf("%v is not within itself, or the empty set not within it", a)
		}
		everySet(7, func(b []int) {
			checkHeld(t, a, b)
			if both := impl.Within(a, b) && impl.Within(b, a); both != impl.SameSet(a, b) {
				t.Errorf("%v and %v are within each other: %v", a, b, both)
			}
		})
	})
}

// Long sets are answered soon; two that differ in one place or in length alone are told apart.
func TestLongSets(t *testing.T) {
	const size = 200000
	a := longSet(7, size)
	if !impl.Within(a, a) || !impl.SameSet(a, longSet(7, size)) || impl.SameSet(a, a[:size-1]) || impl.SameSet(a, a[1:]) || impl.Within(a, a[1:]) || !impl.Within(a[1:], a) {
		t.Error("a long set is held against itself otherwise")
	}
	for _, at := range []int{0, 1, size / 2, size - 1} {
		less := impl.Without(a, a[at])
		if len(less) != size-1 || impl.Within(a, less) || !impl.Within(less, a) || impl.SameSet(a, less) || !slices.Equal(impl.With(less, a[at]), a) {
			t.Errorf("a long set without what stands at %d is told otherwise", at)
		}
		other := slices.Clone(a)
		other[at] += math.MaxInt / 2
		if impl.SameSet(a, other) || impl.Within(other, a) || impl.Within(a, other) {
			t.Errorf("two that differ at %d are not told apart", at)
		}
	}
}

// roomy is a copy of s with other numbers in the spare room behind it.
func roomy(s []int) []int {
	out := make([]int, len(s), len(s)+4)
	copy(out, s)
	for i := len(s); i < cap(out); i++ {
		out[:cap(out)][i] = 70 + i
	}
	return out
}

func allOf(s []int) []int {
	return s[:cap(s)]
}

func TestSetsAreNotWritten(t *testing.T) {
	for _, s := range [][]int{{}, {0}, {5}, {2, 5, 9}, {2, 5, 70}, {5, 2, 2, -1}} {
		for n := -2; n <= 11; n++ {
			a, b := roomy(s), roomy(s)
			asItWas := slices.Clone(allOf(a))
			impl.SetOk(a)
			impl.With(a, n)
			impl.Without(a, n)
			impl.Flip(a, n)
			impl.Within(a, b)
			impl.Within(a, []int{n})
			impl.Within([]int{n}, a)
			impl.SameSet(a, b)
			impl.SameSet(a, []int{n})
			if !slices.Equal(allOf(a), asItWas) || !slices.Equal(allOf(b), asItWas) {
				t.Errorf("%v was written into by %d: %v, %v", s, n, allOf(a), allOf(b))
			}
		}
	}
}

// What is answered shares no memory with what was handed in, its spare room neither, whichever is written into.
func TestSetAnswersAreNew(t *testing.T) {
	for name, made := range map[string]func([]int, int) []int{"With": impl.With, "Without": impl.Without, "Flip": impl.Flip} {
		for _, s := range [][]int{{}, {0}, {5}, {2, 5, 9}, {5, 2, 2, -1}} {
			for n := -2; n <= 11; n++ {
				a := roomy(s)
				asItWas := slices.Clone(allOf(a))
				got := made(a, n)
				for i := range allOf(got) {
					allOf(got)[i] = -77
				}
				if !slices.Equal(allOf(a), asItWas) {
					t.Errorf("the answer of %s(%v, %d) shares memory with the argument", name, s, n)
				}
				again := made(a, n)
				want := slices.Clone(again)
				for i := range allOf(a) {
					allOf(a)[i] = -77
				}
				if !slices.Equal(again, want) {
					t.Errorf("the answer of %s(%v, %d) is seen to change with the argument", name, s, n)
				}
			}
		}
	}
}

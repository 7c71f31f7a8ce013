package tests

import (
	"math"
	"reflect"
	"slices"
	"strconv"
	"testing"

	"loop.example/g00396/impl"
)

func wnum(n int) impl.Stx { return impl.Stx{Op: impl.DtNum, N: n} }

func wsym(s string, set ...int) impl.Stx {
	return impl.Stx{Op: impl.DtSym, S: s, Set: set}
}

func wlist(kids ...impl.Stx) impl.Stx {
	return impl.Stx{Op: impl.DtList, Kids: kids}
}

// wat is x as it begins at another place.
func wat(at int, x impl.Stx) impl.Stx {
	x.At = at
	return x
}

// wholeStx is x as new memory, with no empty list in it that is not nil.
func wholeStx(x impl.Stx) impl.Stx {
	x.Set = append([]int(nil), x.Set...)
	x.Kids = wholeStxs(x.Kids)
	return x
}

func wholeStxs(list []impl.Stx) []impl.Stx {
	var out []impl.Stx
	for _, x := range list {
		out = append(out, wholeStx(x))
	}
	return out
}

func equalStx(a, b impl.Stx) bool {
	return reflect.DeepEqual(wholeStx(a), wholeStx(b))
}

func equalDat(a, b impl.Dat) bool {
	return equalDats([]impl.Dat{a}, []impl.Dat{b})
}

// The second ones below go within themselves, kid by kid.

func stxOf(d impl.Dat, set []int) impl.Stx {
	x := impl.Stx{Op: d.Op, At: d.At, N: d.N, S: d.S}
	if d.Op == impl.DtSym {
		x.Set = slices.Clone(set)
	}
	for _, kid := range d.Kids {
		x.Kids = append(x.Kids, stxOf(kid, set))
	}
	return x
}

func datOf(x impl.Stx) impl.Dat {
	d := impl.Dat{Op: x.Op, At: x.At, N: x.N, S: x.S}
	for _, kid := range x.Kids {
		d.Kids = append(d.Kids, datOf(kid))
	}
	return d
}

func turnedOf(x impl.Stx, turn func([]int, int) []int, n int) impl.Stx {
	out := wholeStx(x)
	if x.Op == impl.DtSym {
		out.Set = turn(x.Set, n)
	}
	for i, kid := range x.Kids {
		out.Kids[i] = turnedOf(kid, turn, n)
	}
	return out
}

// placeless is x as if all of it began at 0.
func placeless(x impl.Stx) impl.Stx {
	x = wholeStx(wat(0, x))
	for i, kid := range x.Kids {
		x.Kids[i] = placeless(kid)
	}
	return x
}

func alikeStx(a, b impl.Stx) bool {
	return reflect.DeepEqual(placeless(a), placeless(b))
}

func setsRight(x impl.Stx) bool {
	right := len(x.Set) == 0
	if x.Op == impl.DtSym {
		right = rightSet(x.Set)
	}
	for _, kid := range x.Kids {
		right = right && setsRight(kid)
	}
	return right
}

func rightStx(x impl.Stx) bool {
	return rightDats([]impl.Dat{datOf(x)}) && setsRight(x)
}

// written is what stands in a text, each symbol with set.
func written(t *testing.T, s string, set ...int) impl.Stx {
	t.Helper()
	list, bad := impl.ReadAll(s)
	if bad != -1 || len(list) != 1 {
		t.Fatalf("%q is not one datum", s)
	}
	return impl.StxOf(list[0], set)
}

func withinStx(x impl.Stx, lists int) impl.Stx {
	for range lists {
		x = wlist(x)
	}
	return x
}

func manyStx(x impl.Stx, n int) []impl.Stx {
	list := make([]impl.Stx, n)
	for i := range list {
		list[i] = x
	}
	return list
}

// aboutStx are ways in which something stands within something else.
func aboutStx() []func(impl.Stx) impl.Stx {
	return []func(impl.Stx) impl.Stx{
		func(x impl.Stx) impl.Stx { return x },
		func(x impl.Stx) impl.Stx { return wlist(x) },
		func(x impl.Stx) impl.Stx { return wlist(x, wnum(1)) },
		func(x impl.Stx) impl.Stx { return wlist(wsym("x", 2), wlist(wnum(1), x), wsym("y")) },
		func(x impl.Stx) impl.Stx { return withinStx(x, 15) },
		func(x impl.Stx) impl.Stx { return withinStx(wlist(wnum(1), wlist(), x), 11) },
	}
}

func TestStxOfTable(t *testing.T) {
	for _, c := range []struct {
		d    impl.Dat
		set  []int
		want impl.Stx
	}{
		{symAt(4, "x"), []int{2, 5}, wat(4, wsym("x", 2, 5))}, {symAt(4, "x"), nil, wat(4, wsym("x"))}, {sym("x"), []int{}, wsym("x")}, {sym("..."), []int{0}, wsym("...", 0)},
		{numAt(4, -7), []int{2, 5}, wat(4, wnum(-7))}, {num(0), nil, wnum(0)},
		{listAt(3), []int{2, 5}, wat(3, wlist())}, {listOf(), nil, wlist()}, {listOf(listOf()), []int{1}, wlist(wlist())},
		{listAt(1, symAt(2, "f"), numAt(4, 1), listAt(6, symAt(7, "x"), listAt(9), symAt(11, "f"))), []int{3}, wat(1, wlist(wat(2, wsym("f", 3)), wat(4, wnum(1)), wat(6, wlist(wat(7, wsym("x", 3)), wat(9, wlist()), wat(11, wsym("f", 3))))))},
		// What is wrong is the same, too; a set that is none is carried as it stands.
		{sym("x"), []int{5, 2, 2, -1}, wsym("x", 5, 2, 2, -1)},
		{impl.Dat{}, []int{1}, impl.Stx{}}, {impl.Dat{Op: -1, At: -2, N: 3, S: "A"}, []int{1}, impl.Stx{Op: -1, At: -2, N: 3, S: "A"}}, {impl.Dat{Op: 4, S: "x", Kids: []impl.Dat{sym("x")}}, []int{1}, impl.Stx{Op: 4, S: "x", Kids: []impl.Stx{wsym("x", 1)}}},
		{impl.Dat{Op: impl.DtNum, N: 1 << 40, S: "x", Kids: []impl.Dat{sym("y")}}, []int{1}, impl.Stx{Op: impl.DtNum, N: 1 << 40, S: "x", Kids: []impl.Stx{wsym("y", 1)}}},
		{impl.Dat{Op: impl.DtSym, N: 4, Kids: []impl.Dat{sym("y"), num(2)}}, []int{1}, impl.Stx{Op: impl.DtSym, N: 4, Set: []int{1}, Kids: []impl.Stx{wsym("y", 1), wnum(2)}}},
		{impl.Dat{Op: impl.DtList, N: 4, S: "x"}, []int{1}, impl.Stx{Op: impl.DtList, N: 4, S: "x"}},
		{impl.Dat{Op: 1<<32 + 2, S: "x"}, []int{1}, impl.Stx{Op: 1<<32 + 2, S: "x"}},
	} {
		if got := impl.StxOf(c.d, c.set); !equalStx(got, c.want) {
			t.Errorf("StxOf(%v, %v) = %v, not %v", c.d, c.set, got, c.want)
		}
	}
}

func TestDatOfTable(t *testing.T) {
	for _, c := range []struct {
		x    impl.Stx
		want impl.Dat
	}{
		{wat(4, wsym("x", 2, 5)), symAt(4, "x")}, {wsym("x"), sym("x")}, {wat(4, wnum(-7)), numAt(4, -7)}, {wlist(), listOf()}, {wat(2, wlist(wat(3, wlist()))), listAt(2, listAt(3))},
		{wat(1, wlist(wat(2, wsym("f", 3)), wat(4, wnum(1)), wat(6, wlist(wat(7, wsym("x")), wat(9, wsym("f", 0, 8)))))), listAt(1, symAt(2, "f"), numAt(4, 1), listAt(6, symAt(7, "x"), symAt(9, "f")))},
		// What is wrong is the same, too, without what it carries.
		{wsym("x", 5, 2, 2, -1), sym("x")}, {impl.Stx{Op: impl.DtList, Set: []int{1}}, listOf()}, {impl.Stx{Op: impl.DtNum, N: 3, Set: []int{1}}, num(3)},
		{impl.Stx{}, impl.Dat{}}, {impl.Stx{Op: -1, At: -2, N: 3, S: "A", Set: []int{1}, Kids: []impl.Stx{wsym("x", 2)}}, impl.Dat{Op: -1, At: -2, N: 3, S: "A", Kids: []impl.Dat{sym("x")}}},
		{impl.Stx{Op: impl.DtSym, N: 4, Set: []int{1}, Kids: []impl.Stx{wsym("y", 1), wnum(2)}}, impl.Dat{Op: impl.DtSym, N: 4, Kids: []impl.Dat{sym("y"), num(2)}}},
	} {
		if got := impl.DatOf(c.x); !equalDat(got, c.want) {
			t.Errorf("DatOf(%v) = %v, not %v", c.x, got, c.want)
		}
	}
}

// P5: what is written of a datum is that datum, whatever set it carries; and it carries that one.
func checkWrittenIsDatum(t *testing.T, d impl.Dat, set []int) {
	t.Helper()
	x := impl.StxOf(d, set)
	if back := impl.DatOf(x); !equalDat(back, d) || !impl.SameDat(back, d) {
		t.Fatalf("what is written of %.300v is %.300v", d, back)
	}
	if !equalStx(x, stxOf(d, set)) || !impl.SameStx(x, stxOf(d, set)) {
		t.Fatalf("StxOf(%.300v, %v) = %.300v", d, set, x)
	}
	if impl.DatsOk([]impl.Dat{d}) && impl.SetOk(set) && !impl.StxOk(x) {
		t.Fatalf("StxOf(%.300v, %v) is not StxOk", d, set)
	}
	for n := range 4 {
		if back := impl.DatOf(impl.WithAll(impl.FlipAll(x, n), 3-n)); !equalDat(back, d) {
			t.Fatalf("flipped by %d what is written of %.300v is %.300v", n, d, back)
		}
	}
}

func TestWrittenIsThatDatum(t *testing.T) {
	sets := [][]int{nil, {}, {0}, {2, 5}, {0, 1, 2, 3, 70}, longSet(3, 50), {5, 2, 2, -1}}
	maker := dataMaker{seed: 9}
	for round := range 3000 {
		d := maker.dat(1 + maker.pick(7))
		checkWrittenIsDatum(t, d, sets[round%len(sets)])
		list := []impl.Dat{d}
		maker.spoil(list)
		checkWrittenIsDatum(t, list[0], sets[round%len(sets)])
	}
	for what, d := range wrongDats() {
		t.Run(what, func(t *testing.T) {
			checkWrittenIsDatum(t, d, []int{1, 4})
			checkWrittenIsDatum(t, listOf(num(1), d, sym("x")), []int{1, 4})
		})
	}
	for _, d := range []impl.Dat{within(sym("x"), impl.MaxNest-1), within(listOf(), impl.MaxNest), listOf(many(sym("x"), impl.MaxSize-1)...), listOf(many(sym("x"), impl.MaxSize)...)} {
		checkWrittenIsDatum(t, d, []int{1, 4})
	}
}

func TestWrittenOfTexts(t *testing.T) {
	for _, s := range []string{"x", "7", "()", "(a (1 b))", "(((x)) (() y) -1)", "(let ((x 1)\n  (y 2)) (+ x y))", "(m _ ... (x ...) ...)"} {
		list, bad := impl.ReadAll(s)
		if bad != -1 || len(list) != 1 {
			t.Fatalf("%q is not one datum", s)
		}
		checkWrittenIsDatum(t, list[0], []int{2, 5})
		if got, want := impl.DatText(impl.DatOf(impl.StxOf(list[0], []int{3}))), impl.DatText(list[0]); got != want {
			t.Errorf("%q is told as %q", want, got)
		}
	}
}

func TestStxOkTakes(t *testing.T) {
	for _, x := range []impl.Stx{
		wnum(0), wnum(leastWord), wnum(greatestWord), wsym("x"), wsym("...", 0), wsym("_", 2, 5), wsym("abcdefghijkl", math.MaxInt), wlist(),
		wat(math.MaxInt, wnum(1)), wat(7, wsym("x")), wat(7, wlist(wat(3, wlist()))),
		wlist(wsym("f", 1), wsym("f"), wsym("f", 0, 1, 2), wnum(3), wlist(wsym("x", 9), wlist())),
		{Op: impl.DtNum, Set: []int{}, Kids: []impl.Stx{}}, {Op: impl.DtList, Set: []int{}, Kids: []impl.Stx{}}, {Op: impl.DtSym, S: "x", Set: []int{}, Kids: []impl.Stx{}},
		wsym("x", longSet(1, 5000)...), withinStx(wsym("x", 1), impl.MaxNest-1), withinStx(wlist(), impl.MaxNest-1), wlist(manyStx(wsym("x", 1, 2), impl.MaxSize-1)...),
	} {
		if !impl.StxOk(x) {
			t.Errorf("StxOk(%.300v) is false", x)
		}
	}
}

// wrongSets are right but for what they carry.
func wrongSets() map[string]impl.Stx {
	list := map[string]impl.Stx{
		"a list with a set":          {Op: impl.DtList, Set: []int{1}},
		"a list with a set of 0":     {Op: impl.DtList, Set: []int{0}},
		"a list with kids and a set": {Op: impl.DtList, Set: []int{1}, Kids: []impl.Stx{wsym("x", 1)}},
		"an int with a set":          {Op: impl.DtNum, N: 7, Set: []int{1}},
		"the int 0 with a set":       {Op: impl.DtNum, Set: []int{0, 1}},
		"no kind with a set":         {Op: 0, Set: []int{1}},
	}
	for _, set := range [][]int{{-1}, {2, 1}, {1, 1}, {0, 0}, {1, 2, 2}, {1, 3, 2}, {-1, 0}, {0, -1}, {math.MinInt}, {5, 6, 7, 6}} {
		list["a symbol with "+strconv.Itoa(len(set))+" from "+strconv.Itoa(set[0])+" to "+strconv.Itoa(set[len(set)-1])] = wsym("x", set...)
	}
	return list
}

func TestStxOkRefuses(t *testing.T) {
	wrong := wrongSets()
	for what, d := range wrongDats() {
		wrong[what] = impl.StxOf(d, nil)
		wrong[what+", with a set"] = impl.StxOf(d, []int{1, 2})
	}
	for what, x := range wrong {
		for i, about := range aboutStx() {
			if impl.StxOk(about(x)) {
				t.Errorf("StxOk is true: %q, by way %d", what, i)
			}
		}
	}
}

func TestStxOkNestAndSize(t *testing.T) {
	for lists := range 60 {
		for _, leaf := range []impl.Stx{wnum(1), wsym("x", 1), wlist()} {
			for _, x := range []impl.Stx{withinStx(leaf, lists), withinStx(wlist(wnum(1), leaf, wsym("y")), lists-1)} {
				if got, want := impl.StxOk(x), lists < impl.MaxNest; lists > 0 && got != want {
					t.Errorf("StxOk of %d within each other is %v", lists+1, got)
				}
			}
		}
	}
	for _, n := range []int{impl.MaxSize - 1, impl.MaxSize, impl.MaxSize + 1, 40 * impl.MaxSize} {
		for _, leaf := range []impl.Stx{wnum(1), wsym("x", 1), wlist()} {
			for _, x := range []impl.Stx{wlist(manyStx(leaf, n-1)...), withinStx(wlist(manyStx(leaf, n-8)...), 7), wlist(wlist(manyStx(leaf, 700)...), wlist(manyStx(leaf, n-703)...))} {
				if got, want := impl.StxOk(x), n <= impl.MaxSize; got != want {
					t.Errorf("StxOk of %d in all is %v", n, got)
				}
			}
		}
	}
}

// What is written may hold itself, or be far greater than what memory holds of it; StxOk still ends.
func TestStxOkEnds(t *testing.T) {
	round := make([]impl.Stx, 1)
	round[0] = wlist(round...)
	two := make([]impl.Stx, 2)
	two[0], two[1] = wsym("x", 1), impl.Stx{Op: impl.DtList, Kids: two}
	broad := wsym("x", 1)
	for range 60 {
		broad = wlist(manyStx(broad, 40)...)
	}
	for _, x := range []impl.Stx{round[0], two[1], wlist(two...), broad, withinStx(wnum(1), 300000)} {
		if impl.StxOk(x) {
			t.Error("StxOk is true of what has no end")
		}
	}
}

func TestTurnedTables(t *testing.T) {
	for _, c := range []struct {
		x       impl.Stx
		n       int
		flipped impl.Stx
		with    impl.Stx
	}{
		{wsym("x"), 3, wsym("x", 3), wsym("x", 3)}, {wsym("x", 3), 3, wsym("x"), wsym("x", 3)}, {wsym("x", 2, 5), 3, wsym("x", 2, 3, 5), wsym("x", 2, 3, 5)}, {wsym("x", 2, 5), 5, wsym("x", 2), wsym("x", 2, 5)}, {wat(6, wsym("x", 2, 5)), 0, wat(6, wsym("x", 0, 2, 5)), wat(6, wsym("x", 0, 2, 5))},
		{wat(6, wnum(3)), 3, wat(6, wnum(3)), wat(6, wnum(3))}, {wlist(), 3, wlist(), wlist()}, {wlist(wlist(), wnum(1)), 0, wlist(wlist(), wnum(1)), wlist(wlist(), wnum(1))},
		{
			wlist(wsym("f", 3), wat(2, wsym("f")), wnum(3), wlist(wsym("x", 1, 3), wlist(wsym("y", 4)))), 3,
			wlist(wsym("f"), wat(2, wsym("f", 3)), wnum(3), wlist(wsym("x", 1), wlist(wsym("y", 3, 4)))),
			wlist(wsym("f", 3), wat(2, wsym("f", 3)), wnum(3), wlist(wsym("x", 1, 3), wlist(wsym("y", 3, 4)))),
		},
		// What is wrong is answered as it stands: only symbols are turned, wherever they are.
		{wsym("x", 5, 2), 2, wsym("x", 5), wsym("x", 5, 2)}, {wsym("x", 5, 2), -1, wsym("x", -1, 5, 2), wsym("x", -1, 5, 2)}, {wsym("", 1), 1, wsym(""), wsym("", 1)},
		{impl.Stx{Op: impl.DtList, Set: []int{1}, Kids: []impl.Stx{wsym("x", 1)}}, 1, impl.Stx{Op: impl.DtList, Set: []int{1}, Kids: []impl.Stx{wsym("x")}}, impl.Stx{Op: impl.DtList, Set: []int{1}, Kids: []impl.Stx{wsym("x", 1)}}},
		{impl.Stx{Op: impl.DtNum, N: 4, S: "x", Set: []int{1}, Kids: []impl.Stx{wsym("x")}}, 1, impl.Stx{Op: impl.DtNum, N: 4, S: "x", Set: []int{1}, Kids: []impl.Stx{wsym("x", 1)}}, impl.Stx{Op: impl.DtNum, N: 4, S: "x", Set: []int{1}, Kids: []impl.Stx{wsym("x", 1)}}},
		{impl.Stx{Op: -1, At: -4, S: "x", Set: []int{1}}, 1, impl.Stx{Op: -1, At: -4, S: "x", Set: []int{1}}, impl.Stx{Op: -1, At: -4, S: "x", Set: []int{1}}}, {impl.Stx{}, 1, impl.Stx{}, impl.Stx{}}, {impl.Stx{Op: 1<<32 + 2}, 1, impl.Stx{Op: 1<<32 + 2}, impl.Stx{Op: 1<<32 + 2}},
		{impl.Stx{Op: impl.DtSym, N: 4, Kids: []impl.Stx{wsym("y", 1), wnum(2)}}, 1, impl.Stx{Op: impl.DtSym, N: 4, Set: []int{1}, Kids: []impl.Stx{wsym("y"), wnum(2)}}, impl.Stx{Op: impl.DtSym, N: 4, Set: []int{1}, Kids: []impl.Stx{wsym("y", 1), wnum(2)}}},
	} {
		if got := impl.FlipAll(c.x, c.n); !equalStx(got, c.flipped) {
			t.Errorf("FlipAll(%v, %d) = %v, not %v", c.x, c.n, got, c.flipped)
		}
		if got := impl.WithAll(c.x, c.n); !equalStx(got, c.with) {
			t.Errorf("WithAll(%v, %d) = %v, not %v", c.x, c.n, got, c.with)
		}
	}
}

func (m *dataMaker) set(wrongToo bool) []int {
	if wrongToo && m.pick(6) == 0 {
		return [][]int{{-1}, {2, 1}, {1, 1}, {0, 3, 2}}[m.pick(4)]
	}
	var s []int
	for n := range 5 {
		if m.pick(2) == 0 {
			s = append(s, n)
		}
	}
	return s
}

// stx is some datum in which each symbol carries a set of its own, and others one now and then if wrong ones may be.
func (m *dataMaker) stx(deep int, wrongToo bool) impl.Stx {
	list := []impl.Dat{m.dat(deep)}
	if wrongToo && m.pick(2) == 0 {
		m.spoil(list)
	}
	x := stxOf(list[0], nil)
	m.carry(&x, wrongToo)
	return x
}

func (m *dataMaker) carry(x *impl.Stx, wrongToo bool) {
	if x.Op == impl.DtSym || wrongToo && m.pick(60) == 0 {
		x.Set = m.set(wrongToo && m.pick(20) == 0)
	}
	for i := range x.Kids {
		m.carry(&x.Kids[i], wrongToo)
	}
}

func TestStxOfMany(t *testing.T) {
	maker := dataMaker{seed: 4}
	count := [2]int{}
	for range 6000 {
		x := maker.stx(1+maker.pick(6), true)
		want := rightStx(x)
		if got := impl.StxOk(x); got != want {
			t.Fatalf("StxOk(%v) is %v", x, got)
		}
		if want {
			count[1]++
		} else {
			count[0]++
		}
		if got := impl.DatOf(x); !equalDat(got, datOf(x)) {
			t.Fatalf("DatOf(%v) = %v", x, got)
		}
		for n := -1; n <= 6; n++ {
			flipped, with := impl.FlipAll(x, n), impl.WithAll(x, n)
			if !equalStx(flipped, turnedOf(x, flipOf, n)) || !equalStx(with, turnedOf(x, withOf, n)) {
				t.Fatalf("of %v by %d FlipAll is %v, WithAll %v", x, n, flipped, with)
			}
			if impl.SameStx(x, flipped) != alikeStx(x, flipped) || impl.SameStx(x, with) != alikeStx(x, with) {
				t.Fatalf("%v by %d is held otherwise against what it becomes", x, n)
			}
		}
	}
	if count[0] < 1000 || count[1] < 1000 {
		t.Errorf("%d wrong and %d right ones are too few", count[0], count[1])
	}
}

func symbolsIn(x impl.Stx) int {
	count := 0
	if x.Op == impl.DtSym {
		count = 1
	}
	for _, kid := range x.Kids {
		count += symbolsIn(kid)
	}
	return count
}

// What is right is as it was when it is flipped twice, and with a number once as with it twice; it stays right.
func TestStxFlippedTwice(t *testing.T) {
	maker := dataMaker{seed: 6}
	for range 3000 {
		x := maker.stx(1+maker.pick(6), false)
		for n := range 7 {
			once, with := impl.FlipAll(x, n), impl.WithAll(x, n)
			if twice := impl.FlipAll(once, n); !equalStx(twice, x) || !impl.SameStx(twice, x) {
				t.Fatalf("flipped twice by %d %v is %v", n, x, twice)
			}
			if impl.SameStx(once, x) != (symbolsIn(x) == 0) {
				t.Fatalf("flipped once by %d %v is %v", n, x, once)
			}
			if again := impl.WithAll(with, n); !equalStx(again, with) {
				t.Fatalf("with %d twice %v is %v", n, x, again)
			}
			if impl.StxOk(x) && (!impl.StxOk(once) || !impl.StxOk(with)) {
				t.Fatalf("%v is no more right by %d", x, n)
			}
		}
	}
}

func TestSameStxTakes(t *testing.T) {
	for _, c := range []struct{ a, b impl.Stx }{
		{wnum(7), wnum(7)}, {wsym("x"), wsym("x")}, {wsym("x", 2, 5), wsym("x", 2, 5)}, {wlist(), wlist()}, {wlist(wnum(1), wsym("x", 1)), wlist(wnum(1), wsym("x", 1))},
		{wat(3, wnum(7)), wat(9, wnum(7))}, {wat(-1, wsym("x", 1)), wat(math.MaxInt, wsym("x", 1))}, {wat(1, wlist(wat(2, wsym("x", 4)))), wat(5, wlist(wat(6, wsym("x", 4))))},
		{withinStx(wat(4, wsym("x", 1)), 300), withinStx(wat(5, wsym("x", 1)), 300)},
		{impl.Stx{Op: impl.DtList}, impl.Stx{Op: impl.DtList, Set: []int{}, Kids: []impl.Stx{}}}, {wsym("x"), impl.Stx{Op: impl.DtSym, S: "x", Set: []int{}, Kids: []impl.Stx{}}},
		// What is wrong is like itself, too.
		{impl.Stx{}, impl.Stx{}}, {wsym("x", 5, 2, 2), wsym("x", 5, 2, 2)}, {impl.Stx{Op: impl.DtList, Set: []int{1}}, impl.Stx{Op: impl.DtList, At: 2, Set: []int{1}}},
		{impl.Stx{Op: -1, N: 7, S: "A", Set: []int{3}, Kids: []impl.Stx{wnum(1)}}, impl.Stx{Op: -1, At: 3, N: 7, S: "A", Set: []int{3}, Kids: []impl.Stx{wat(8, wnum(1))}}},
	} {
		for _, about := range aboutStx() {
			if a, b := about(c.a), about(c.b); !impl.SameStx(a, b) || !impl.SameStx(b, a) {
				t.Errorf("SameStx(%v, %v) is false", a, b)
			}
		}
	}
}

func TestSameStxRefuses(t *testing.T) {
	for _, c := range []struct{ a, b impl.Stx }{
		// One Set alone is another.
		{wsym("x"), wsym("x", 0)}, {wsym("x", 1), wsym("x", 2)}, {wsym("x", 1), wsym("x", 1, 2)}, {wsym("x", 1, 2), wsym("x", 2)}, {wsym("x", 1, 2), wsym("x", 2, 1)}, {wsym("x", 1), wsym("x", 1, 1)}, {wsym("x", 1), wsym("x", 1<<32+1)},
		{wlist(), impl.Stx{Op: impl.DtList, Set: []int{1}}}, {wnum(1), impl.Stx{Op: impl.DtNum, N: 1, Set: []int{0}}}, {impl.Stx{Op: impl.DtList, Set: []int{2}}, impl.Stx{Op: impl.DtList, Set: []int{1}}}, {impl.Stx{}, impl.Stx{Set: []int{0}}},
		{wlist(wsym("x", 1), wsym("x")), wlist(wsym("x"), wsym("x", 1))},
		// One name, one number or one Op alone.
		{wsym("x", 1), wsym("y", 1)}, {wsym("x", 1), wsym("xx", 1)}, {wsym("x"), wsym("")}, {wnum(7), wnum(8)}, {wnum(7), wnum(-7)}, {wnum(1), wnum(1<<32 + 1)}, {wsym("1"), wnum(1)},
		{wnum(0), wlist()}, {impl.Stx{}, wnum(0)}, {impl.Stx{Op: 1}, impl.Stx{Op: 2}}, {impl.Stx{Op: -1}, impl.Stx{Op: 1}}, {impl.Stx{Op: impl.DtSym, S: "x"}, impl.Stx{Op: impl.DtList, S: "x"}},
		{wnum(7), impl.Stx{Op: impl.DtNum, N: 7, S: "x"}}, {wsym("x"), impl.Stx{Op: impl.DtSym, S: "x", N: 1}}, {wlist(), impl.Stx{Op: impl.DtList, N: 1}}, {wlist(), impl.Stx{Op: impl.DtList, S: "x"}},
		// One kid alone.
		{wlist(), wlist(wlist())}, {wlist(wnum(1)), wlist(wnum(1), wnum(1))}, {wlist(wnum(1), wnum(2)), wlist(wnum(2), wnum(1))}, {wlist(wnum(1)), wnum(1)}, {wlist(wlist(), wnum(1)), wlist(wnum(1), wlist())},
		{wlist(wlist(wnum(1)), wlist()), wlist(wlist(), wlist(wnum(1)))}, {wlist(wlist(wnum(1), wnum(2))), wlist(wlist(wnum(1)), wnum(2))},
		{wnum(7), impl.Stx{Op: impl.DtNum, N: 7, Kids: []impl.Stx{wnum(7)}}}, {wsym("x"), impl.Stx{Op: impl.DtSym, S: "x", Kids: []impl.Stx{wlist()}}},
	} {
		for _, about := range aboutStx() {
			if a, b := about(c.a), about(c.b); impl.SameStx(a, b) || impl.SameStx(b, a) {
				t.Errorf("SameStx(%v, %v) is true", a, b)
			}
		}
	}
}

func TestSameStxOfMany(t *testing.T) {
	maker := dataMaker{seed: 8}
	all := []impl.Stx{}
	for range 150 {
		all = append(all, maker.stx(3, true), maker.stx(1, false))
	}
	for _, a := range all {
		for _, b := range all {
			if got, want := impl.SameStx(a, b), alikeStx(a, b); got != want {
				t.Fatalf("SameStx(%v, %v) is %v", a, b, got)
			}
		}
	}
}

// What stands far deeper than StxOk takes is still answered.
func TestDeepStxIsAnswered(t *testing.T) {
	const lists = 300000
	a, b := withinStx(wsym("x", 1), lists), withinStx(wsym("x", 2), lists)
	if !impl.SameStx(a, a) || impl.SameStx(a, b) || impl.StxOk(a) {
		t.Error("what is written deep is held together otherwise")
	}
	if d := within(sym("x"), lists); !impl.SameDat(impl.DatOf(a), d) || !impl.SameStx(impl.StxOf(d, []int{1}), a) {
		t.Error("what is written of a deep datum is not that datum")
	}
	if !impl.SameStx(impl.FlipAll(impl.WithAll(a, 2), 1), b) {
		t.Error("what is written deep is turned otherwise")
	}
}

// roomyStx is x with spare room behind each of its lists, in which something else stands.
func roomyStx(x impl.Stx) impl.Stx {
	kids := make([]impl.Stx, 0, len(x.Kids)+3)
	for _, kid := range x.Kids {
		kids = append(kids, roomyStx(kid))
	}
	for i := len(kids); i < cap(kids); i++ {
		kids[:cap(kids)][i] = wsym("spare", 70+i)
	}
	x.Set, x.Kids = roomy(x.Set), kids
	return x
}

func roomyDat(d impl.Dat) impl.Dat {
	kids := make([]impl.Dat, 0, len(d.Kids)+3)
	for _, kid := range d.Kids {
		kids = append(kids, roomyDat(kid))
	}
	for i := len(kids); i < cap(kids); i++ {
		kids[:cap(kids)][i] = sym("spare")
	}
	d.Kids = kids
	return d
}

// widened is x with its spare room as part of it.
func widened(x impl.Stx) impl.Stx {
	x.Set = allOf(x.Set)
	kids := x.Kids[:cap(x.Kids)]
	x.Kids = make([]impl.Stx, len(kids))
	for i, kid := range kids {
		x.Kids[i] = widened(kid)
	}
	return x
}

func widenedDat(d impl.Dat) impl.Dat {
	kids := d.Kids[:cap(d.Kids)]
	d.Kids = make([]impl.Dat, len(kids))
	for i, kid := range kids {
		d.Kids[i] = widenedDat(kid)
	}
	return d
}

func spoilStx(x impl.Stx) {
	for i := range allOf(x.Set) {
		allOf(x.Set)[i] = -77
	}
	for i, kid := range x.Kids[:cap(x.Kids)] {
		spoilStx(kid)
		x.Kids[:cap(x.Kids)][i] = impl.Stx{Op: -77}
	}
}

func spoilDat(d impl.Dat) {
	for i, kid := range d.Kids[:cap(d.Kids)] {
		spoilDat(kid)
		d.Kids[:cap(d.Kids)][i] = impl.Dat{Op: -77}
	}
}

func TestStxIsNotWritten(t *testing.T) {
	maker := dataMaker{seed: 2}
	for range 300 {
		plain := maker.stx(4, true)
		a, b, d, set := roomyStx(plain), roomyStx(plain), roomyDat(datOf(plain)), roomy([]int{2, 5})
		for n := range 4 {
			impl.StxOf(d, set)
			impl.DatOf(a)
			impl.StxOk(a)
			impl.FlipAll(a, n)
			impl.WithAll(a, n)
			impl.SameStx(a, b)
			impl.SameStx(b, wlist(a))
		}
		want := widened(roomyStx(plain))
		if !equalStx(widened(a), want) || !equalStx(widened(b), want) || !equalDat(widenedDat(d), widenedDat(roomyDat(datOf(plain)))) || !slices.Equal(allOf(set), allOf(roomy([]int{2, 5}))) {
			t.Fatalf("an argument was written into: %v, %v, %v, %v", widened(a), widened(b), widenedDat(d), allOf(set))
		}
	}
}

// What is answered is not seen to change, whatever is done to what was handed in, and the other way about.
func TestStxAnswersAreNew(t *testing.T) {
	maker := dataMaker{seed: 7}
	for range 300 {
		plain, set := maker.stx(4, true), maker.set(false)
		for name, made := range map[string]func(impl.Stx) impl.Stx{
			"FlipAll by 1": func(x impl.Stx) impl.Stx { return impl.FlipAll(x, 1) },
			"FlipAll by 9": func(x impl.Stx) impl.Stx { return impl.FlipAll(x, 9) },
			"WithAll 1":    func(x impl.Stx) impl.Stx { return impl.WithAll(x, 1) },
			"WithAll 9":    func(x impl.Stx) impl.Stx { return impl.WithAll(x, 9) },
		} {
			a := roomyStx(plain)
			got, want := made(a), wholeStx(made(a))
			spoilStx(a)
			if !equalStx(got, want) {
				t.Fatalf("%s of %v changes with the argument", name, plain)
			}
			a = roomyStx(plain)
			spoilStx(made(a))
			if !equalStx(widened(a), widened(roomyStx(plain))) {
				t.Fatalf("%s of %v shares memory with the argument", name, plain)
			}
		}
		a, d, s := roomyStx(plain), roomyDat(datOf(plain)), roomy(set)
		bare, carried := impl.DatOf(a), impl.StxOf(d, s)
		spoilStx(a)
		spoilDat(d)
		for i := range allOf(s) {
			allOf(s)[i] = -77
		}
		if !equalDat(bare, datOf(plain)) || !equalStx(carried, stxOf(datOf(plain), set)) {
			t.Fatalf("DatOf or StxOf of %v changes with the argument", plain)
		}
		a, d, s = roomyStx(plain), roomyDat(datOf(plain)), roomy(set)
		spoilDat(impl.DatOf(a))
		spoilStx(impl.StxOf(d, s))
		if !equalStx(widened(a), widened(roomyStx(plain))) || !equalDat(widenedDat(d), widenedDat(roomyDat(datOf(plain)))) || !slices.Equal(allOf(s), allOf(roomy(set))) {
			t.Fatalf("DatOf or StxOf of %v shares memory with the argument", plain)
		}
	}
}

// Each symbol of an answer has a Set of its own, and each list kids of its own, their spare room too.
func TestStxListsAreApart(t *testing.T) {
	x := written(t, "(a (b a) (c d) () a)", 1, 2)
	for name, made := range map[string]func() impl.Stx{
		"StxOf":   func() impl.Stx { return impl.StxOf(impl.DatOf(x), []int{1, 2}) },
		"FlipAll": func() impl.Stx { return impl.FlipAll(x, 1) },
		"WithAll": func() impl.Stx { return impl.WithAll(x, 1) },
	} {
		for at := range x.Kids {
			got, want := made(), wholeStx(made())
			spoilStx(got.Kids[at])
			got.Kids[at], want.Kids[at] = impl.Stx{}, impl.Stx{}
			if !equalStx(got, want) {
				t.Errorf("lists of an answer of %s share memory: %v", name, got)
			}
		}
	}
	for at := range x.Kids {
		got, want := impl.DatOf(x), whole(impl.DatOf(x))
		spoilDat(got.Kids[at])
		got.Kids[at], want.Kids[at] = impl.Dat{}, impl.Dat{}
		if !equalDat(got, want) {
			t.Errorf("lists of an answer of DatOf share memory: %v", got)
		}
	}
}

package tests

import (
	"math"
	"reflect"
	"strconv"
	"strings"
	"testing"

	"loop.example/g00396/impl"
)

func numAt(at, n int) impl.Dat         { return impl.Dat{Op: impl.DtNum, At: at, N: n} }
func symAt(at int, s string) impl.Dat  { return impl.Dat{Op: impl.DtSym, At: at, S: s} }
func num(n int) impl.Dat               { return numAt(0, n) }
func sym(s string) impl.Dat            { return symAt(0, s) }
func listOf(kids ...impl.Dat) impl.Dat { return listAt(0, kids...) }

func listAt(at int, kids ...impl.Dat) impl.Dat {
	return impl.Dat{Op: impl.DtList, At: at, Kids: kids}
}

// whole is d with no empty list in it that is not nil, so that two of them can be held against each other field by field.
func whole(d impl.Dat) impl.Dat {
	d.Kids = wholes(d.Kids)
	return d
}

func wholes(list []impl.Dat) []impl.Dat {
	var out []impl.Dat
	for _, d := range list {
		out = append(out, whole(d))
	}
	return out
}

func equalDats(a, b []impl.Dat) bool {
	return reflect.DeepEqual(wholes(a), wholes(b))
}

// rightDat says of one datum alone what DatsOk asks of it.
func rightDat(d impl.Dat) bool {
	isNum := d.Op == impl.DtNum && d.N >= leastWord && d.N <= greatestWord
	isSym := d.Op == impl.DtSym && nameOf(d.S)
	isList := d.Op == impl.DtList
	return d.At >= 0 && (isNum || isSym || isList) && (isNum || d.N == 0) && (isSym || d.S == "") && (isList || len(d.Kids) == 0)
}

// rightDats goes level by level, where DatsOk goes one datum behind the other.
func rightDats(list []impl.Dat) bool {
	size := 0
	for nest := 1; len(list) > 0; nest++ {
		size += len(list)
		if nest > impl.MaxNest || size > impl.MaxSize {
			return false
		}
		var below []impl.Dat
		for _, d := range list {
			if !rightDat(d) {
				return false
			}
			below = append(below, d.Kids...)
		}
		list = below
	}
	return true
}

// datsOf reads with lists kept open beside each other, where ReadAll reads within itself.
func datsOf(s string) ([]impl.Dat, int) {
	tokens, bad := tokensOf(s)
	if bad != -1 {
		return nil, bad
	}
	open := []impl.Dat{{Op: impl.DtList}}
	put := func(d impl.Dat) {
		about := &open[len(open)-1]
		about.Kids = append(about.Kids, d)
	}
	for _, token := range tokens {
		switch token.Kind {
		case impl.TkNum:
			put(numAt(token.At, token.N))
		case impl.TkSym:
			put(symAt(token.At, token.Text))
		case impl.TkOpen:
			open = append(open, listAt(token.At))
		case impl.TkClose:
			if len(open) == 1 {
				return nil, token.At
			}
			closed := open[len(open)-1]
			open = open[:len(open)-1]
			put(closed)
		}
	}
	if len(open) > 1 {
		return nil, len(s)
	}
	if !rightDats(open[0].Kids) {
		return nil, 0
	}
	return open[0].Kids, -1
}

func checkRead(t *testing.T, s string) {
	t.Helper()
	want, wantBad := datsOf(s)
	got, bad := impl.ReadAll(s)
	if bad != wantBad || !equalDats(got, want) {
		t.Errorf("ReadAll(%.60q) = %.300v, %d, not %.300v, %d", s, got, bad, want, wantBad)
	}
	if bad == -1 && !impl.DatsOk(got) {
		t.Errorf("ReadAll(%.60q) is not DatsOk", s)
	}
}

// within is d in so many lists, one in the other.
func within(d impl.Dat, lists int) impl.Dat {
	for range lists {
		d = listOf(d)
	}
	return d
}

func many(d impl.Dat, n int) []impl.Dat {
	list := make([]impl.Dat, n)
	for i := range list {
		list[i] = d
	}
	return list
}

func TestDatumLimits(t *testing.T) {
	if impl.MaxNest != 20 || impl.MaxSize != 1500 || impl.DtNum != 1 || impl.DtSym != 2 || impl.DtList != 3 {
		t.Error("a constant of the chapter is another")
	}
}

func TestReadAllTable(t *testing.T) {
	for _, c := range []struct {
		s    string
		want []impl.Dat
	}{
		{"", nil}, {" ", nil}, {"\n", nil}, {"  \n \n", nil},
		{"7", []impl.Dat{numAt(0, 7)}},
		{"-7", []impl.Dat{numAt(0, -7)}},
		{"x", []impl.Dat{symAt(0, "x")}},
		{"\n x ", []impl.Dat{symAt(2, "x")}},
		{"()", []impl.Dat{listAt(0)}},
		{"( \n )", []impl.Dat{listAt(0)}},
		{" ()()\n()", []impl.Dat{listAt(1), listAt(3), listAt(6)}},
		{"(())", []impl.Dat{listAt(0, listAt(1))}},
		{"x 1 (y)", []impl.Dat{symAt(0, "x"), numAt(2, 1), listAt(4, symAt(5, "y"))}},
		{"(x)y", []impl.Dat{listAt(0, symAt(1, "x")), symAt(3, "y")}},
		{"1(2)3", []impl.Dat{numAt(0, 1), listAt(1, numAt(2, 2)), numAt(4, 3)}},
		{"(f (1 -2) ()) b", []impl.Dat{listAt(0, symAt(1, "f"), listAt(3, numAt(4, 1), numAt(6, -2)), listAt(10)), symAt(14, "b")}},
		{"(x ... _)", []impl.Dat{listAt(0, symAt(1, "x"), symAt(3, "..."), symAt(7, "_"))}},
		{"(((1) 2) 3)", []impl.Dat{listAt(0, listAt(1, listAt(2, numAt(3, 1)), numAt(6, 2)), numAt(9, 3))}},
		{"(+ - -1)", []impl.Dat{listAt(0, symAt(1, "+"), symAt(3, "-"), numAt(5, -1))}},
		{"-1073741824 1073741823", []impl.Dat{numAt(0, leastWord), numAt(12, greatestWord)}},
		{"(abcdefghijkl)", []impl.Dat{listAt(0, symAt(1, "abcdefghijkl"))}},
	} {
		if got, bad := impl.ReadAll(c.s); bad != -1 || !equalDats(got, c.want) {
			t.Errorf("ReadAll(%q) = %v, %d, not %v", c.s, got, bad, c.want)
		}
	}
}

func TestReadAllRefuses(t *testing.T) {
	for _, c := range []struct {
		s   string
		bad int
	}{
		{")", 0}, {" )", 1}, {"\n\n)", 2}, {"x)", 1}, {"x )", 2}, {"()) ", 2}, {"(x) 1 ) 2", 6}, {")(", 0}, {"x ) )", 2}, {"(()))(", 4}, {"(x))(y))", 3},
		{"(", 1}, {"((", 2}, {"(x", 2}, {"(x ", 3}, {"(x  \n ", 6}, {"( ", 2}, {" (", 2}, {"(x (y)", 6}, {"(x (y) \n", 8}, {"() (", 4}, {"(()", 3}, {"x (1 2", 6}, {"(x) (", 5},
		{"A", 0}, {"x A", 2}, {"(x A)", 3}, {"(x 01)", 3}, {"(-0)", 1}, {"(1073741824)", 1}, {"x -1073741825", 2}, {"(abcdefghijklm)", 1}, {"(x\t)", 1}, {"(\xff)", 1}, {"(x \u03bb", 3},
		// What is no token is told ahead of brackets that do not fit: there are no tokens then.
		{") A", 2}, {"( A", 2}, {"x ) 01", 4}, {"A )", 0}, {"(1a", 1},
		// A bracket that closes nothing stands ahead of the end.
		{") (", 0}, {"()) (x", 2},
	} {
		if got, bad := impl.ReadAll(c.s); bad != c.bad || len(got) != 0 {
			t.Errorf("ReadAll(%q) = %v, %d, not %d", c.s, got, bad, c.bad)
		}
	}
}

func TestReadAllNest(t *testing.T) {
	for n := 1; n <= 60; n++ {
		opens, closes := strings.Repeat("(", n), strings.Repeat(")", n)
		for s, nest := range map[string]int{
			opens + closes:                     n,
			opens + "1" + closes:               n + 1,
			opens + "x y" + closes:             n + 1,
			"x " + opens + closes:              n,
			opens + closes + " x":              n,
			"(" + opens + closes + " 1)":       n + 1,
			"(x " + opens + closes + ")":       n + 1,
			"(((()))) " + opens + " " + closes: max(n, 4),
		} {
			want := -1
			if nest > impl.MaxNest {
				want = 0
			}
			if got, bad := impl.ReadAll(s); bad != want || (len(got) == 0) != (want == 0) {
				t.Errorf("ReadAll(%q), %d within each other = %v, %d", s, nest, got, bad)
			}
			checkRead(t, s)
		}
	}
}

// Brackets that do not fit are told ahead of what stands too deep or is too much.
func TestReadAllTooDeepAndMore(t *testing.T) {
	for _, n := range []int{1, impl.MaxNest - 1, impl.MaxNest, impl.MaxNest + 1, impl.MaxNest + 2, 1000, 1999} {
		opens, closes := strings.Repeat("(", n), strings.Repeat(")", n)
		for _, c := range []struct {
			s   string
			bad int
		}{
			{opens, n}, {opens + "\n", n + 1}, {opens + closes[1:], 2*n - 1},
			{opens + closes + ")", 2 * n}, {opens + closes + " )", 2*n + 1}, {opens + closes + "(", 2*n + 1}, {")" + opens + closes, 0},
			{opens + closes + "A", 2 * n}, {opens + "A", n},
		} {
			if got, bad := impl.ReadAll(c.s); bad != c.bad || len(got) != 0 {
				t.Errorf("ReadAll(%.60q) of %d brackets = %d data, %d, not %d", c.s, n, len(got), bad, c.bad)
			}
		}
	}
	tooMany := strings.Repeat("1 ", impl.MaxSize+1)
	for s, want := range map[string]int{tooMany: 0, tooMany + ")": len(tooMany), tooMany + "(": len(tooMany) + 1, tooMany + "( ": len(tooMany) + 2, tooMany + "A": len(tooMany)} {
		if got, bad := impl.ReadAll(s); bad != want || len(got) != 0 {
			t.Errorf("ReadAll of too many and %q = %d data, %d, not %d", s[len(tooMany):], len(got), bad, want)
		}
	}
}

func TestReadAllSize(t *testing.T) {
	for _, n := range []int{impl.MaxSize - 1, impl.MaxSize, impl.MaxSize + 1, impl.MaxSize + 2} {
		for s, size := range map[string]int{
			strings.Repeat("1 ", n):                                                        n,
			strings.Repeat("x\n", n):                                                       n,
			strings.Repeat("()", n):                                                        n,
			"(" + strings.Repeat("x ", n-1) + ")":                                          n,
			"(" + strings.Repeat("()", n-2) + " 1)":                                        n,
			strings.Repeat("1 ", n-500) + "(" + strings.Repeat("2 ", 499) + ")":            n,
			strings.Repeat("((", 5) + strings.Repeat("x ", n-10) + strings.Repeat("))", 5): n,
			strings.Repeat("(1)", n/2) + strings.Repeat("x", n%2):                          n,
		} {
			want := -1
			if size > impl.MaxSize {
				want = 0
			}
			if got, bad := impl.ReadAll(s); bad != want || (len(got) == 0) != (want == 0) {
				t.Errorf("ReadAll of %d data (%.20q) = %d data, %d", size, s, len(got), bad)
			}
			checkRead(t, s)
		}
	}
}

func TestReadAllTextLength(t *testing.T) {
	blanks := strings.Repeat(" ", impl.MaxText)
	for _, c := range []struct {
		s    string
		size int
		bad  int
	}{
		{blanks, 0, -1}, {blanks + " ", 0, 0}, {blanks + "\n", 0, 0}, {blanks + ")", 0, 0}, {blanks + "(", 0, 0},
		{blanks[1:] + "x", 1, -1}, {blanks + "x", 0, 0}, {"x" + blanks, 0, 0},
		{blanks[2:] + "()", 1, -1}, {blanks[1:] + "()", 0, 0}, {"(" + blanks[2:] + ")", 1, -1},
		{blanks[1:] + ")", 0, impl.MaxText - 1}, {blanks[1:] + "(", 0, impl.MaxText}, {"(" + blanks[1:], 0, impl.MaxText},
	} {
		if got, bad := impl.ReadAll(c.s); bad != c.bad || len(got) != c.size {
			t.Errorf("ReadAll of %d bytes = %d data, %d, not %d, %d", len(c.s), len(got), bad, c.size, c.bad)
		}
	}
}

func TestReadAllSmallTexts(t *testing.T) {
	everyText("a1-( )\nA", 5, func(s string) { checkRead(t, s) })
	everyText("() x", 8, func(s string) { checkRead(t, s) })
}

func TestReadAllEachByte(t *testing.T) {
	for b := range 256 {
		sign := string([]byte{byte(b)})
		for _, s := range []string{sign, "x" + sign, "(" + sign + ")", "(x " + sign + " y)", "(x" + sign, "x) " + sign, "(1" + sign + ")"} {
			checkRead(t, s)
		}
	}
}

func TestReadAllLongTexts(t *testing.T) {
	parts := []string{" ", "\n", "(", "(", "(", ")", ")", ")", " x ", " 12 ", " -7 ", " () ", "(y)", " ... "}
	for seed := range 300 {
		s := longText(uint64(seed), parts, impl.MaxText/2)
		checkRead(t, s)
		// As many brackets ahead and behind as are wanting make it fit.
		wanting, least := 0, 0
		for _, sign := range s {
			wanting += strings.Count("(", string(sign)) - strings.Count(")", string(sign))
			least = min(least, wanting)
		}
		checkRead(t, strings.Repeat("(", -least)+s+strings.Repeat(")", wanting-least))
	}
}

// wrongDats are each wrong by one thing alone.
func wrongDats() map[string]impl.Dat {
	list := map[string]impl.Dat{
		"zero":                      {},
		"an int with S":             {Op: impl.DtNum, S: "x"},
		"an int with a kid":         {Op: impl.DtNum, Kids: []impl.Dat{num(1)}},
		"an int with an empty list": {Op: impl.DtNum, Kids: []impl.Dat{listOf()}},
		"an int below 0 in At":      {Op: impl.DtNum, At: -1},
		"a symbol with N":           {Op: impl.DtSym, S: "x", N: 1},
		"a symbol with N below 0":   {Op: impl.DtSym, S: "x", N: -1},
		"a symbol with a kid":       {Op: impl.DtSym, S: "x", Kids: []impl.Dat{sym("x")}},
		"a symbol below 0 in At":    {Op: impl.DtSym, S: "x", At: -1},
		"a symbol without S":        {Op: impl.DtSym},
		"a list with N":             {Op: impl.DtList, N: 1},
		"a list with N below 0":     {Op: impl.DtList, N: -1},
		"a list with S":             {Op: impl.DtList, S: "x"},
		"a list with kids and S":    {Op: impl.DtList, S: "x", Kids: []impl.Dat{sym("x")}},
		"a list with kids and N":    {Op: impl.DtList, N: 2, Kids: []impl.Dat{sym("x"), num(2)}},
		"a list below 0 in At":      {Op: impl.DtList, At: -1},
		"a list far below 0 in At":  {Op: impl.DtList, At: math.MinInt},
	}
	for _, op := range []int{math.MinInt, -3, -2, -1, 4, 5, 1 << 32, 1<<32 + 1, math.MaxInt} {
		list["Op "+strconv.Itoa(op)] = impl.Dat{Op: op}
		list["Op with S "+strconv.Itoa(op)] = impl.Dat{Op: op, S: "x"}
		list["Op with kids "+strconv.Itoa(op)] = impl.Dat{Op: op, Kids: []impl.Dat{num(1)}}
	}
	for _, n := range []int{math.MinInt, leastWord - 1, greatestWord + 1, 1 << 32, math.MaxInt} {
		list["N "+strconv.Itoa(n)] = num(n)
	}
	for _, s := range []string{"A", "1", "-1", "1a", "a b", " ", "(", "()", "a)", "\n", "abcdefghijklm", "\u03bb", "\xff", "a\x00"} {
		list["S "+s] = sym(s)
	}
	return list
}

func TestDatsOkTakes(t *testing.T) {
	for _, list := range [][]impl.Dat{
		nil, {},
		{num(0)}, {num(leastWord)}, {num(greatestWord)}, {sym("x")}, {sym("...")}, {sym("_")}, {sym("abcdefghijkl")}, {listOf()},
		{num(1), sym("x"), listOf(num(2), listOf(), sym("y"))},
		{numAt(math.MaxInt, 1)}, {symAt(5, "x"), symAt(5, "x"), symAt(3, "y")}, {listAt(9, numAt(1, 1))},
		{{Op: impl.DtNum, Kids: []impl.Dat{}}}, {{Op: impl.DtSym, S: "x", Kids: []impl.Dat{}}},
	} {
		if !impl.DatsOk(list) {
			t.Errorf("DatsOk(%v) is false", list)
		}
	}
}

func TestDatsOkRefuses(t *testing.T) {
	for what, d := range wrongDats() {
		for where, list := range map[string][]impl.Dat{
			"alone":          {d},
			"behind right":   {num(1), listOf(sym("x"), num(2)), d},
			"ahead of right": {d, num(1), listOf(sym("x"))},
			"in a list":      {listOf(d)},
			"last in a list": {num(1), listOf(sym("x"), listOf(num(2), d))},
			"deep":           {listOf(within(d, impl.MaxNest-4), num(1))},
		} {
			if impl.DatsOk(list) {
				t.Errorf("DatsOk is true: %q, %s", what, where)
			}
		}
	}
}

func TestDatsOkNest(t *testing.T) {
	for lists := range 60 {
		for _, leaf := range []impl.Dat{num(1), sym("x"), listOf()} {
			d := within(leaf, lists)
			want := lists+1 <= impl.MaxNest
			for _, list := range [][]impl.Dat{{d}, {num(1), d}, {d, num(1)}, {listOf(), listOf(num(1)), d, listOf()}} {
				if got := impl.DatsOk(list); got != want {
					t.Errorf("DatsOk of %d within each other is %v", lists+1, got)
				}
			}
		}
	}
}

func TestDatsOkSize(t *testing.T) {
	for _, n := range []int{impl.MaxSize - 1, impl.MaxSize, impl.MaxSize + 1, 2 * impl.MaxSize, 100 * impl.MaxSize} {
		want := n <= impl.MaxSize
		for _, list := range [][]impl.Dat{
			many(num(1), n),
			many(listOf(), n),
			{listOf(many(sym("x"), n-1)...)},
			append([]impl.Dat{listOf(many(num(1), 700)...)}, many(num(1), n-701)...),
			append(many(num(1), n-701), listOf(many(num(1), 700)...)),
			append(many(listOf(num(1), num(2)), (n-2)/3), many(num(1), n-(n-2)/3*3)...),
			{within(listOf(many(num(1), n-10)...), 9)},
		} {
			if got := impl.DatsOk(list); got != want {
				t.Errorf("DatsOk of %d in all is %v", n, got)
			}
		}
	}
}

// A datum may hold itself, or be far greater than what memory holds of it; DatsOk still ends.
func TestDatsOkEnds(t *testing.T) {
	round := make([]impl.Dat, 1)
	round[0] = listOf(round...)
	two := make([]impl.Dat, 2)
	two[0], two[1] = num(1), impl.Dat{Op: impl.DtList, Kids: two}
	broad := num(1)
	for range 60 {
		broad = listOf(many(broad, 40)...)
	}
	for _, list := range [][]impl.Dat{round, two, {broad}, {within(num(1), 300000)}} {
		if impl.DatsOk(list) {
			t.Error("DatsOk is true of what has no end")
		}
	}
}

func TestDatTextTable(t *testing.T) {
	for _, c := range []struct {
		d    impl.Dat
		want string
	}{
		{num(0), "0"}, {num(-70), "-70"}, {num(leastWord), "-1073741824"}, {num(greatestWord), "1073741823"},
		{sym("x"), "x"}, {sym("..."), "..."}, {sym("abcdefghijkl"), "abcdefghijkl"},
		{listOf(), "()"}, {listOf(num(1)), "(1)"}, {listOf(num(1), sym("x")), "(1 x)"},
		{listOf(listOf()), "(())"}, {listOf(listOf(), listOf()), "(() ())"},
		{listOf(listOf(sym("x")), num(-1), listOf(listOf(num(2), num(3)))), "((x) -1 ((2 3)))"},
		{listAt(7, numAt(3, 1), symAt(-9, "x")), "(1 x)"},
		// What is wrong is told by its Op alone.
		{impl.Dat{}, "?"}, {impl.Dat{Op: -1, N: 7, S: "x", Kids: []impl.Dat{num(1)}}, "?"}, {impl.Dat{Op: 4}, "?"}, {impl.Dat{Op: math.MinInt}, "?"}, {impl.Dat{Op: math.MaxInt, S: "x"}, "?"}, {impl.Dat{Op: 1<<32 + 1}, "?"},
		{num(math.MinInt), "-9223372036854775808"}, {num(math.MaxInt), "9223372036854775807"}, {num(greatestWord + 1), "1073741824"},
		{impl.Dat{Op: impl.DtNum, N: 7, S: "x", Kids: []impl.Dat{num(1)}}, "7"},
		{sym(""), ""}, {sym("A b("), "A b("}, {sym("\xff\n"), "\xff\n"}, {impl.Dat{Op: impl.DtSym, S: "x", N: 7, Kids: []impl.Dat{num(1)}}, "x"},
		{impl.Dat{Op: impl.DtList, S: "x", N: 7, Kids: []impl.Dat{num(1)}}, "(1)"},
		{listOf(impl.Dat{}), "(?)"}, {listOf(num(1), impl.Dat{Op: 9}, listOf(impl.Dat{Op: -2}, impl.Dat{})), "(1 ? (? ?))"},
		{listOf(sym(""), sym("")), "( )"}, {listOf(sym(""), sym(""), num(1)), "(  1)"}, {listOf(sym("("), num(1), sym(" "), sym(")")), "(( 1   ))"},
	} {
		if got := impl.DatText(c.d); got != c.want {
			t.Errorf("DatText(%v) = %q, not %q", c.d, got, c.want)
		}
	}
}

func TestSameDatTakes(t *testing.T) {
	for _, c := range []struct{ a, b impl.Dat }{
		{num(7), num(7)}, {sym("x"), sym("x")}, {listOf(), listOf()}, {listOf(num(1), sym("x")), listOf(num(1), sym("x"))},
		{numAt(3, 7), numAt(9, 7)}, {symAt(-1, "x"), symAt(math.MaxInt, "x")}, {listAt(1, numAt(2, 7)), listAt(5, numAt(6, 7))},
		{within(numAt(4, 1), 300), within(numAt(5, 1), 300)},
		{impl.Dat{Op: impl.DtList}, impl.Dat{Op: impl.DtList, Kids: []impl.Dat{}}}, {impl.Dat{Op: impl.DtNum, Kids: []impl.Dat{}}, num(0)},
		// What is wrong is like itself, too.
		{impl.Dat{}, impl.Dat{}}, {impl.Dat{Op: -1, N: 7, S: "A", Kids: []impl.Dat{num(1)}}, impl.Dat{Op: -1, At: 3, N: 7, S: "A", Kids: []impl.Dat{numAt(8, 1)}}},
	} {
		if !impl.SameDat(c.a, c.b) || !impl.SameDat(c.b, c.a) {
			t.Errorf("SameDat(%v, %v) is false", c.a, c.b)
		}
	}
	for what, d := range wrongDats() {
		moved := d
		moved.At = 77
		if !impl.SameDat(d, moved) {
			t.Errorf("SameDat is false of what is alike but for At: %q", what)
		}
	}
}

func TestSameDatRefuses(t *testing.T) {
	for _, c := range []struct{ a, b impl.Dat }{
		{num(7), num(8)}, {num(7), num(-7)}, {num(1), num(1<<32 + 1)}, {sym("x"), sym("y")}, {sym("x"), sym("xx")}, {sym("x"), sym("")},
		{num(0), listOf()}, {impl.Dat{}, num(0)}, {impl.Dat{Op: 1}, impl.Dat{Op: 2}}, {impl.Dat{Op: -1}, impl.Dat{Op: 1}}, {impl.Dat{Op: impl.DtSym, S: "x"}, impl.Dat{Op: impl.DtList, S: "x"}},
		{num(7), impl.Dat{Op: impl.DtNum, N: 7, S: "x"}}, {num(7), impl.Dat{Op: impl.DtNum, N: 7, Kids: []impl.Dat{num(7)}}},
		{sym("x"), impl.Dat{Op: impl.DtSym, S: "x", N: 1}}, {sym("x"), impl.Dat{Op: impl.DtSym, S: "x", Kids: []impl.Dat{listOf()}}},
		{listOf(), impl.Dat{Op: impl.DtList, N: 1}}, {listOf(), impl.Dat{Op: impl.DtList, S: "x"}},
		{listOf(), listOf(listOf())}, {listOf(num(1)), listOf(num(1), num(1))}, {listOf(num(1), num(2)), listOf(num(2), num(1))}, {listOf(num(1)), num(1)}, {listOf(listOf(), num(1)), listOf(num(1), listOf())},
		{listOf(listOf(num(1)), listOf()), listOf(listOf(), listOf(num(1)))}, {listOf(listOf(num(1), num(2))), listOf(listOf(num(1)), num(2))},
		{sym("(x)"), listOf(sym("x"))}, {sym("1"), num(1)},
	} {
		for _, about := range []func(impl.Dat) impl.Dat{
			func(d impl.Dat) impl.Dat { return d },
			func(d impl.Dat) impl.Dat { return listOf(d) },
			func(d impl.Dat) impl.Dat { return listOf(d, num(1)) },
			func(d impl.Dat) impl.Dat { return listOf(sym("x"), listOf(num(1), d), num(2)) },
			func(d impl.Dat) impl.Dat { return within(d, 30) },
			func(d impl.Dat) impl.Dat { return within(listOf(num(1), num(2), d), 17) },
		} {
			a, b := about(c.a), about(c.b)
			if impl.SameDat(a, b) || impl.SameDat(b, a) {
				t.Errorf("SameDat(%v, %v) is true", a, b)
			}
		}
	}
}

// dataMaker makes data by a fixed rule, so that a test is the same each time it is run.
type dataMaker struct {
	seed uint64
}

func (m *dataMaker) pick(n int) int {
	m.seed = m.seed*6364136223846793005 + 1442695040888963407
	return int(m.seed>>40) % n
}

func (m *dataMaker) dat(deep int) impl.Dat {
	names := []string{"x", "y", "lambda", "...", "_", "-", "+1", "--1", "abcdefghijkl", "a-1", "."}
	numbers := []int{0, 1, -1, 10, -70, leastWord, greatestWord, 123456}
	switch {
	case deep > 1 && m.pick(2) == 0:
		return listAt(m.pick(900), m.dats(deep-1, 6)...)
	case m.pick(2) == 0:
		return numAt(m.pick(900), numbers[m.pick(len(numbers))])
	}
	return symAt(m.pick(900), names[m.pick(len(names))])
}

func (m *dataMaker) dats(deep, most int) []impl.Dat {
	list := make([]impl.Dat, m.pick(most))
	for i := range list {
		list[i] = m.dat(deep)
	}
	return list
}

func (m *dataMaker) spoil(list []impl.Dat) {
	if len(list) == 0 {
		return
	}
	d := &list[m.pick(len(list))]
	if len(d.Kids) > 0 && m.pick(4) > 0 {
		m.spoil(d.Kids)
		return
	}
	switch m.pick(5) {
	case 0:
		d.Op = m.pick(7) - 2
	case 1:
		d.At = m.pick(5) - 2
	case 2:
		d.N = []int{0, 1, leastWord - 1, greatestWord + 1}[m.pick(4)]
	case 3:
		d.S = []string{"", "x", "A", "1"}[m.pick(4)]
	case 4:
		d.Kids = []impl.Dat{num(1)}
	}
}

func datsText(list []impl.Dat) string {
	texts := make([]string, len(list))
	for i, d := range list {
		texts[i] = impl.DatText(d)
	}
	return strings.Join(texts, " ")
}

func sameDats(a, b []impl.Dat) bool {
	same := len(a) == len(b)
	for i := range min(len(a), len(b)) {
		same = same && impl.SameDat(a[i], b[i])
	}
	return same
}

func TestDatsOkOfMany(t *testing.T) {
	maker := dataMaker{seed: 3}
	count := [2]int{}
	for range 4000 {
		list := maker.dats(6, 6)
		for range 3 {
			want := rightDats(list)
			if got := impl.DatsOk(list); got != want {
				t.Fatalf("DatsOk(%v) is %v", list, got)
			}
			if want {
				count[1]++
			} else {
				count[0]++
			}
			maker.spoil(list)
		}
	}
	if count[0] < 1000 || count[1] < 1000 {
		t.Errorf("%d wrong and %d right ones are too few", count[0], count[1])
	}
}

// P3: data that are right are told, and read again they are what they were.
func TestToldIsReadAsItWas(t *testing.T) {
	maker := dataMaker{seed: 1}
	looked := 0
	for range 3000 {
		list := maker.dats(1+maker.pick(9), 6)
		s := datsText(list)
		if !rightDats(list) || len(s) > impl.MaxText {
			continue
		}
		looked++
		got, bad := impl.ReadAll(s)
		if bad != -1 || !sameDats(got, list) || datsText(got) != s {
			t.Fatalf("%q was read as %v, %d, not as %v", s, got, bad, list)
		}
	}
	if looked < 1000 {
		t.Errorf("only %d were looked at", looked)
	}
	for _, list := range [][]impl.Dat{
		{within(listOf(), impl.MaxNest-1)}, {within(num(leastWord), impl.MaxNest-1)}, many(num(7), impl.MaxSize), many(listOf(), 1000), {listOf(many(sym("x"), impl.MaxSize-1)...)},
	} {
		if got, bad := impl.ReadAll(datsText(list)); bad != -1 || !sameDats(got, list) {
			t.Errorf("%.60q was not read as it was: %d data, %d", datsText(list), len(got), bad)
		}
	}
}

// However it was written, what was read is told shortly, read again as the same, and each begins where it is told.
func TestReadIsToldAndReadAgain(t *testing.T) {
	parts := []string{" ", "\n", "(", "(", ")", ")", " x ", "\n12 ", " -7(", " let)", "()", " -\n", ")1 "}
	looked := 0
	for seed := range 20000 {
		s := longText(uint64(seed), parts, 40)
		list, bad := impl.ReadAll(s)
		if bad != -1 {
			continue
		}
		looked++
		again, bad := impl.ReadAll(datsText(list))
		if bad != -1 || !sameDats(again, list) {
			t.Fatalf("%q was told as %q", s, datsText(list))
		}
		standWhereTold(t, s, list)
	}
	if looked < 200 {
		t.Errorf("only %d were looked at", looked)
	}
}

func standWhereTold(t *testing.T, s string, list []impl.Dat) {
	t.Helper()
	for _, d := range list {
		begins := impl.DatText(d)
		if d.Op == impl.DtList {
			begins = "("
		}
		if !strings.HasPrefix(s[d.At:], begins) {
			t.Fatalf("%v does not begin in %q where it is told", d, s)
		}
		standWhereTold(t, s, d.Kids)
	}
}

// Data far deeper than DatsOk takes are still told and held together.
func TestDeepDataAreAnswered(t *testing.T) {
	const lists = 300000
	a, b := within(num(1), lists), within(num(2), lists)
	if want := strings.Repeat("(", lists) + "1" + strings.Repeat(")", lists); impl.DatText(a) != want {
		t.Error("a deep datum is told otherwise")
	}
	if !impl.SameDat(a, a) || impl.SameDat(a, b) {
		t.Error("deep data are held together otherwise")
	}
}

func TestReadAllAnswerIsNew(t *testing.T) {
	s := "(x (1 2) ()) y (z (w) (v))"
	list, _ := impl.ReadAll(s)
	var spoilAll func(list []impl.Dat)
	spoilAll = func(list []impl.Dat) {
		for i := range list {
			spoilAll(list[i].Kids)
			list[i] = impl.Dat{Op: 9, At: 9, N: 9, S: "other"}
		}
		for i := range list[:cap(list)] {
			list[:cap(list)][i].Op = 9
		}
	}
	// What is done to one list of the answer is not to be seen in another.
	spoilAll(list[0].Kids)
	if got := impl.DatText(list[1]) + impl.DatText(list[2]); got != "y(z (w) (v))" {
		t.Errorf("lists of one answer share memory: %q", got)
	}
	spoilAll(list[2].Kids[1].Kids)
	if got := impl.DatText(list[2]); got != "(z (?) (v))" {
		t.Errorf("lists of one answer share memory: %q", got)
	}
	spoilAll(list)
	checkRead(t, s)
}

func TestDataAreNotWritten(t *testing.T) {
	fresh := func() []impl.Dat {
		kids := append(make([]impl.Dat, 0, 8), numAt(3, 1), symAt(5, "x"))
		list := append(make([]impl.Dat, 0, 8), listAt(2, kids...), impl.Dat{Op: -1, S: "A"})
		list[0].Kids = kids
		return list
	}
	a, b := fresh(), fresh()
	impl.DatsOk(a)
	impl.DatsOk(a[:1])
	impl.DatText(a[0])
	impl.DatText(a[1])
	impl.SameDat(a[0], b[0])
	impl.SameDat(a[0], a[1])
	asItWas := fresh()
	for _, list := range [][]impl.Dat{a, b} {
		if !reflect.DeepEqual(list[:cap(list)], asItWas[:cap(asItWas)]) || !reflect.DeepEqual(list[0].Kids[:8], asItWas[0].Kids[:8]) {
			t.Errorf("an argument was written into: %v", list[:cap(list)])
		}
	}
}

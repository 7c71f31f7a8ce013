package tests

import (
	"math"
	"slices"
	"strconv"
	"testing"

	"loop.example/g00396/impl"
)

// The second ones below hand on all Gots as one list, those of a turn first.

func firstGot(list []impl.Got, name string) (impl.Got, bool) {
	at := slices.IndexFunc(list, func(got impl.Got) bool { return got.Name == name })
	if at < 0 {
		return impl.Got{}, false
	}
	return list[at], true
}

func deepGots(t impl.Stx, list []impl.Got) []impl.Got {
	var deep []impl.Got
	for _, name := range namesOf(t) {
		if got, ok := firstGot(list, name); ok && got.Deep > 0 {
			deep = append(deep, got)
		}
	}
	return deep
}

func turnOf(deep []impl.Got, turn int, list []impl.Got) []impl.Got {
	var out []impl.Got
	for _, got := range deep {
		one := got.Some[turn]
		one.Name = got.Name
		out = append(out, one)
	}
	return append(out, list...)
}

// oftenOf is what a part that `...` stands behind becomes.
func oftenOf(t impl.Stx, list []impl.Got) ([]impl.Stx, bool) {
	deep := deepGots(t, list)
	if len(deep) == 0 || slices.ContainsFunc(deep, func(got impl.Got) bool { return len(got.Some) != len(deep[0].Some) }) {
		return nil, false
	}
	var out []impl.Stx
	for turn := range deep[0].Some {
		x, ok := draftOf(t, turnOf(deep, turn, list))
		if !ok {
			return nil, false
		}
		out = append(out, x)
	}
	return out, true
}

func draftsOf(kids []impl.Stx, list []impl.Got) ([]impl.Stx, bool) {
	if len(kids) == 0 {
		return nil, true
	}
	var first []impl.Stx
	ok, taken := false, 1
	if len(kids) > 1 && kids[1].Op == impl.DtSym && kids[1].S == "..." {
		first, ok = oftenOf(kids[0], list)
		taken = 2
	} else {
		first = make([]impl.Stx, 1)
		first[0], ok = draftOf(kids[0], list)
	}
	rest, restOk := draftsOf(kids[taken:], list)
	return append(first, rest...), ok && restOk
}

func draftOf(t impl.Stx, list []impl.Got) (impl.Stx, bool) {
	switch {
	case t.Op == impl.DtSym && t.S == "...":
		return impl.Stx{}, false
	case t.Op == impl.DtSym:
		if got, ok := firstGot(list, t.S); ok {
			return got.One, got.Deep == 0
		}
	}
	kids, ok := draftsOf(t.Kids, list)
	t.Kids = kids
	return t, ok
}

func fillOf(t impl.Stx, list []impl.Got) (impl.Stx, bool) {
	if !rightStx(t) {
		return impl.Stx{}, false
	}
	x, ok := draftOf(t, list)
	if !ok || !rightStx(x) {
		return impl.Stx{}, false
	}
	return x, true
}

// checkFill is of templates and Gots that fill few parts.
func checkFill(t *testing.T, p impl.Stx, list []impl.Got) bool {
	t.Helper()
	want, fills := fillOf(p, list)
	if got, ok := impl.Fill(p, list); ok != fills || !equalStx(got, want) {
		t.Fatalf("Fill(%s, %s) = %s, %v, not %s, %v", shown(p), shown(list), shown(got), ok, shown(want), fills)
	}
	return fills
}

func checkUnfilled(t *testing.T, what string, p impl.Stx, list []impl.Got) {
	t.Helper()
	if x, ok := impl.Fill(p, list); ok || !equalStx(x, impl.Stx{}) {
		t.Errorf("%s: Fill(%s, %s) = %s, %v", what, shown(p), shown(list), shown(x), ok)
	}
}

// textOf is what stands in x, with no set and no place.
func textOf(x impl.Stx) string {
	return impl.DatText(impl.DatOf(x))
}

// fewGots: a and b stand for one thing; e for none of several, f for one of several, s, m and w for three; n and v for
// three of several, not as many in each.
func fewGots(t *testing.T) []impl.Got {
	got, ok := impl.Match(written(t, "(a b (e ...) (f ...) (s ...) (m ...) ((n ...) ...) ((w (v ...)) ...))"),
		written(t, "(1 (p q) () (7) (2 3 4) (x (y) 5) ((1 2) () (3)) ((8 (u)) (9 (u v)) (10 (t))))"))
	if !ok {
		t.Fatal("there are no Gots")
	}
	return got
}

func TestFillTable(t *testing.T) {
	gots := fewGots(t)
	for s, want := range map[string]string{
		"a": "1", "b": "(p q)", "c": "c", "7": "7", "-1": "-1", "()": "()", "(())": "(())", "(a)": "(1)", "(a a)": "(1 1)", "(a c b)": "(1 c (p q))", "(b b)": "((p q) (p q))", "(if a (b) (else))": "(if 1 ((p q)) (else))", "_": "_", "(_ a _)": "(_ 1 _)", "(.. ....)": "(.. ....)",
		"(e ...)": "()", "(f ...)": "(7)", "(s ...)": "(2 3 4)", "(c e ...)": "(c)", "(e ... c)": "(c)", "(c e ... d)": "(c d)", "(a s ... b)": "(1 2 3 4 (p q))", "(s ... s ...)": "(2 3 4 2 3 4)", "(s ... e ... f ...)": "(2 3 4 7)", "(e ... e ... e ...)": "()", "((s ...) (m ...))": "((2 3 4) (x (y) 5))",
		"((s) ...)": "((2) (3) (4))", "((s s) ...)": "((2 2) (3 3) (4 4))", "((s m) ...)": "((2 x) (3 (y)) (4 5))", "((a s c) ...)": "((1 2 c) (1 3 c) (1 4 c))", "((s b) ... m ...)": "((2 (p q)) (3 (p q)) (4 (p q)) x (y) 5)", "((m (1 (s))) ... (e) ...)": "((x (1 (2))) ((y) (1 (3))) (5 (1 (4))))", "((_ s _) ...)": "((_ 2 _) (_ 3 _) (_ 4 _))",
		"((e a) ...)": "()", "(((e ...) f) ...)": "", "((n ...) ...)": "((1 2) () (3))", "((s n ...) ...)": "((2 1 2) (3) (4 3))", "(((n s) ...) ...)": "(((1 2) (2 2)) () ((3 4)))", "((n ... s n ...) ...)": "((1 2 2 1 2) (3) (3 4 3))", "((w v ...) ...)": "((8 u) (9 u v) (10 t))", "(((w v m) ...) ...)": "(((8 u x)) ((9 u (y)) (9 v (y))) ((10 t 5)))", "(((a v) ... w) ...)": "(((1 u) 8) ((1 u) (1 v) 9) ((1 t) 10))",
		"((n ... v ...) ...)": "((1 2 u) (u v) (3 t))", "(((v (n ...)) ...) ...)": "",
	} {
		for _, set := range [][]int{nil, {0}, {2, 5}} {
			p := written(t, s, set...)
			if want == "" {
				checkUnfilled(t, s, p, gots)
				continue
			}
			if x, ok := impl.Fill(p, gots); !ok || textOf(x) != want || !checkFill(t, p, gots) {
				t.Errorf("Fill of %s is %s, %v, not %s", s, textOf(x), ok, want)
			}
		}
	}
}

func TestFillRefuses(t *testing.T) {
	gots := fewGots(t)
	for why, texts := range map[string][]string{
		"it is too deep":          {"s", "e", "n", "(s)", "(a s)", "(c (m))", "(n ...)", "((n) ...)", "((n s) ...)", "((s ...) s)", "((s ...) (m))", "(((v) ...) ...  v)", "((w v) ...)", "((s n) ...)", "(e)", "((e) e ...)", "(a f)"},
		"no name stands for many": {"(a ...)", "(c ...)", "(7 ...)", "(() ...)", "((a c) ...)", "(b ...)", "(_ ...)", "(s ... a ...)", "(((s) ...) ... )", "((s ...) ...)", "((s (m ...)) ...)", "(((n ...) ...) ...)", "((n ... s ...) ...)", "((e a ...) c ...)", "(f ... 1 ...)", "((_ 1) ...)"},
		"they are not as many":    {"((s e) ...)", "((e s) ...)", "((s f) ...)", "((f s) ...)", "((e f) ...)", "((s m f) ...)", "((s (a (f)) m) ...)", "((n e) ...)", "((n f) ...)", "((f w) ...)", "(((n v) ...) ...)", "((s ... f) ...)", "((e (f ...)) ...)"},
		"`...` stands elsewhere":  {"...", "(...)", "(... a)", "(... s)", "(s ... ...)", "(e ... ...)", "(... ...)", "(... ... ...)", "(... s ...)", "((...) ...)", "((s ...) (...))", "((... s) ...)", "(a (... s ...) c)", "(s ... ... ...)", "(s ... c ... d)", "((n ...) ... ...)", "(n ... ...)", "((s ... ...) c)", "(f ... (a ...))", "((... e) ...  ...)"},
		"what is in it fails":     {"(a (b ...))", "((a) ... s ...)", "(s ... (m ... (...)))"},
	} {
		for _, s := range texts {
			for _, set := range [][]int{nil, {1, 4}} {
				p := written(t, s, set...)
				checkUnfilled(t, why+" in "+s, p, gots)
				checkFill(t, p, gots)
				checkUnfilled(t, why+" in a list about "+s, wlist(wnum(1), p, wsym("a")), gots)
			}
		}
	}
}

// What is filled has the place and the set of what stood in the template, or of what was got.
func TestFillKeepsPlacesAndSets(t *testing.T) {
	one := wat(40, wlist(wat(41, wsym("x", 5)), wat(43, wnum(-2)), wat(46, wlist())))
	some := []impl.Stx{wat(50, wsym("q", 0, 7)), wat(52, wnum(3)), wat(54, wlist(wat(55, wsym("...", 2))))}
	gots := []impl.Got{gotOne("a", one), gotEach("s", some...)}
	p := wat(3, wlist(wat(4, wsym("if", 1)), wat(7, wsym("a", 1, 2)), wat(9, wlist(wat(10, wsym("s", 9)), wat(12, wsym("k", 8)))), wat(15, wsym("...", 1)), wat(19, wlist()), wat(22, wnum(6))))
	x, ok := impl.Fill(p, gots)
	want := wat(3, wlist(p.Kids[0], one, wat(9, wlist(some[0], p.Kids[2].Kids[1])), wat(9, wlist(some[1], p.Kids[2].Kids[1])), wat(9, wlist(some[2], p.Kids[2].Kids[1])), p.Kids[4], p.Kids[5]))
	if !ok || !equalStx(x, want) {
		t.Errorf("Fill is %v, %v, not %v", x, ok, want)
	}
	for _, c := range []struct{ p, want impl.Stx }{{wat(8, wsym("a", 1)), one}, {wat(8, wsym("k", 1)), wat(8, wsym("k", 1))}, {wat(8, wnum(5)), wat(8, wnum(5))}, {wat(8, wlist()), wat(8, wlist())}} {
		if x, ok := impl.Fill(c.p, gots); !ok || !equalStx(x, c.want) {
			t.Errorf("Fill(%v) is %v, %v, not %v", c.p, x, ok, c.want)
		}
	}
}

// What was got is put as it is: names and `...` in it are not filled again.
func TestFillOnce(t *testing.T) {
	gots := []impl.Got{gotOne("a", wlist(wsym("b"), wsym("s"), wsym("..."))), gotOne("b", wlist(wsym("a"))), gotEach("s", wsym("a"), wsym("..."), wsym("s"))}
	for s, want := range map[string]string{"a": "(b s ...)", "(a b)": "((b s ...) (a))", "(s ...)": "(a ... s)", "((s a) ...)": "((a (b s ...)) (... (b s ...)) (s (b s ...)))", "(a s ... b)": "((b s ...) a ... s (a))"} {
		if x, ok := impl.Fill(written(t, s), gots); !ok || textOf(x) != want {
			t.Errorf("Fill of %s is %s, %v, not %s", s, textOf(x), ok, want)
		}
	}
}

func TestFillFirstGotCounts(t *testing.T) {
	one, two, three := wnum(1), wnum(2), wnum(3)
	for _, c := range []struct {
		gots []impl.Got
		p    string
		want string
	}{
		{[]impl.Got{gotOne("x", one), gotOne("x", two)}, "(x x)", "(1 1)"},
		{[]impl.Got{gotOne("y", three), gotOne("x", two), gotOne("x", one)}, "(x y)", "(2 3)"},
		{[]impl.Got{gotOne("x", one), gotEach("x", two, three)}, "(x)", "(1)"},
		{[]impl.Got{gotOne("x", one), gotEach("x", two, three)}, "(x ...)", ""},
		{[]impl.Got{gotOne("x", one), gotEach("x", two, three), gotEach("y", two, three)}, "((x y) ...)", "((1 2) (1 3))"},
		{[]impl.Got{gotEach("x", two, three), gotOne("x", one)}, "x", ""},
		{[]impl.Got{gotEach("x", two, three), gotOne("x", one)}, "(x ...)", "(2 3)"},
		{[]impl.Got{gotEach("x", two, three), gotEach("x", one)}, "(x ...)", "(2 3)"},
		{[]impl.Got{gotEach("x", two), gotEach("x", one, three), gotEach("y", one, one)}, "((x y) ...)", ""},
		{[]impl.Got{gotEach("x", two, three), gotEach("x", one), gotEach("y", one, one)}, "((x y) ...)", "((2 1) (3 1))"},
		{[]impl.Got{gotSome("x", 1), gotEach("x", one, two)}, "(x ...)", "()"},
		{[]impl.Got{gotSome("x", -1), gotOne("x", one)}, "x", ""},
		{[]impl.Got{gotOne("", one), gotOne("x", two), gotOne("X", three)}, "(x xx)", "(2 xx)"},
	} {
		p := written(t, c.p, 3)
		x, ok := impl.Fill(p, c.gots)
		if ok != (c.want != "") || ok && textOf(x) != c.want || !ok && !equalStx(x, impl.Stx{}) || checkFill(t, p, c.gots) != ok {
			t.Errorf("Fill of %s by %v is %v, %v, not %s", c.p, c.gots, x, ok, c.want)
		}
	}
}

// One of Some goes by the name that has it, whatever its own; it is meant ahead of all other Gots.
func TestFillTurnsAreByThatName(t *testing.T) {
	some := []impl.Got{gotOne("y", wnum(1)), gotOne("", wnum(2)), gotOne("z", wnum(3))}
	gots := []impl.Got{gotSome("x", 1, some...), gotOne("y", wnum(8)), gotEach("z", wnum(4), wnum(5), wnum(6)), gotOne("x", wnum(9))}
	for s, want := range map[string]string{"(x ...)": "(1 2 3)", "((x y) ...)": "((1 8) (2 8) (3 8))", "((x z y w) ...)": "((1 4 8 w) (2 5 8 w) (3 6 8 w))", "((y z x) ... y)": "((8 4 1) (8 5 2) (8 6 3) 8)"} {
		if x, ok := impl.Fill(written(t, s), gots); !ok || textOf(x) != want {
			t.Errorf("Fill of %s is %s, %v, not %s", s, textOf(x), ok, want)
		}
	}
	deep := []impl.Got{gotSome("x", 2, gotSome("a", 1, gotOne("b", wnum(1)), gotOne("c", wnum(2))), gotSome("x", 1)), gotOne("a", wnum(7)), gotEach("b", wnum(5), wnum(6))}
	for s, want := range map[string]string{"((x ...) ...)": "((1 2) ())", "(((x a) ... b) ...)": "(((1 7) (2 7) 5) (6))", "((x ... b x ...) ...)": "((1 2 5 1 2) (6))", "(((x b) ...) ...)": "(((1 5) (2 5)) ())"} {
		if x, ok := impl.Fill(written(t, s), deep); !ok || textOf(x) != want {
			t.Errorf("Fill of %s is %s, %v, not %s", s, textOf(x), ok, want)
		}
	}
}

// Gots whose Deep does not go with their One and Some are read by their Deep alone.
func TestFillByDeepAlone(t *testing.T) {
	one, other := wnum(1), wnum(2)
	full := func(deep int, some ...impl.Got) impl.Got {
		return impl.Got{Name: "x", Deep: deep, One: one, Some: some}
	}
	for _, c := range []struct {
		got  impl.Got
		p    string
		want string
	}{
		{full(0, gotOne("x", other), gotOne("x", other)), "x", "1"},
		{full(0, gotOne("x", other), gotOne("x", other)), "(x ...)", ""},
		{full(1, gotOne("x", other)), "x", ""},
		{full(1, gotOne("x", other)), "(x ...)", "(2)"},
		{full(1), "(x ...)", "()"},
		{full(1), "x", ""},
		{full(-1), "x", ""},
		{full(-1, gotOne("x", other)), "(x ...)", ""},
		{full(math.MinInt, gotOne("x", other)), "(x ...)", ""},
		{full(math.MinInt), "x", ""},
		{full(math.MaxInt, gotOne("x", other)), "(x ...)", "(2)"},
		{full(math.MaxInt), "x", ""},
		{full(2, gotOne("x", other), gotOne("x", one)), "(x ...)", "(2 1)"},
		{full(2, gotOne("x", other)), "((x ...) ...)", ""},
		{full(2), "((x ...) ...)", "()"},
		{full(7), "(x ...)", "()"},
		{full(1, full(1, gotOne("x", other))), "(x ...)", ""},
		{full(1, full(1, gotOne("x", other), gotOne("x", one)), full(1)), "((x ...) ...)", "((2 1) ())"},
		{full(1, full(5, full(3, gotOne("x", other)))), "(((x ...) ...) ...)", "(((2)))"},
		{full(1, full(0), full(1)), "(x ...)", ""},
		{full(1, full(0), full(-3)), "(x ...)", ""},
		{full(2, gotEach("x", other), full(0)), "((x ...) ...)", ""},
		{full(3, gotEach("x", other), gotOne("x", one)), "(a x ... a)", ""},
		{impl.Got{Name: "x"}, "y", "y"},
		{impl.Got{Name: "x"}, "x", ""},
		{impl.Got{Name: "x", Some: []impl.Got{gotOne("x", one)}}, "x", ""},
		{impl.Got{}, "x", "x"},
		{gotSome("x", 1, impl.Got{}), "(x ...)", ""},
	} {
		p, gots := written(t, c.p), []impl.Got{c.got}
		x, ok := impl.Fill(p, gots)
		if ok != (c.want != "") || ok && textOf(x) != c.want || !ok && !equalStx(x, impl.Stx{}) || checkFill(t, p, gots) != ok {
			t.Errorf("Fill of %s by %v is %v, %v, not %s", c.p, c.got, x, ok, c.want)
		}
	}
}

// A Got may have a name that no pattern gets: `_` is a symbol like another where it stands alone, and none of the names
// that are asked how often; `...` is always the one behind something.
func TestFillOddNames(t *testing.T) {
	gots := []impl.Got{gotOne("_", wnum(1)), gotOne("...", wnum(2)), gotEach("s", wnum(3), wnum(4))}
	for s, want := range map[string]string{"_": "1", "(_ a)": "(1 a)", "(s ... _)": "(3 4 1)", "((s _) ...)": "((3 1) (4 1))"} {
		if x, ok := impl.Fill(written(t, s), gots); !ok || textOf(x) != want {
			t.Errorf("Fill of %s is %s, %v, not %s", s, textOf(x), ok, want)
		}
	}
	deep := []impl.Got{gotEach("_", wnum(1), wnum(2)), gotEach("...", wnum(1), wnum(2)), gotEach("s", wnum(3), wnum(4))}
	for _, s := range []string{"...", "(...)", "(... ...)", "(... a)", "(_ ...)", "(s ... ...)", "(a ...)", "(s ... a ...)", "((s _) ...)"} {
		checkUnfilled(t, s, written(t, s), deep)
	}
	for _, s := range []string{"...", "(...)", "(... ...)", "(... a)", "(s ... ...)", "(a (...))", "((... s) ...)"} {
		checkUnfilled(t, s, written(t, s), gots)
	}
	if x, ok := impl.Fill(written(t, "(s ...)"), deep); !ok || textOf(x) != "(3 4)" {
		t.Errorf("Fill beside Gots of odd names is %v, %v", x, ok)
	}
}

// Dots within dots, as deep as there may be.
func TestFillDeep(t *testing.T) {
	for dots := 1; dots < impl.MaxNest; dots++ {
		p, x, got := wsym("x", 1), wsym("a", 2), gotOne("x", wsym("a", 2))
		for deep := 1; deep <= dots; deep++ {
			p, x, got = wlist(p, wsym("...", deep)), wlist(x, x), gotSome("x", deep, got, got)
			if deep > 8 {
				x.Kids, got.Some = x.Kids[:1], got.Some[:1]
			}
		}
		if made, ok := impl.Fill(p, []impl.Got{got}); !ok || !equalStx(made, x) {
			t.Errorf("by %d dots what is made is %v, %s", dots, ok, shown(made))
		}
		if made, ok := impl.Fill(p, []impl.Got{gotSome("x", dots)}); !ok || !equalStx(made, wlist()) {
			t.Errorf("by %d dots what is made of nothing is %v, %v", dots, made, ok)
		}
		checkUnfilled(t, "one less deep", p, got.Some[:1])
		checkUnfilled(t, "one deeper", p, []impl.Got{gotSome("x", dots+1, got)})
	}
}

// What is filled must be right: no more within each other than may be.
func TestFillNest(t *testing.T) {
	for about := range 22 {
		for within := range 25 {
			one := withinStx(wsym("a", 1), within)
			gots := []impl.Got{gotOne("x", one), gotEach("s", wnum(1), one)}
			p := withinStx(wsym("x"), about)
			x, ok := impl.Fill(p, gots)
			if want := about+within < impl.MaxNest; ok != want || ok && !equalStx(x, withinStx(one, about)) || !ok && !equalStx(x, impl.Stx{}) {
				t.Errorf("Fill of %d about %d is %v, %v", about, within, x, ok)
			}
			if about == 0 {
				continue
			}
			x, ok = impl.Fill(withinStx(wlist(wsym("s"), wsym("...")), about-1), gots)
			if want := about+within < impl.MaxNest; ok != want || ok && !equalStx(x, withinStx(wlist(wnum(1), one), about-1)) || !ok && !equalStx(x, impl.Stx{}) {
				t.Errorf("Fill of %d about dots of %d is %v, %v", about, within, x, ok)
			}
		}
	}
}

// several is a name that stands for x so often.
func several(name string, x impl.Stx, often int) impl.Got {
	got := gotSome(name, 1)
	for range often {
		got.Some = append(got.Some, gotOne(name, x))
	}
	return got
}

// What is filled must be right: no more in all than may be.
func TestFillSize(t *testing.T) {
	dots := wsym("...")
	for _, n := range []int{4, 10, impl.MaxSize - 1, impl.MaxSize, impl.MaxSize + 1, impl.MaxSize + 2, 3999, 4000, 4001, 4002, 9000} {
		for what, c := range map[string]struct {
			p    impl.Stx
			gots []impl.Got
			want impl.Stx
		}{
			"dots":         {wlist(wsym("s"), dots), []impl.Got{several("s", wnum(7), n-1)}, wlist(manyStx(wnum(7), n-1)...)},
			"numbers":      {wlist(wsym("x"), wnum(3)), []impl.Got{gotOne("x", wlist(manyStx(wnum(7), n-3)...))}, wlist(wlist(manyStx(wnum(7), n-3)...), wnum(3))},
			"one alone":    {wsym("x"), []impl.Got{gotOne("x", wlist(manyStx(wsym("y", 1), n-1)...))}, wlist(manyStx(wsym("y", 1), n-1)...)},
			"lists":        {wlist(wlist(wsym("s"), wsym("k")), dots, wlist(wnum(0), wnum(0))), []impl.Got{several("s", wnum(7), (n-4)/3)}, wlist(append(manyStx(wlist(wnum(7), wsym("k")), (n-4)/3), wlist(wnum(0), wnum(0)))...)},
			"one by turns": {wlist(wlist(wsym("s"), wsym("x")), dots), []impl.Got{several("s", wnum(7), (n-1)/10), gotOne("x", wlist(manyStx(wnum(2), 7)...))}, wlist(manyStx(wlist(wnum(7), wlist(manyStx(wnum(2), 7)...)), (n-1)/10)...)},
		} {
			x, ok := impl.Fill(c.p, c.gots)
			if want := rightStx(c.want); ok != want || ok && !equalStx(x, c.want) || !ok && !equalStx(x, impl.Stx{}) {
				t.Errorf("Fill to %d parts by %s is %v, %s", n, what, ok, shown(x))
			}
		}
	}
}

// A template as great as there may be is itself, and what is one greater is none.
func TestFillTemplateNestAndSize(t *testing.T) {
	gots := []impl.Got{gotOne("x", wnum(1))}
	for _, n := range []int{impl.MaxSize - 1, impl.MaxSize, impl.MaxSize + 1, 4000, 4001} {
		p := wlist(manyNames(n - 1)...)
		if x, ok := impl.Fill(p, gots); ok != (n <= impl.MaxSize) || ok && !equalStx(x, p) || !ok && !equalStx(x, impl.Stx{}) {
			t.Errorf("Fill of %d parts is %v, %s", n, ok, shown(x))
		}
	}
	for lists := range 40 {
		p := withinStx(wsym("y", 4), lists)
		if x, ok := impl.Fill(p, gots); ok != (lists < impl.MaxNest) || ok && !equalStx(x, p) || !ok && !equalStx(x, impl.Stx{}) {
			t.Errorf("Fill of %d within each other is %v, %v", lists+1, ok, x)
		}
	}
	// It would be little when filled, but the template itself is too much.
	pairs := wlist(slices.Repeat([]impl.Stx{wsym("e"), wsym("...")}, impl.MaxSize/2)...)
	checkUnfilled(t, "one part too many in the template", pairs, []impl.Got{gotSome("e", 1)})
	pairs.Kids = pairs.Kids[2:]
	if x, ok := impl.Fill(pairs, []impl.Got{gotSome("e", 1)}); !ok || !equalStx(x, wlist()) {
		t.Errorf("Fill of %d dots behind nothing is %s, %v", impl.MaxSize/2-1, shown(x), ok)
	}
}

// `...` is not filled itself, nor is what nothing is put for, so these do not count as looked at, however often they
// stand in what is.
func TestFillOfNothingOften(t *testing.T) {
	inner := wlist(slices.Repeat([]impl.Stx{wsym("e"), wsym("...")}, 20)...)
	for _, often := range []int{0, 1, 99, 100, 101, 200, 201, 1000, impl.MaxSize - 1, impl.MaxSize, 4000} {
		none := gotSome("e", 2)
		none.Some = slices.Repeat([]impl.Got{gotSome("e", 1)}, often)
		x, ok := impl.Fill(wlist(inner, wsym("...")), []impl.Got{none})
		if want := often < impl.MaxSize; ok != want || ok && !equalStx(x, wlist(manyStx(wlist(), often)...)) || !ok && !equalStx(x, impl.Stx{}) {
			t.Errorf("Fill of nothing %d times is %v, %s", often, ok, shown(x))
		}
	}
}

// What would be far too much is refused before it is made.
func TestFillEnds(t *testing.T) {
	big := wlist(manyStx(wsym("y", 1, 2, 3), impl.MaxSize-1)...)
	for _, one := range []impl.Stx{wnum(1), big} {
		p, got := wsym("x"), gotOne("x", one)
		for deep := 1; deep < impl.MaxNest; deep++ {
			p, got = wlist(p, wsym("...")), gotSome("x", deep, slices.Repeat([]impl.Got{got}, 60)...)
		}
		checkUnfilled(t, "very many", p, []impl.Got{got})
	}
	names := wlist(manyStx(wsym("x"), impl.MaxSize-1)...)
	checkUnfilled(t, "all of them great", names, []impl.Got{gotOne("x", big)})
	checkUnfilled(t, "all of them great, often", wlist(wlist(names.Kids[:1400]...), wsym("...")), []impl.Got{several("x", big, 4000)})
	checkUnfilled(t, "very many turns", wlist(wsym("x"), wsym("...")), []impl.Got{several("x", wnum(1), 100000)})
}

// What was got may hold itself.
func TestFillOfGotsWithoutEnd(t *testing.T) {
	round := make([]impl.Got, 2)
	round[0], round[1] = gotSome("x", 1, round...), gotOne("x", wnum(1))
	round[0].Some = round
	stx := make([]impl.Stx, 1)
	stx[0] = wlist(stx...)
	stx[0].Kids = stx
	gots := []impl.Got{gotSome("r", 1, round...), gotOne("w", stx[0]), gotEach("s", wnum(3), stx[0]), gotOne("a", wnum(1))}
	if x, ok := impl.Fill(written(t, "(a b)"), gots); !ok || textOf(x) != "(1 b)" {
		t.Errorf("Fill beside what has no end is %v, %v", x, ok)
	}
	for _, s := range []string{"w", "(a w)", "(s ...)", "(r ...)", "((r ...) ...)", "(((r ...) ...) ...)"} {
		checkUnfilled(t, s, written(t, s), gots)
	}
	checkUnfilled(t, "a template without end", stx[0], nil)
	checkUnfilled(t, "a template without end", wlist(wsym("a"), stx[0]), gots)
	checkUnfilled(t, "a very deep template", withinStx(wnum(1), 300000), gots)
	checkUnfilled(t, "a very deep One", wsym("x"), []impl.Got{gotOne("x", withinStx(wnum(1), 300000))})
}

func TestFillRefusesWhatIsNotRight(t *testing.T) {
	wrong := wrongSets()
	for what, d := range wrongDats() {
		wrong[what] = impl.StxOf(d, nil)
	}
	for what, bad := range wrong {
		for _, about := range aboutStx() {
			checkUnfilled(t, "a template with "+what, about(bad), nil)
			checkUnfilled(t, "a template with "+what, about(bad), []impl.Got{gotOne("x", wnum(1)), gotOne("", wnum(1))})
			checkUnfilled(t, "a template, often, with "+what, wlist(wlist(wsym("s"), about(bad)), wsym("...")), []impl.Got{gotSome("s", 1)})
			gots := []impl.Got{gotOne("g", about(bad)), gotEach("s", wnum(1), about(bad)), gotOne("k", wnum(2))}
			checkUnfilled(t, "a One with "+what, wsym("g"), gots)
			checkUnfilled(t, "a One with "+what, about(wsym("g")), gots)
			checkUnfilled(t, "one of Some with "+what, wlist(wsym("s"), wsym("...")), gots)
			if x, ok := impl.Fill(wlist(wsym("k"), wsym("h")), gots); !ok || textOf(x) != "(2 h)" {
				t.Errorf("beside Gots that are not asked, with %s, Fill is %v, %v", what, x, ok)
			}
		}
	}
}

// smallGots are ways in which x and y may have been got.
func smallGots() [][]impl.Got {
	one, two, three := wnum(1), wsym("q", 3), wlist(wnum(2))
	return [][]impl.Got{
		nil,
		{gotOne("x", one)},
		{gotSome("x", 1)},
		{gotEach("x", two)},
		{gotEach("x", one, two), gotOne("y", three)},
		{gotEach("y", one, three), gotEach("x", two, one)},
		{gotEach("x", one, two, three), gotEach("y", one)},
		{gotSome("x", 2, gotEach("x", one, two), gotSome("x", 1)), gotEach("y", three, two)},
		{gotSome("x", 2, gotEach("x", one), gotEach("x", two)), gotSome("y", 2, gotEach("y", two), gotEach("y", three, one))},
		{gotSome("x", 2), gotSome("y", 1)},
		{gotSome("x", 1, gotOne("x", one), gotEach("x", two)), gotSome("y", -1)},
		{gotOne("z", one), gotEach("x", one), gotOne("x", one), gotOne("y", wsym("Q"))},
	}
}

func TestFillSmallTrees(t *testing.T) {
	count := [2]int{}
	for parts := 1; parts <= 6; parts++ {
		everyTree([]impl.Stx{wsym("x", 1), wsym("y"), wsym("..."), wnum(1)}, parts, func(p impl.Stx) {
			for _, gots := range smallGots() {
				if checkFill(t, p, gots) {
					count[1]++
				} else {
					count[0]++
				}
			}
		})
	}
	if count[0] < 10000 || count[1] < 10000 {
		t.Errorf("%d that can't be filled and %d that can are too few", count[0], count[1])
	}
}

// template is made of those names and of others.
func (m *patternMaker) template(deep int, names []string) impl.Stx {
	switch {
	case deep > 1 && m.pick(4) > 0:
		var kids []impl.Stx
		for range m.pick(4) {
			kids = append(kids, m.template(deep-1, names))
			if m.pick(3) == 0 {
				kids = append(kids, wsym("...", m.set(false)...))
			}
		}
		return wat(m.pick(900), wlist(kids...))
	case m.pick(5) == 0:
		return wat(m.pick(900), wnum(m.pick(3)))
	case m.pick(5) == 0 || len(names) == 0:
		return wsym([]string{"_", "other", "if"}[m.pick(3)], m.set(false)...)
	}
	return wat(m.pick(900), wsym(names[m.pick(len(names))], m.set(false)...))
}

func TestFillOfMany(t *testing.T) {
	maker := patternMaker{dataMaker: dataMaker{seed: 31}}
	count := [2]int{}
	for round := range 6000 {
		maker.names = 0
		p := maker.pattern(1+maker.pick(4), round%2 == 0)
		gots, ok := impl.Match(p, maker.fitting(p))
		if !ok {
			continue
		}
		for range 6 {
			template := maker.template(1+maker.pick(4), impl.Names(p))
			for _, template := range []impl.Stx{template, maker.twist(template), maker.twist(p)} {
				if checkFill(t, template, gots) {
					count[1]++
				} else {
					count[0]++
				}
			}
		}
	}
	if count[0] < 10000 || count[1] < 10000 {
		t.Errorf("%d that can't be filled and %d that can are too few", count[0], count[1])
	}
}

// got makes Gots of names that are often the same, and of a Deep that often does not go with the rest.
func (m *patternMaker) got(deep int) impl.Got {
	got := impl.Got{Name: []string{"x", "y", "z", "_"}[m.pick(4)], Deep: deep}
	if m.pick(8) == 0 {
		got.Deep = m.pick(5) - 1
	}
	if deep == 0 || m.pick(8) == 0 {
		got.One = m.stx(2, m.pick(8) == 0)
	}
	for range m.pick(3) * min(deep, 1) {
		got.Some = append(got.Some, m.got(deep-1))
	}
	return got
}

func TestFillByOddGots(t *testing.T) {
	maker := patternMaker{dataMaker: dataMaker{seed: 32}}
	count := [2]int{}
	for range 30000 {
		var gots []impl.Got
		for range maker.pick(5) {
			gots = append(gots, maker.got(maker.pick(3)))
		}
		if checkFill(t, maker.template(1+maker.pick(4), []string{"x", "y", "z"}), gots) {
			count[1]++
		} else {
			count[0]++
		}
	}
	if count[0] < 8000 || count[1] < 8000 {
		t.Errorf("%d that can't be filled and %d that can are too few", count[0], count[1])
	}
}

// P7, at the limits of what is matched.
func TestWhatFitsIsFilledAgainAtTheLimits(t *testing.T) {
	dots := wsym("...")
	deep, x := wsym("x"), wsym("a", 1)
	for range impl.MaxNest - 1 {
		deep, x = wlist(deep, dots), wlist(x)
	}
	names := wlist(manyNames(impl.MaxSize - 1)...)
	empty := wlist(manyStx(wlist(), impl.MaxSize-1)...)
	for what, c := range map[string]struct{ p, x impl.Stx }{
		"deep dots":      {deep, x},
		"a name":         {wsym("x"), x},
		"many names":     {names, wlist(manyStx(wnum(1), impl.MaxSize-1)...)},
		"many by dots":   {wlist(wsym("x"), dots), wlist(manyStx(wsym("y", 4), impl.MaxSize-1)...)},
		"many of none":   {wlist(wlist(wsym("x"), dots), dots), empty},
		"many, one each": {wlist(wlist(wsym("x")), dots), wlist(manyStx(wlist(wnum(1)), impl.MaxSize/2-1)...)},
		"many, all none": {wlist(wlist(wlist(wlist(wsym("x"), wsym("y")), dots), dots), dots), empty},
	} {
		if !checkMadeOfGot(t, c.p, c.x) {
			t.Errorf("it does not fit: %s", what)
		}
	}
}

// P8: without names that were got a template is itself.
func checkItself(t *testing.T, p impl.Stx, list []impl.Got) {
	t.Helper()
	if x, ok := impl.Fill(p, list); !ok || !equalStx(x, p) || !impl.SameStx(x, p) {
		t.Fatalf("Fill(%s, %s) is not itself: %s, %v", shown(p), shown(list), shown(x), ok)
	}
}

func TestTemplateIsItself(t *testing.T) {
	others := []impl.Got{gotOne("other", wnum(1)), gotEach("", wnum(1)), gotOne("X", wsym("x", 9)), gotSome("others", 4)}
	for parts := 1; parts <= 6; parts++ {
		everyTree([]impl.Stx{wat(3, wsym("x", 1)), wsym("_"), wsym("...."), wat(9, wnum(1))}, parts, func(p impl.Stx) {
			checkItself(t, p, nil)
			checkItself(t, p, others)
		})
	}
	maker := patternMaker{dataMaker: dataMaker{seed: 34}}
	for range 3000 {
		p := maker.stx(5, false)
		if rightStx(p) && !slices.Contains(wordsOf(p), "...") {
			checkItself(t, p, nil)
			checkItself(t, p, others)
		} else {
			checkUnfilled(t, "dots without names", p, nil)
		}
	}
}

// P8: what is filled is right.
func TestWhatIsFilledIsRight(t *testing.T) {
	maker := patternMaker{dataMaker: dataMaker{seed: 35}}
	count := [2]int{}
	for range 10000 {
		gots := []impl.Got{}
		for range maker.pick(5) {
			gots = append(gots, maker.got(maker.pick(3)))
		}
		p := maker.template(1+maker.pick(5), []string{"x", "y", "z"})
		if maker.pick(8) == 0 {
			maker.carry(&p, true)
		}
		x, ok := impl.Fill(p, gots)
		if ok && (!impl.StxOk(x) || !rightStx(x)) {
			t.Fatalf("Fill(%s, %s) is not right: %s", shown(p), shown(gots), shown(x))
		}
		if !ok {
			count[0]++
		} else {
			count[1]++
		}
	}
	if count[0] < 1000 || count[1] < 1000 {
		t.Errorf("%d that can't be filled and %d that can are too few", count[0], count[1])
	}
}

// roomyGots have spare room behind each list, with something in it.
func roomyGots(list []impl.Got) []impl.Got {
	out := make([]impl.Got, 0, len(list)+2)
	for _, got := range list {
		got.One, got.Some = roomyStx(got.One), roomyGots(got.Some)
		out = append(out, got)
	}
	for i := len(out); i < cap(out); i++ {
		out[:cap(out)][i] = impl.Got{Name: "spare" + strconv.Itoa(i), Deep: 1}
	}
	return out
}

// widenedGots are the list with its spare room as part of it.
func widenedGots(list []impl.Got) []impl.Got {
	var out []impl.Got
	for _, got := range list[:cap(list)] {
		got.One, got.Some = widened(got.One), widenedGots(got.Some)
		out = append(out, got)
	}
	return out
}

// filling makes a template and Gots that it is filled by.
func (m *patternMaker) filling() (impl.Stx, []impl.Got) {
	for {
		m.names = 0
		p := m.pattern(4, true)
		gots, _ := impl.Match(p, m.fitting(p))
		template := m.template(4, impl.Names(p))
		if m.pick(3) == 0 {
			template = p
		}
		if x, ok := fillOf(template, gots); ok && len(wordsOf(x)) > 4 {
			return template, gots
		}
	}
}

func TestFillDoesNotWrite(t *testing.T) {
	maker := patternMaker{dataMaker: dataMaker{seed: 36}}
	for round := range 600 {
		plain, data := maker.filling()
		if round%3 == 0 {
			plain = maker.twist(plain)
		}
		p, gots := roomyStx(plain), roomyGots(data)
		for range 2 {
			impl.Fill(p, gots)
		}
		if !equalStx(widened(p), widened(roomyStx(plain))) || !equalGots(widenedGots(gots), widenedGots(roomyGots(data))) {
			t.Fatalf("an argument was written into: %s, %s", shown(widened(p)), shown(widenedGots(gots)))
		}
	}
}

// What is answered is not seen to change, whatever is done to what was handed in or answered elsewhere, and the other way about.
func TestFillAnswersAreNew(t *testing.T) {
	maker := patternMaker{dataMaker: dataMaker{seed: 37}}
	for range 600 {
		plain, data := maker.filling()
		want, _ := fillOf(plain, data)
		want = wholeStx(want)
		p, gots := roomyStx(plain), roomyGots(data)
		x, _ := impl.Fill(p, gots)
		other, _ := impl.Fill(p, gots)
		spoilStx(other)
		if !equalStx(x, want) {
			t.Fatalf("what %s is filled to shares memory with another answer", shown(plain))
		}
		if !equalStx(widened(p), widened(roomyStx(plain))) || !equalGots(widenedGots(gots), widenedGots(roomyGots(data))) {
			t.Fatalf("what %s is filled to shares memory with an argument", shown(plain))
		}
		spoilStx(p)
		spoilGots(gots)
		if !equalStx(x, want) {
			t.Fatalf("what %s is filled to changes with an argument", shown(plain))
		}
	}
}

// No two lists of one answer share memory, though one thing that was got stands in it often: where one kid is written
// into, only that one is another.
func TestFilledPartsAreApart(t *testing.T) {
	gots := []impl.Got{gotOne("a", wlist(wsym("p", 1, 2), wlist(wsym("q", 3)))), gotEach("s", wlist(wsym("r", 4)), wsym("u", 5))}
	p := wlist(wsym("a"), wsym("a"), wlist(wsym("s"), wsym("k", 7, 8), wsym("a")), wsym("..."), wlist(wsym("s"), wsym("...")), wsym("a"))
	want, ok := impl.Fill(p, gots)
	if !ok || len(want.Kids) != 6 {
		t.Fatalf("Fill is %v, %v", want, ok)
	}
	for at := range want.Kids {
		x, _ := impl.Fill(p, gots)
		spoilStx(x.Kids[at])
		x.Kids[at] = want.Kids[at]
		if !equalStx(x, want) {
			t.Errorf("kid %d shares memory with another", at)
		}
		for i := range want.Kids[at].Kids {
			x, _ := impl.Fill(p, gots)
			spoilStx(x.Kids[at].Kids[i])
			x.Kids[at].Kids[i] = want.Kids[at].Kids[i]
			if !equalStx(x, want) {
				t.Errorf("kid %d of kid %d shares memory with another", i, at)
			}
		}
	}
}

// What was answered once is answered again, whatever else was asked between, with what ends early, too.
func TestFillKeepsNothing(t *testing.T) {
	maker := patternMaker{dataMaker: dataMaker{seed: 38}}
	gots := fewGots(t)
	p := written(t, "(a (s m c) ... (n ...) ...)", 1)
	want, wantOk := impl.Fill(p, gots)
	for range 200 {
		impl.Fill(maker.filling())
		impl.Fill(maker.twist(p), gots)
		impl.Fill(wlist(wsym("s"), wsym("...")), []impl.Got{several("s", wnum(1), 3000)})
		checkUnfilled(t, "another Got of that name", p, []impl.Got{gotOne("s", wnum(1))})
		if x, ok := impl.Fill(p, gots); !ok || !wantOk || !equalStx(x, want) {
			t.Fatalf("asked again Fill answers %v, %v", x, ok)
		}
	}
}

package tests

import (
	"fmt"
	"reflect"
	"slices"
	"strconv"
	"strings"
	"testing"

	"loop.example/g00396/impl"
)

// shown is what a test tells of something, of which there may be much.
func shown(what any) string {
	text := fmt.Sprint(what)
	return text[:min(len(text), 600)]
}

func gotOne(name string, one impl.Stx) impl.Got {
	return impl.Got{Name: name, One: one}
}

func gotSome(name string, deep int, some ...impl.Got) impl.Got {
	return impl.Got{Name: name, Deep: deep, Some: some}
}

// gotEach is a name that stands for each of those.
func gotEach(name string, ones ...impl.Stx) impl.Got {
	got := gotSome(name, 1)
	for _, one := range ones {
		got.Some = append(got.Some, gotOne(name, one))
	}
	return got
}

// wholeGots are the same as new memory, with no empty list that is not nil.
func wholeGots(list []impl.Got) []impl.Got {
	var out []impl.Got
	for _, got := range list {
		got.One, got.Some = wholeStx(got.One), wholeGots(got.Some)
		out = append(out, got)
	}
	return out
}

func equalGots(a, b []impl.Got) bool {
	return reflect.DeepEqual(wholeGots(a), wholeGots(b))
}

// The second ones below look at a pattern as text, and ask of each name by itself what it got.

func isNameText(s string) bool {
	return !slices.Contains([]string{"(", ")", "_", "..."}, s) && impl.SymOk(s)
}

func wordsOf(p impl.Stx) []string {
	return strings.Fields(strings.NewReplacer("(", " ( ", ")", " ) ").Replace(impl.DatText(impl.DatOf(p))))
}

func namesOf(p impl.Stx) []string {
	var list []string
	for _, word := range wordsOf(p) {
		if isNameText(word) && !slices.Contains(list, word) {
			list = append(list, word)
		}
	}
	return list
}

func rightPattern(p impl.Stx) bool {
	if !rightStx(p) {
		return false
	}
	words := wordsOf(p)
	for i, word := range words {
		if isNameText(word) && slices.Contains(words[i+1:], word) {
			return false
		}
		if word == "..." && (i == 0 || words[i+1] != ")" || words[i-1] == "(" || words[i-1] == "...") {
			return false
		}
	}
	return true
}

// aheadOfDots are the kids that are fitted one by one, and the one that `...` stands behind, if there is one.
func aheadOfDots(p impl.Stx) ([]impl.Stx, []impl.Stx) {
	last := len(p.Kids) - 1
	if last > 0 && p.Kids[last].Op == impl.DtSym && p.Kids[last].S == "..." {
		return p.Kids[:last-1], p.Kids[last-1 : last]
	}
	return p.Kids, nil
}

func fitsOf(p, x impl.Stx) bool {
	if p.Op == impl.DtSym {
		return true
	}
	if p.Op != x.Op || p.N != x.N {
		return false
	}
	ahead, each := aheadOfDots(p)
	if len(x.Kids) < len(ahead) || len(each) == 0 && len(x.Kids) > len(ahead) {
		return false
	}
	for i, kid := range x.Kids {
		if !fitsOf(append(slices.Clone(ahead), each...)[min(i, len(ahead)+len(each)-1)], kid) {
			return false
		}
	}
	return true
}

func deepOf(p impl.Stx, name string) int {
	ahead, each := aheadOfDots(p)
	for _, kid := range ahead {
		if slices.Contains(namesOf(kid), name) {
			return deepOf(kid, name)
		}
	}
	if len(each) > 0 {
		return 1 + deepOf(each[0], name)
	}
	return 0
}

// gotOf is what one name of p, which x fits, got.
func gotOf(p, x impl.Stx, name string) impl.Got {
	if p.Op == impl.DtSym {
		return gotOne(name, x)
	}
	ahead, each := aheadOfDots(p)
	for i, kid := range ahead {
		if slices.Contains(namesOf(kid), name) {
			return gotOf(kid, x.Kids[i], name)
		}
	}
	got := gotSome(name, deepOf(p, name))
	for _, kid := range x.Kids[len(ahead):] {
		got.Some = append(got.Some, gotOf(each[0], kid, name))
	}
	return got
}

func matchOf(p, x impl.Stx) ([]impl.Got, bool) {
	if !rightPattern(p) || !rightStx(x) || !fitsOf(p, x) {
		return nil, false
	}
	var list []impl.Got
	for _, name := range namesOf(p) {
		list = append(list, gotOf(p, x, name))
	}
	return list, true
}

func checkMatch(t *testing.T, p, x impl.Stx) bool {
	t.Helper()
	want, fits := matchOf(p, x)
	if got, ok := impl.Match(p, x); ok != fits || !equalGots(got, want) {
		t.Fatalf("Match(%s, %s) = %s, %v, not %s, %v", shown(p), shown(x), shown(got), ok, shown(want), fits)
	}
	return fits
}

func checkPattern(t *testing.T, p impl.Stx) bool {
	t.Helper()
	want := rightPattern(p)
	if got := impl.PatternOk(p); got != want {
		t.Fatalf("PatternOk(%s) is %v", shown(p), got)
	}
	if got, names := impl.Names(p), namesOf(p); rightStx(p) && !slices.Equal(got, names) {
		t.Fatalf("Names(%s) = %q, not %q", shown(p), got, names)
	}
	return want
}

func TestPatternOkTakes(t *testing.T) {
	for _, s := range []string{
		"x", "_", "7", "-1", "()", "(())", "(x)", "(x y)", "(_ _)", "(_ _ x)", "(_ (_ (_)) x)", "(1 1)", "(() ())",
		"(x ...)", "(_ ...)", "(1 ...)", "(() ...)", "((x) ...)", "(x y ...)", "(_ _ ...)", "(m (x y) ...)", "(m (x e) ... )",
		"((x ...) ...)", "(((x ...) ...) ...)", "((x ...) y ...)", "((x ...) (y ...) ...)", "((x ...) (y ...))", "(_ (x (y ...) ...) z ...)", "((_ ...) ...)", "((1 ...) (2 ...) ...)",
		".", "..", "....", "(.. ....)", "__", "(__ _)", "(x xx)", "(x .. y)", "(.... x)", "(lambda let if)", "(x y z a b c)",
	} {
		if p := written(t, s); !impl.PatternOk(p) || !checkPattern(t, p) {
			t.Errorf("PatternOk of %s is false", s)
		}
		if p := written(t, s, 2, 5); !impl.PatternOk(p) {
			t.Errorf("PatternOk of %s with a set is false", s)
		}
	}
}

func TestPatternOkRefuses(t *testing.T) {
	for _, s := range []string{
		"...", "(...)", "(... x)", "(x ... y)", "(x ... ...)", "(... ...)", "(... ... ...)", "(... x ...)", "(x ... y ...)", "(x ... 1)", "(x ... ())", "(... ())", "((...) ...)", "((x) (...))", "(1 ... 2)", "(_ ... _)",
		"(x (...))", "(x (... y))", "(x (y ... z))", "((x ... ...) y)", "((x ...) ... ...)", "(((... x) ...) ...)", "(x ((y ...) ... z) ...)",
		"(x x)", "(x y x)", "(x (x))", "((x) (x))", "((x) x)", "(x (y (z (x))))", "(x (x ...))", "((x ...) (x ...))", "((x ...) x ...)", "(x x ...)", "((x x) ...)", "(_ x _ x)", "(. .)", "(.. (..))", "(x y z y)",
	} {
		if p := written(t, s); impl.PatternOk(p) || checkPattern(t, p) {
			t.Errorf("PatternOk of %s is true", s)
		}
		if p := written(t, s, 2, 5); impl.PatternOk(p) {
			t.Errorf("PatternOk of %s with a set is true", s)
		}
	}
}

// A Got is told by its name alone, so sets do not part two symbols of one name, nor make others of `_` and `...`.
func TestPatternSetsAreNotAsked(t *testing.T) {
	for _, p := range []impl.Stx{wlist(wsym("x", 1), wsym("x", 2)), wlist(wsym("x"), wsym("x", 0)), wlist(wsym("x", 1), wlist(wsym("x", 2), wsym("...", 3))), wsym("...", 1), wlist(wsym("...", 1), wsym("x")), wlist(wsym("x"), wsym("...", 1), wsym("...", 2))} {
		if impl.PatternOk(p) {
			t.Errorf("PatternOk(%v) is true", p)
		}
	}
	p := wlist(wsym("_", 1), wsym("_", 2), wsym("y", 4), wsym("...", 7))
	if !impl.PatternOk(p) || !slices.Equal(impl.Names(p), []string{"y"}) {
		t.Errorf("PatternOk(%v) is %v, its Names %q", p, impl.PatternOk(p), impl.Names(p))
	}
	got, ok := impl.Match(p, wlist(wsym("_"), wnum(1), wsym("y", 1), wsym("...", 0, 9)))
	if want := []impl.Got{gotEach("y", wsym("y", 1), wsym("...", 0, 9))}; !ok || !equalGots(got, want) {
		t.Errorf("with sets what is got is %v, %v, not %v", got, ok, want)
	}
}

// manyNames are n symbols, no two of one name.
func manyNames(n int) []impl.Stx {
	list := make([]impl.Stx, n)
	for i := range list {
		list[i] = wsym("s" + strconv.Itoa(i))
	}
	return list
}

func TestPatternOkNestAndSize(t *testing.T) {
	dots := wsym("...")
	for lists := range 40 {
		for _, p := range []impl.Stx{withinStx(wsym("x"), lists), withinStx(wlist(wsym("x"), wsym("_"), dots), lists-1)} {
			if got, want := impl.PatternOk(p), lists < impl.MaxNest; lists > 0 && got != want {
				t.Errorf("PatternOk of %d within each other is %v", lists+1, got)
			}
			if !slices.Equal(impl.Names(p), []string{"x"}) {
				t.Errorf("Names of %d within each other are %q", lists+1, impl.Names(p))
			}
		}
	}
	for _, n := range []int{impl.MaxSize - 1, impl.MaxSize, impl.MaxSize + 1, 3 * impl.MaxSize} {
		names := manyNames(n - 1)
		for what, p := range map[string]impl.Stx{"names": wlist(names...), "dots": wlist(append(names[:n-2:n-2], dots)...), "any": wlist(manyStx(wsym("_"), n-1)...), "numbers": wlist(manyStx(wnum(3), n-1)...)} {
			if got, want := impl.PatternOk(p), n <= impl.MaxSize; got != want {
				t.Errorf("PatternOk of %d %s in all is %v", n, what, got)
			}
			if !slices.Equal(impl.Names(p), namesOf(p)) {
				t.Errorf("Names of %d %s are %q", n, what, impl.Names(p))
			}
		}
		names[n-2] = names[0]
		if impl.PatternOk(wlist(names...)) || !slices.Equal(impl.Names(wlist(names...)), namesOf(wlist(names[:n-2]...))) {
			t.Errorf("of %d names in all the first is the last, and is not seen twice", n)
		}
	}
}

func TestPatternOkRefusesWhatIsNotRight(t *testing.T) {
	wrong := wrongSets()
	for what, d := range wrongDats() {
		wrong[what] = impl.StxOf(d, nil)
	}
	for what, p := range wrong {
		for i, about := range aboutStx() {
			for _, x := range []impl.Stx{wnum(1), wlist(), about(p), about(wnum(1))} {
				if got, ok := impl.Match(about(p), x); impl.PatternOk(about(p)) || ok || len(got) != 0 {
					t.Errorf("it is a pattern: %q, by way %d; Match = %v, %v", what, i, got, ok)
				}
			}
			for _, loose := range []impl.Stx{wsym("x"), wsym("_"), wlist(wsym("x"), wsym("...")), wlist(wsym("_"), wsym("..."))} {
				if got, ok := impl.Match(loose, about(p)); ok || len(got) != 0 {
					t.Errorf("it is matched: %q, by way %d; Match = %v, %v", what, i, got, ok)
				}
			}
		}
	}
}

func TestNamesTable(t *testing.T) {
	for s, want := range map[string]string{
		"x": "x", "_": "", "...": "", "7": "", "()": "", "(())": "", "(x)": "x", "(y x)": "y x", "(b a c)": "b a c",
		"(a (b _) a ...)": "a b", "(x x x)": "x", "(x y x y)": "x y", "((x) y (z x) y w)": "x y z w", "(... x ... y ...)": "x y", "(1 x 2 y)": "x y", "(((z) y) x)": "z y x",
		"(_ _ _)": "", "((x ...) ...)": "x", "(_ (x e) ... . .. ....)": "x e . .. ....", "(__ _ _x)": "__ _x", "(lambda (x) (if x y lambda))": "lambda x if y",
	} {
		for _, set := range [][]int{nil, {0}, {2, 5}} {
			if got := impl.Names(written(t, s, set...)); !slices.Equal(got, strings.Fields(want)) {
				t.Errorf("Names of %s are %q, not %s", s, got, want)
			}
		}
	}
	if got := impl.Names(wlist(wsym("x", 1), wsym("y"), wsym("x", 2), wsym("x"))); !slices.Equal(got, []string{"x", "y"}) {
		t.Errorf("Names of one name with three sets are %q", got)
	}
}

// What is not right has names as well: those of all symbols that are in it.
func TestNamesOfWhatIsNotRight(t *testing.T) {
	for _, c := range []struct {
		p    impl.Stx
		want []string
	}{
		{impl.Stx{}, nil}, {impl.Stx{Op: -1, S: "x"}, nil}, {impl.Stx{Op: 4, S: "x", Kids: []impl.Stx{wsym("y")}}, []string{"y"}}, {impl.Stx{Op: 1<<32 + 2, S: "x"}, nil},
		{impl.Stx{Op: impl.DtNum, S: "x"}, nil}, {impl.Stx{Op: impl.DtList, S: "x", Kids: []impl.Stx{wsym("y")}}, []string{"y"}},
		{wsym("A"), []string{"A"}}, {wsym(""), []string{""}}, {wlist(wsym("x", 2, 1), wsym("1"), wsym("x", -1)), []string{"x", "1"}}, {wat(-4, wsym("x")), []string{"x"}},
		{impl.Stx{Op: impl.DtSym, S: "x", Kids: []impl.Stx{wsym("y"), wlist(wsym("z"), wsym("x"))}}, []string{"x", "y", "z"}}, {impl.Stx{Op: impl.DtNum, Kids: []impl.Stx{wsym("y"), wsym("..."), wsym("_")}}, []string{"y"}},
		{impl.Stx{Op: impl.DtSym, S: "...", Kids: []impl.Stx{wsym("y")}}, []string{"y"}}, {withinStx(wlist(wsym("b"), wsym("a"), wsym("b")), 300000), []string{"b", "a"}}, {wlist(manyStx(wlist(wsym("x"), wsym("y")), 20000)...), []string{"x", "y"}},
	} {
		if got := impl.Names(c.p); !slices.Equal(got, c.want) {
			t.Errorf("Names(%s) = %q, not %q", shown(c.p), got, c.want)
		}
	}
}

func TestMatchTable(t *testing.T) {
	one, two, three := wat(1, wnum(1)), wat(3, wnum(2)), wat(5, wnum(3))
	whole := wlist(one, two, three)
	for p, want := range map[string][]impl.Got{
		"x": {gotOne("x", whole)}, "_": nil, "(1 2 3)": nil, "(_ _ _)": nil, "(_ 2 _)": nil, "(x y z)": {gotOne("x", one), gotOne("y", two), gotOne("z", three)}, "(z _ x)": {gotOne("z", one), gotOne("x", three)}, "(1 y 3)": {gotOne("y", two)},
		"(x ...)": {gotEach("x", one, two, three)}, "(_ ...)": nil, "(x y ...)": {gotOne("x", one), gotEach("y", two, three)}, "(y x ...)": {gotOne("y", one), gotEach("x", two, three)}, "(x _ ...)": {gotOne("x", one)}, "(_ x ...)": {gotEach("x", two, three)},
		"(x y z ...)": {gotOne("x", one), gotOne("y", two), gotEach("z", three)}, "(x y z w ...)": {gotOne("x", one), gotOne("y", two), gotOne("z", three), gotSome("w", 1)}, "(1 2 3 4 ...)": nil, "(1 2 3 _ ...)": nil, "(1 2 3 ...)": nil, "(1 2 3 (x (y ...) z) ...)": {gotSome("x", 1), gotSome("y", 2), gotSome("z", 1)},
	} {
		if got, ok := impl.Match(written(t, p), written(t, "(1 2 3)")); !ok || !equalGots(got, want) {
			t.Errorf("Match of %s is %v, %v, not %v", p, got, ok, want)
		}
	}
}

func TestMatchFits(t *testing.T) {
	for p, texts := range map[string][]string{
		"x":                       {"x", "y", "7", "()", "(1 (2))", "...", "_"},
		"_":                       {"x", "7", "()", "(1 (2))", "...", "_"},
		"7":                       {"7"},
		"-1":                      {"-1"},
		"()":                      {"()"},
		"(x)":                     {"(1)", "(())", "((1 2))", "(...)"},
		"(())":                    {"(())"},
		"(x (y 1))":               {"(2 (3 1))", "(() (() 1))"},
		"(x ...)":                 {"()", "(1)", "(1 2)", "(x ...)", "(... ...)", "(() (1) 2)"},
		"(1 ...)":                 {"()", "(1)", "(1 1)", "(1 1 1 1)"},
		"(() ...)":                {"()", "(())", "(() ())"},
		"(x y ...)":               {"(1)", "(1 2)", "(1 2 3)"},
		"((x y) ...)":             {"()", "((1 2))", "((1 2) (3 4) (() ()))"},
		"((x ...) ...)":           {"()", "(())", "(() ())", "((1) () (2 3))", "((1 2) (3))"},
		"(((x ...) y ...) ...)":   {"()", "((()))", "((() 1))", "(((1 2) 3) (()) ((4)))"},
		"((x ...) (y ...) z ...)": {"(() ())", "((1) (2 3) 4 5)"},
		"(_ (x e) ... )":          {"(m)", "(m (a 1))", "(m (a 1) (b 2))"},
		"(((_ x) ...) ... )":      {"()", "(())", "(((1 2)) ((3 4) (5 6)))"},
		"(1 (2 x ...) ...)":       {"(1)", "(1 (2))", "(1 (2 3) (2) (2 4 5))"},
	} {
		for _, s := range texts {
			if !checkMatch(t, written(t, p, 1), written(t, s, 0, 4)) {
				t.Errorf("%s does not fit %s", s, p)
			}
		}
	}
}

func TestMatchDoesNotFit(t *testing.T) {
	for p, texts := range map[string][]string{
		"7":                     {"8", "-7", "0", "x", "()", "(7)"},
		"0":                     {"()", "x", "1", "..."},
		"()":                    {"0", "x", "(())", "(1)", "(x ...)"},
		"(x)":                   {"1", "x", "()", "(1 2)", "(1 2 3)"},
		"(x y)":                 {"(1)", "()", "(1 2 3)", "((1 2))", "2"},
		"(_ _)":                 {"(1)", "(1 2 3)", "()", "_", "5"},
		"(())":                  {"()", "(1)", "(() ())", "((()))"},
		"(1 x)":                 {"(2 1)", "(x 1)", "(1)", "(1 1 1)", "(() 1)"},
		"(x 1)":                 {"(1 2)", "(1 x)", "(1 (1))"},
		"(x (y (z 1)))":         {"(1 (2 (3 4)))", "(1 (2 (3)))", "(1 (2 1))", "(1 2)"},
		"(x ...)":               {"x", "1", "..."},
		"(_ ...)":               {"x", "1", "..."},
		"(1 ...)":               {"(2)", "(1 2)", "(2 1)", "(1 1 x)", "(1 ...)", "(1 1 ())"},
		"(() ...)":              {"(1)", "(() (()))", "(x)"},
		"(x y ...)":             {"()", "1"},
		"(x y z ...)":           {"()", "(1)", "(1)"},
		"(1 x ...)":             {"()", "(2)", "(2 1)", "((1))"},
		"((x y) ...)":           {"(1)", "((1))", "((1 2) (3))", "((1 2) (3 4 5))", "((1 2) 3)", "(())"},
		"((x ...) ...)":         {"(1)", "((1) 2)", "(() () x)", "7"},
		"(((x ...) y ...) ...)": {"(())", "(((1)) (2))", "(((1) 2) (3 4))", "((1))"},
		"((x 1) y ...)":         {"((1 2) 3)", "()", "(1)"},
		"((x ...) 2)":           {"((1 2) 3)", "((1 2))", "(1 2)", "((1) 2 3)"},
		"...":                   {"...", "1", "()"},
		"(x x)":                 {"(1 1)", "(1 2)"},
		"(... x)":               {"(1 2)", "(1)", "(... 1)"},
		"(x ... ...)":           {"()", "(1 2)", "((1) (2))"},
		"(x ... 1)":             {"(1)", "(2 1)", "(2 3 1)"},
		"(...)":                 {"()", "(...)", "(1)"},
	} {
		for _, s := range texts {
			got, ok := impl.Match(written(t, p, 1), written(t, s, 0, 4))
			if ok || len(got) != 0 || checkMatch(t, written(t, p), written(t, s)) {
				t.Errorf("%s fits %s: %v, %v", s, p, got, ok)
			}
		}
	}
}

// What a name got is all of what stands there: where it begins and what it carries, too.
func TestMatchOneIsWhatStandsThere(t *testing.T) {
	x := wat(3, wlist(wat(4, wsym("f", 1)), wat(6, wlist(wat(7, wsym("y", 0, 2)), wat(9, wnum(-5)), wat(12, wlist()))), wat(15, wsym("x", 3))))
	for p, want := range map[string][]impl.Got{
		"a": {gotOne("a", x)}, "(a b c)": {gotOne("a", x.Kids[0]), gotOne("b", x.Kids[1]), gotOne("c", x.Kids[2])}, "(a (f x y) z)": {gotOne("a", x.Kids[0]), gotOne("f", x.Kids[1].Kids[0]), gotOne("x", x.Kids[1].Kids[1]), gotOne("y", x.Kids[1].Kids[2]), gotOne("z", x.Kids[2])},
		"(a ...)": {gotEach("a", x.Kids...)}, "(_ (b ...) c)": {gotEach("b", x.Kids[1].Kids...), gotOne("c", x.Kids[2])}, "(_ (_ -5 (b ...)) c ...)": {gotSome("b", 1), gotEach("c", x.Kids[2])},
	} {
		if got, ok := impl.Match(written(t, p, 7), x); !ok || !equalGots(got, want) {
			t.Errorf("Match of %s is %v, %v, not %v", p, got, ok, want)
		}
	}
}

// Dots within dots: a Got is one deeper for each, whether there is one to fit or not.
func TestMatchDeep(t *testing.T) {
	for dots := 1; dots < impl.MaxNest; dots++ {
		p, x, want := wsym("x", 1), wsym("a", 2), gotOne("x", wsym("a", 2))
		for deep := 1; deep <= dots; deep++ {
			p, x = wlist(p, wsym("...")), wlist(x, x)
			want = gotSome("x", deep, want, want)
			if deep > 8 {
				x.Kids, want.Some = x.Kids[:1], want.Some[:1]
			}
		}
		if got, ok := impl.Match(p, x); !ok || !equalGots(got, []impl.Got{want}) {
			t.Errorf("by %d dots what is got is %v, %s", dots, ok, shown(got))
		}
		if got, ok := impl.Match(p, wlist()); !ok || !equalGots(got, []impl.Got{gotSome("x", dots)}) {
			t.Errorf("by %d dots what is got of nothing is %v, %v", dots, got, ok)
		}
		x, want = withinStx(wnum(7), dots), gotOne("x", wnum(7))
		for deep := 1; deep <= dots; deep++ {
			want = gotSome("x", deep, want)
		}
		if got, ok := impl.Match(p, x); !ok || !equalGots(got, []impl.Got{want}) {
			t.Errorf("by %d dots what is got of one is %v, %v", dots, got, ok)
		}
	}
}

func TestMatchDeepNames(t *testing.T) {
	p := written(t, "(a (b (c (d ...) e ...) ...) ...)")
	for s, want := range map[string][]impl.Got{
		"(1)":     {gotOne("a", wnum(1)), gotSome("b", 1), gotSome("c", 2), gotSome("d", 3), gotSome("e", 3)},
		"(1 (2))": {gotOne("a", wnum(1)), gotEach("b", wnum(2)), gotSome("c", 2, gotSome("c", 1)), gotSome("d", 3, gotSome("d", 2)), gotSome("e", 3, gotSome("e", 2))},
		"(1 (2 (3 () 4 5) (6 (7))) (8))": {
			gotOne("a", wnum(1)), gotEach("b", wnum(2), wnum(8)),
			gotSome("c", 2, gotEach("c", wnum(3), wnum(6)), gotSome("c", 1)),
			gotSome("d", 3, gotSome("d", 2, gotSome("d", 1), gotEach("d", wnum(7))), gotSome("d", 2)),
			gotSome("e", 3, gotSome("e", 2, gotEach("e", wnum(4), wnum(5)), gotSome("e", 1)), gotSome("e", 2)),
		},
	} {
		if got, ok := impl.Match(p, placeless(written(t, s))); !ok || !equalGots(got, want) {
			t.Errorf("of %s what is got is %v, %v, not %v", s, got, ok, want)
		}
	}
}

// everyForest makes each list of trees that have so many parts in all, of those leaves and of lists.
func everyForest(leaves []impl.Stx, parts int, each func([]impl.Stx)) {
	if parts == 0 {
		each(nil)
		return
	}
	for first := 1; first <= parts; first++ {
		everyTree(leaves, first, func(x impl.Stx) {
			everyForest(leaves, parts-first, func(rest []impl.Stx) {
				each(append([]impl.Stx{x}, rest...))
			})
		})
	}
}

func everyTree(leaves []impl.Stx, parts int, each func(impl.Stx)) {
	if parts == 1 {
		for _, leaf := range leaves {
			each(leaf)
		}
	}
	everyForest(leaves, parts-1, func(kids []impl.Stx) { each(wlist(kids...)) })
}

func TestPatternSmallTrees(t *testing.T) {
	count := [2]int{}
	for parts := 1; parts <= 6; parts++ {
		everyTree([]impl.Stx{wsym("x"), wsym("y", 1), wsym("..."), wsym("_"), wnum(1)}, parts, func(p impl.Stx) {
			if checkPattern(t, p) {
				count[1]++
			} else {
				count[0]++
			}
		})
	}
	if count[0] < 10000 || count[1] < 2000 {
		t.Errorf("%d wrong and %d right ones are too few", count[0], count[1])
	}
}

func TestMatchSmallTrees(t *testing.T) {
	var data []impl.Stx
	for parts := 1; parts <= 4; parts++ {
		everyTree([]impl.Stx{wsym("x", 2), wnum(1), wnum(2)}, parts, func(x impl.Stx) { data = append(data, x) })
	}
	count := [2]int{}
	for parts := 1; parts <= 5; parts++ {
		everyTree([]impl.Stx{wsym("x"), wsym("y"), wsym("..."), wnum(1)}, parts, func(p impl.Stx) {
			if !rightPattern(p) {
				checkMatch(t, p, data[len(data)-1])
				return
			}
			for _, x := range data {
				if checkMatch(t, p, x) {
					count[1]++
				} else {
					count[0]++
				}
			}
		})
	}
	if count[0] < 10000 || count[1] < 2000 {
		t.Errorf("%d that do not fit and %d that do are too few", count[0], count[1])
	}
}

// patternMaker makes patterns that are right, each name new.
type patternMaker struct {
	dataMaker
	names int
}

func (m *patternMaker) name() impl.Stx {
	m.names++
	return wat(m.pick(900), wsym("n"+strconv.Itoa(m.names), m.set(false)...))
}

// pattern has `_` in it, and parts without a name ahead of `...`, only if it may.
func (m *patternMaker) pattern(deep int, namesOnly bool) impl.Stx {
	switch {
	case deep > 1 && m.pick(4) > 0:
		var kids []impl.Stx
		for range m.pick(4) {
			kids = append(kids, m.pattern(deep-1, namesOnly))
		}
		if m.pick(2) == 0 {
			kids = append(kids, m.repeatedPart(deep-1, namesOnly), wsym("...", m.set(false)...))
		}
		return wat(m.pick(900), wlist(kids...))
	case m.pick(4) == 0:
		return wat(m.pick(900), wnum(m.pick(3)))
	case !namesOnly && m.pick(4) == 0:
		return wsym("_", m.set(false)...)
	}
	return m.name()
}

func (m *patternMaker) repeatedPart(deep int, namesOnly bool) impl.Stx {
	p := m.pattern(deep, namesOnly)
	if namesOnly && len(namesOf(p)) == 0 {
		return m.name()
	}
	return p
}

// fitting is something that fits p.
func (m *patternMaker) fitting(p impl.Stx) impl.Stx {
	switch p.Op {
	case impl.DtNum:
		return wat(m.pick(900), wnum(p.N))
	case impl.DtSym:
		return m.stx(2, false)
	}
	var kids []impl.Stx
	ahead, each := aheadOfDots(p)
	for _, kid := range ahead {
		kids = append(kids, m.fitting(kid))
	}
	for _, kid := range each {
		for range m.pick(4) {
			kids = append(kids, m.fitting(kid))
		}
	}
	return wat(m.pick(900), wlist(kids...))
}

// twist turns one thing in x, so that it may fit no more.
func (m *patternMaker) twist(x impl.Stx) impl.Stx {
	x = wholeStx(x)
	at := m.pick(len(x.Kids) + 1)
	if at < len(x.Kids) && m.pick(4) > 0 {
		x.Kids[at] = m.twist(x.Kids[at])
		return x
	}
	switch m.pick(4) {
	case 0:
		return m.stx(2, false)
	case 1:
		x.Kids = slices.Delete(x.Kids, min(at, max(len(x.Kids)-1, 0)), min(at+1, len(x.Kids)))
	case 2:
		x.N++
	default:
		x.Kids = slices.Insert(x.Kids, at, m.stx(1, false))
	}
	return x
}

func TestMatchOfMany(t *testing.T) {
	maker := patternMaker{dataMaker: dataMaker{seed: 21}}
	count := [2]int{}
	for round := range 4000 {
		maker.names = 0
		p := maker.pattern(1+maker.pick(5), round%2 == 0)
		if !checkPattern(t, p) {
			t.Fatalf("%v is no pattern", p)
		}
		x := maker.fitting(p)
		if rightStx(x) && !checkMatch(t, p, x) {
			t.Fatalf("%v does not fit %v", x, p)
		}
		for range 4 {
			checkPattern(t, maker.twist(p))
			checkMatch(t, maker.twist(p), x)
			if x := maker.twist(x); checkMatch(t, p, x) {
				count[1]++
			} else {
				count[0]++
			}
		}
	}
	if count[0] < 3000 || count[1] < 3000 {
		t.Errorf("%d that do not fit and %d that do are too few", count[0], count[1])
	}
}

// gotBy is the one Got of that name.
func gotBy(t *testing.T, list []impl.Got, name string) impl.Got {
	t.Helper()
	at := slices.IndexFunc(list, func(got impl.Got) bool { return got.Name == name })
	if at < 0 || slices.ContainsFunc(list[at+1:], func(got impl.Got) bool { return got.Name == name }) {
		t.Fatalf("there is not one Got of %s in %v", name, list)
	}
	return list[at]
}

// madeOf makes of a pattern what fitted it, of nothing but what its names got.
func madeOf(t *testing.T, p impl.Stx, list []impl.Got) impl.Stx {
	t.Helper()
	switch p.Op {
	case impl.DtNum:
		return p
	case impl.DtSym:
		got := gotBy(t, list, p.S)
		if got.Deep != 0 || len(got.Some) != 0 {
			t.Fatalf("%s is too deep: %v", p.S, got)
		}
		return got.One
	}
	var kids []impl.Stx
	ahead, each := aheadOfDots(p)
	for _, kid := range ahead {
		kids = append(kids, madeOf(t, kid, list))
	}
	if len(each) > 0 {
		kids = append(kids, eachMadeOf(t, each[0], list)...)
	}
	return wlist(kids...)
}

func eachMadeOf(t *testing.T, p impl.Stx, list []impl.Got) []impl.Stx {
	t.Helper()
	names := namesOf(p)
	kids := make([]impl.Stx, len(gotBy(t, list, names[0]).Some))
	for i := range kids {
		var turn []impl.Got
		for _, name := range names {
			got := gotBy(t, list, name)
			if got.Deep < 1 || len(got.Some) != len(kids) || got.Some[i].Deep != got.Deep-1 || !equalStx(got.One, impl.Stx{}) {
				t.Fatalf("%s is not got as often as %s, or not so deep: %v", name, names[0], got)
			}
			turn = append(turn, got.Some[i])
		}
		kids[i] = madeOf(t, p, turn)
	}
	return kids
}

// P7: what fits a pattern without `_`, in which a name stands in each part ahead of `...`, is made of what was got.
func checkMadeOfGot(t *testing.T, p, x impl.Stx) bool {
	t.Helper()
	got, ok := impl.Match(p, x)
	if !ok {
		return false
	}
	names := []string{}
	for _, one := range got {
		names = append(names, one.Name)
	}
	if !slices.Equal(names, impl.Names(p)) {
		t.Fatalf("of %v the names %q were got, not %q", p, names, impl.Names(p))
	}
	if made := madeOf(t, p, got); !impl.SameStx(made, x) || !alikeStx(made, x) {
		t.Fatalf("of what was got of %s by %s %s is made", shown(x), shown(p), shown(made))
	}
	if made, ok := impl.Fill(p, got); !ok || !impl.SameStx(made, x) || !alikeStx(made, x) {
		t.Fatalf("%s is filled by what it got of %s to %s, %v", shown(p), shown(x), shown(made), ok)
	}
	return true
}

func TestWhatFitsIsMadeOfWhatWasGot(t *testing.T) {
	for p, texts := range map[string][]string{
		"x": {"7", "(a (b))", "()"}, "7": {"7"}, "(x ...)": {"()", "(1)", "(1 a (b c))"}, "(f x ...)": {"(f)", "(f 1 2 3)"},
		"(let ((x e) ...) b)": {"(let () 1)", "(let ((a 1) (b (c 2))) (+ a b))"}, "((x ...) ...)": {"()", "(() () ())", "((1 2) () (3))"},
		"(c ((t (u v ...) ...) ...) (w ...))": {"(1 () ())", "(1 ((2)) (3 4))", "(1 ((2 (3) (4 5 6)) (7) (8 (9))) ())"},
	} {
		for _, s := range texts {
			if !checkMadeOfGot(t, written(t, p, 3), written(t, s, 1)) {
				t.Errorf("%s does not fit %s", s, p)
			}
		}
	}
	maker := patternMaker{dataMaker: dataMaker{seed: 22}}
	fits := 0
	for range 4000 {
		maker.names = 0
		p := maker.pattern(1+maker.pick(6), true)
		x := maker.fitting(p)
		for range 4 {
			if checkMadeOfGot(t, p, x) {
				fits++
			} else if rightPattern(p) && rightStx(x) && fitsOf(p, x) {
				t.Fatalf("%v does not fit %v", x, p)
			}
			x = maker.twist(maker.fitting(p))
		}
	}
	if fits < 5000 {
		t.Errorf("only %d fitted", fits)
	}
}

// At the limits: as deep, as many as there may be, and one more of what is matched.
func TestMatchNestAndSize(t *testing.T) {
	name := wsym("x")
	for lists := range 40 {
		x := withinStx(wnum(1), lists)
		if got, ok := impl.Match(name, x); ok != (lists < impl.MaxNest) || ok && !equalGots(got, []impl.Got{gotOne("x", x)}) || !ok && len(got) != 0 {
			t.Errorf("Match of %d within each other is %v, %v", lists+1, got, ok)
		}
		if _, ok := impl.Match(withinStx(name, lists), x); ok != (lists < impl.MaxNest) {
			t.Errorf("Match of %d about a name is %v", lists, ok)
		}
	}
	for _, n := range []int{impl.MaxSize - 1, impl.MaxSize, impl.MaxSize + 1} {
		names, x := manyNames(n-1), wlist(manyStx(wsym("a", 1, 2), n-1)...)
		got, ok := impl.Match(wlist(names...), x)
		if ok != (n <= impl.MaxSize) || ok && len(got) != n-1 || !ok && len(got) != 0 {
			t.Fatalf("Match of %d names is %d, %v", n-1, len(got), ok)
		}
		for i, one := range got {
			if one.Name != names[i].S || one.Deep != 0 || !equalStx(one.One, x.Kids[i]) {
				t.Errorf("name %d got %v", i, one)
			}
		}
		got, ok = impl.Match(wlist(name, wsym("...")), x)
		if ok != (n <= impl.MaxSize) || ok && !equalGots(got, []impl.Got{gotEach("x", x.Kids...)}) {
			t.Errorf("Match of %d by dots is %d, %v", n-1, len(got), ok)
		}
	}
}

// Many names behind dots, each of which gets nothing many times.
func TestMatchManyNamesOften(t *testing.T) {
	names := manyNames(700)
	p := wlist(wlist(wlist(names...), wsym("...")), wsym("..."))
	got, ok := impl.Match(p, wlist(manyStx(wlist(), 800)...))
	if !ok || len(got) != len(names) {
		t.Fatalf("Match is %d, %v", len(got), ok)
	}
	for i, one := range got {
		if one.Name != names[i].S || one.Deep != 2 || len(one.Some) != 800 || one.Some[799].Deep != 1 || one.Some[799].Name != one.Name || len(one.Some[799].Some) != 0 {
			t.Fatalf("name %d got %s", i, shown(one))
		}
	}
}

// What is matched may hold itself; it is not right then, and Match ends.
func TestMatchEnds(t *testing.T) {
	round := make([]impl.Stx, 1)
	round[0] = wlist(round...)
	broad := wsym("x", 1)
	for range 60 {
		broad = wlist(manyStx(broad, 40)...)
	}
	for _, x := range []impl.Stx{round[0], broad, withinStx(wnum(1), 300000)} {
		for _, p := range []impl.Stx{wsym("x"), wsym("_"), wlist(wsym("x"), wsym("...")), wlist(wlist(wsym("_")), wsym("..."))} {
			if got, ok := impl.Match(p, x); ok || len(got) != 0 {
				t.Error("Match is true of what has no end")
			}
			if got, ok := impl.Match(x, p); ok || len(got) != 0 || impl.PatternOk(x) {
				t.Error("what has no end is a pattern")
			}
		}
	}
}

func TestPatternsAreNotWritten(t *testing.T) {
	maker := patternMaker{dataMaker: dataMaker{seed: 23}}
	for round := range 600 {
		maker.names = 0
		plain := maker.pattern(4, round%2 == 0)
		data := maker.fitting(plain)
		if round%3 == 0 {
			plain, data = maker.twist(plain), maker.twist(data)
		}
		p, x := roomyStx(plain), roomyStx(data)
		for range 2 {
			impl.PatternOk(p)
			impl.Names(p)
			impl.Names(x)
			impl.Match(p, x)
			impl.Match(x, p)
			impl.Match(p, p)
		}
		if !equalStx(widened(p), widened(roomyStx(plain))) || !equalStx(widened(x), widened(roomyStx(data))) {
			t.Fatalf("an argument was written into: %v, %v", widened(p), widened(x))
		}
	}
}

// spoilGots writes into all of the list, its spare room too.
func spoilGots(list []impl.Got) {
	all := list[:cap(list)]
	for i, got := range all {
		spoilStx(got.One)
		spoilGots(got.Some)
		all[i] = impl.Got{Name: "?", Deep: -77}
	}
}

// What is answered is not seen to change, whatever is done to what was handed in or answered elsewhere, and the other way about.
func TestMatchAnswersAreNew(t *testing.T) {
	maker := patternMaker{dataMaker: dataMaker{seed: 24}}
	for range 600 {
		maker.names = 0
		plain := maker.pattern(4, false)
		data := maker.fitting(plain)
		want, _ := matchOf(plain, data)
		p, x := roomyStx(plain), roomyStx(data)
		got, _ := impl.Match(p, x)
		other, _ := impl.Match(p, x)
		spoilGots(other)
		if !equalGots(got, want) {
			t.Fatalf("what was got of %v by %v shares memory with another answer", data, plain)
		}
		if !equalStx(widened(p), widened(roomyStx(plain))) || !equalStx(widened(x), widened(roomyStx(data))) {
			t.Fatalf("what was got of %v by %v shares memory with an argument", data, plain)
		}
		spoilStx(p)
		spoilStx(x)
		if !equalGots(got, want) {
			t.Fatalf("what was got of %v by %v changes with an argument", data, plain)
		}
	}
}

func TestNamesAreNew(t *testing.T) {
	p := roomyStx(written(t, "(a (b _) a c ...)", 1))
	names, want := impl.Names(p), []string{"a", "b", "c"}
	other := impl.Names(p)
	for i := range other[:cap(other)] {
		other[:cap(other)][i] = "?"
	}
	spoilStx(p)
	if !slices.Equal(names, want) {
		t.Errorf("Names have become %q", names)
	}
}

// gotLists are all places of an answer at which a list stands, each as something that writes into it and its spare room.
func gotLists(list []impl.Got) []func() {
	var all []func()
	for i := range list {
		all = append(all, func() { spoilStx(list[i].One) }, func() { spoilGots(list[i].Some) })
		all = append(all, gotLists(list[i].Some)...)
	}
	return all
}

// No two lists of one answer share memory: where one Got is written into, only that one is another.
func TestGotsAreApart(t *testing.T) {
	p, x := written(t, "(a (e f) (b (c ...) d) ...)", 1), written(t, "((x y) (z (w)) (x (y z) w) (x () z) (y (z (w x)) (x y)))", 1, 2)
	first, ok := impl.Match(p, x)
	if !ok {
		t.Fatal("it does not fit")
	}
	for at := range first {
		got, _ := impl.Match(p, x)
		want := wholeGots(got)
		for _, spoil := range gotLists(got[at : at+1]) {
			spoil()
		}
		got[at], want[at] = impl.Got{}, impl.Got{}
		if !equalGots(got, want) {
			t.Errorf("Got %d shares memory with another", at)
		}
		for i := range first[at].Some {
			got, _ := impl.Match(p, x)
			want := wholeGots(got)
			spoilGots(got[at].Some[i].Some)
			spoilStx(got[at].Some[i].One)
			got[at].Some[i], want[at].Some[i] = impl.Got{}, impl.Got{}
			if !equalGots(got, want) {
				t.Errorf("Got %d of Got %d shares memory with another", i, at)
			}
		}
	}
}

// What was answered once is answered again, whatever else was asked between.
func TestMatchKeepsNothing(t *testing.T) {
	maker := patternMaker{dataMaker: dataMaker{seed: 25}}
	p, x := written(t, "(a (b (c ...) d) ...)", 1), written(t, "(1 (2 (3 4) 5) (6 () 7))", 2)
	want, _ := impl.Match(p, x)
	for range 200 {
		other := maker.pattern(4, false)
		impl.Match(other, maker.fitting(other))
		impl.Match(p, maker.twist(x))
		impl.PatternOk(maker.twist(p))
		impl.Names(other)
		if got, ok := impl.Match(p, x); !ok || !equalGots(got, want) || !impl.PatternOk(p) || !slices.Equal(impl.Names(p), []string{"a", "b", "c", "d"}) {
			t.Fatalf("asked again Match answers %v, %v", got, ok)
		}
	}
}

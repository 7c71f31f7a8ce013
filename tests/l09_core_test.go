package tests

import (
	"math"
	"reflect"
	"slices"
	"strconv"
	"strings"
	"testing"

	"loop.example/g00396/impl"
)

func cnum(n int) impl.Core    { return impl.Core{Op: impl.CoNum, N: n} }
func cvar(s string) impl.Core { return impl.Core{Op: impl.CoVar, S: s} }

func cop(op int, kids ...impl.Core) impl.Core {
	return impl.Core{Op: op, Kids: kids}
}

func cfun(s string, e impl.Core) impl.Core {
	return impl.Core{Op: impl.CoFun, S: s, Kids: []impl.Core{e}}
}

func clet(s string, what, in impl.Core) impl.Core {
	return impl.Core{Op: impl.CoLet, S: s, Kids: []impl.Core{what, in}}
}

func crec(s, t string, e, in impl.Core) impl.Core {
	return impl.Core{Op: impl.CoRec, S: s, T: t, Kids: []impl.Core{e, in}}
}

// coreWords are the words of Ops by their number, empty where none is told.
func coreWords() []string {
	return []string{"", "", "", "fun", "app", "let", "rec", "if", "+", "-", "*", "<", "=", "", "cons", "car", "cdr", "pair?", "put"}
}

// coreArity is how many kids an Op has, -1 of Ops that are none.
func coreArity(op int) int {
	switch op {
	case impl.CoNum, impl.CoVar, impl.CoNil:
		return 0
	case impl.CoFun, impl.CoCar, impl.CoCdr, impl.CoPair, impl.CoPut:
		return 1
	case impl.CoApp, impl.CoLet, impl.CoRec, impl.CoAdd, impl.CoSub, impl.CoMul, impl.CoLess, impl.CoSame, impl.CoCons:
		return 2
	case impl.CoIf:
		return 3
	}
	return -1
}

// coreNames is how many names an Op has.
func coreNames(op int) int {
	switch op {
	case impl.CoVar, impl.CoFun, impl.CoLet:
		return 1
	case impl.CoRec:
		return 2
	}
	return 0
}

func coreOfDat(t *testing.T, d impl.Dat) impl.Core {
	t.Helper()
	switch {
	case d.Op == impl.DtNum:
		return cnum(d.N)
	case d.Op == impl.DtSym:
		return cvar(d.S)
	case len(d.Kids) == 0:
		return cop(impl.CoNil)
	}
	op := slices.Index(coreWords(), d.Kids[0].S)
	rest := d.Kids[1:]
	c := impl.Core{Op: op}
	for i, name := range []*string{&c.S, &c.T} {
		if i < coreNames(op) {
			*name = rest[0].S
			rest = rest[1:]
		}
	}
	for _, kid := range rest {
		c.Kids = append(c.Kids, coreOfDat(t, kid))
	}
	return c
}

// core is what is told by s, right or not.
func core(t *testing.T, s string) impl.Core {
	t.Helper()
	list, bad := impl.ReadAll(s)
	if bad != -1 || len(list) != 1 {
		t.Fatalf("%q is no core: %d", s, bad)
	}
	return coreOfDat(t, list[0])
}

// wholeCore is c with nil for lists that are empty, as reflect tells them apart.
func wholeCore(c impl.Core) impl.Core {
	var kids []impl.Core
	for _, kid := range c.Kids {
		kids = append(kids, wholeCore(kid))
	}
	c.Kids = kids
	return c
}

func equalCores(a, b impl.Core) bool {
	return reflect.DeepEqual(wholeCore(a), wholeCore(b))
}

// The second ones below call themselves, and hand on the names that are bound as a list, the innermost last.

func sizeOf(c impl.Core) int {
	size := 1
	for _, kid := range c.Kids {
		size += sizeOf(kid)
	}
	return size
}

func deepnessOf(c impl.Core) int {
	deep := 0
	for _, kid := range c.Kids {
		deep = max(deep, deepnessOf(kid))
	}
	return deep + 1
}

func namesBoundIn(c impl.Core, kid int, about []string) []string {
	about = slices.Clone(about)
	switch {
	case c.Op == impl.CoFun && kid == 0:
		about = append(about, c.S)
	case c.Op == impl.CoLet && kid == 1:
		about = append(about, c.S)
	case c.Op == impl.CoRec && kid == 0:
		about = append(about, c.S, c.T)
	case c.Op == impl.CoRec && kid == 1:
		about = append(about, c.S)
	}
	return about
}

func rightPart(c impl.Core) bool {
	names := coreNames(c.Op)
	number := c.N == 0 || c.Op == impl.CoNum && leastWord <= c.N && c.N <= greatestWord
	return coreArity(c.Op) == len(c.Kids) && number && (c.S == "") == (names == 0) && (c.T == "") == (names < 2)
}

func rightParts(c impl.Core, about []string) bool {
	if !rightPart(c) || c.Op == impl.CoVar && !slices.Contains(about, c.S) {
		return false
	}
	for i, kid := range c.Kids {
		if !rightParts(kid, namesBoundIn(c, i, about)) {
			return false
		}
	}
	return true
}

func rightCore(c impl.Core) bool {
	return rightParts(c, nil) && sizeOf(c) <= 3000 && deepnessOf(c) <= 150
}

func coreText(c impl.Core) string {
	switch c.Op {
	case impl.CoNum:
		return strconv.Itoa(c.N)
	case impl.CoVar:
		return c.S
	case impl.CoNil:
		return "()"
	}
	words := []string{"?"}
	if coreArity(c.Op) >= 0 {
		words[0] = coreWords()[c.Op]
	}
	if c.S != "" {
		words = append(words, c.S)
	}
	if c.T != "" {
		words = append(words, c.T)
	}
	for _, kid := range c.Kids {
		words = append(words, coreText(kid))
	}
	return "(" + strings.Join(words, " ") + ")"
}

// namelessText tells all that Alike looks at: a name that is bound as how many are bound about it, outside of its own binding.
func namelessText(c impl.Core, about []string) string {
	text := "[" + strconv.Itoa(c.Op) + " " + strconv.Itoa(c.N)
	if c.Op == impl.CoVar {
		text += " free " + strconv.Quote(c.S)
		for i, name := range about {
			if name == c.S {
				text = "[" + strconv.Itoa(c.Op) + " " + strconv.Itoa(c.N) + " bound " + strconv.Itoa(i)
			}
		}
	}
	for i, kid := range c.Kids {
		text += namelessText(kid, namesBoundIn(c, i, about))
	}
	return text + "]"
}

func alikeOf(a, b impl.Core) bool {
	return namelessText(a, nil) == namelessText(b, nil)
}

func checkCore(t *testing.T, c impl.Core) {
	t.Helper()
	if got, want := impl.CoreSize(c), sizeOf(c); got != want {
		t.Fatalf("CoreSize(%s) = %d, not %d", shown(c), got, want)
	}
	if got, want := impl.CoreOk(c), rightCore(c); got != want {
		t.Fatalf("CoreOk(%s) = %v", shown(c), got)
	}
	if got, want := impl.CoreText(c), coreText(c); got != want {
		t.Fatalf("CoreText(%s) = %q, not %q", shown(c), got, want)
	}
	if !impl.Alike(c, c) {
		t.Fatalf("%s is not like itself", shown(c))
	}
}

func checkAlike(t *testing.T, a, b impl.Core) bool {
	t.Helper()
	want := alikeOf(a, b)
	if impl.Alike(a, b) != want || impl.Alike(b, a) != want {
		t.Fatalf("Alike(%s, %s) = %v, the other way %v", shown(a), shown(b), impl.Alike(a, b), impl.Alike(b, a))
	}
	return want
}

func TestCoreConstants(t *testing.T) {
	ops := []int{impl.CoNum, impl.CoVar, impl.CoFun, impl.CoApp, impl.CoLet, impl.CoRec, impl.CoIf, impl.CoAdd, impl.CoSub, impl.CoMul, impl.CoLess, impl.CoSame, impl.CoNil, impl.CoCons, impl.CoCar, impl.CoCdr, impl.CoPair, impl.CoPut}
	for i, op := range ops {
		if op != i+1 {
			t.Errorf("the Op of number %d is %d", i+1, op)
		}
	}
	if len(ops) != 18 || impl.MaxCore != 3000 || impl.MaxCoreDeep != 150 {
		t.Error(len(ops), impl.MaxCore, impl.MaxCoreDeep)
	}
}

func TestCoreSizeTable(t *testing.T) {
	for s, want := range map[string]int{
		"1": 1, "x": 1, "()": 1, "(fun x x)": 2, "(app x y)": 3, "(let x 1 x)": 3, "(rec f n (app f n) f)": 5, "(if 1 2 3)": 4, "(+ 1 2)": 3, "(- 1 2)": 3, "(* 1 2)": 3, "(< 1 2)": 3, "(= 1 2)": 3, "(cons 1 ())": 3, "(car x)": 2, "(cdr x)": 2, "(pair? x)": 2, "(put 1)": 2,
		"(if (+ 1 2) (put (put 3)) (cons 1 (cons 2 (cons 3 ()))))": 14, "(put)": 1, "(if 1)": 2, "(put 1 2 3 4)": 5,
	} {
		if got := impl.CoreSize(core(t, s)); got != want {
			t.Errorf("CoreSize(%s) = %d, not %d", s, got, want)
		}
	}
	if impl.CoreSize(impl.Core{}) != 1 || impl.CoreSize(cop(-1, cop(19), cop(99, cnum(1)))) != 4 || impl.CoreSize(impl.Core{Op: impl.CoNum, Kids: []impl.Core{cnum(1)}}) != 2 {
		t.Error("CoreSize of what is none")
	}
}

func TestCoreOkTakes(t *testing.T) {
	for _, s := range []string{
		"0", "7", "-7", "()", "(fun x 1)", "(fun x x)", "(app 1 2)", "(let x 1 x)", "(let x 1 2)", "(rec f n n f)", "(rec f n f f)", "(rec f n 1 2)", "(if 1 2 3)", "(+ 1 2)", "(- 1 2)", "(* 1 2)", "(< 1 2)", "(= 1 2)", "(cons 1 ())", "(car ())", "(cdr 1)", "(pair? 1)", "(put 1)",
		"(fun x (fun y (cons x y)))", "(fun x (fun x x))", "(fun x (app (fun x x) x))", "(fun x (app x (fun x x)))", "(fun x (let x x x))", "(let x 1 (let x x x))", "(let x (let x 1 x) x)", "(let x (fun x x) (app x x))", "(let y 1 (let x y (+ x y)))",
		"(rec f f f f)", "(rec f n (app f n) (app f 1))", "(rec f n (rec n f (app f n) (app n f)) f)", "(fun n (rec f n n n))", "(rec f n (fun n (app f n)) f)", "(fun x (if x x x))", "(fun x (if (let x x x) (rec x x x x) (fun x x)))",
		"(+ (fun x x) ())", "(if (put 1) (cons (car ()) (cdr 2)) (pair? (* 2 3)))", "(app (app (fun x (fun y x)) 1) 2)",
	} {
		c := core(t, s)
		if !impl.CoreOk(c) {
			t.Errorf("CoreOk(%s) = false", s)
		}
		checkCore(t, c)
	}
}

func TestCoreOkBound(t *testing.T) {
	for _, s := range []string{
		"x", "(fun y x)", "(app (fun x x) x)", "(app x (fun x x))", "(+ (let x 1 2) x)", "(let x x 1)", "(let x x x)", "(let x (fun y x) x)", "(let x 1 y)", "(let x (let x x x) x)", "(let x (let y 1 y) y)",
		"(rec f n n n)", "(rec f n 1 n)", "(rec f n x f)", "(rec f n f x)", "(rec f n (fun m n) (fun m n))", "(app (rec f n n f) f)", "(app (rec f n n f) n)", "(if (fun x x) x 1)", "(if 1 (fun x x) x)", "(if x (fun x x) 1)", "(fun f (rec f n n n))",
		"(car x)", "(cons 1 (cons x ()))", "(put (put x))", "(fun x (+ x (- 1 y)))", "(app (fun x (fun y y)) (fun z y))", "(fun xx x)", "(fun x xx)",
	} {
		c := core(t, s)
		if impl.CoreOk(c) {
			t.Errorf("CoreOk(%s) = true", s)
		}
		checkCore(t, c)
	}
}

// aboutCore stands for each place at which a core may stand in another one, all of which bind x.
func aboutCore() []func(impl.Core) impl.Core {
	one := cnum(1)
	places := []func(impl.Core) impl.Core{
		func(c impl.Core) impl.Core { return cfun("x", c) },
		func(c impl.Core) impl.Core { return cfun("x", clet("y", c, one)) },
		func(c impl.Core) impl.Core { return clet("x", one, c) },
		func(c impl.Core) impl.Core { return crec("x", "y", c, one) },
		func(c impl.Core) impl.Core { return crec("y", "x", c, one) },
		func(c impl.Core) impl.Core { return crec("x", "y", one, c) },
	}
	for op := range 30 {
		if coreNames(op) > 0 {
			continue
		}
		for at := range max(coreArity(op), 0) {
			places = append(places, func(c impl.Core) impl.Core {
				kids := slices.Repeat([]impl.Core{one}, coreArity(op))
				kids[at] = c
				return cfun("x", cop(op, kids...))
			})
		}
	}
	return places
}

// wrongParts are no right core, whatever stands about them.
func wrongParts() map[string]impl.Core {
	one := cnum(1)
	wrong := map[string]impl.Core{
		"zero": {}, "an Op below": cop(0), "an Op far below": cop(-1), "an Op above": cop(19), "an Op above with a kid": cop(19, one), "the least Op": cop(math.MinInt), "the greatest Op": cop(math.MaxInt),
		"below the least word": cnum(leastWord - 1), "above the greatest word": cnum(greatestWord + 1), "the least int": cnum(math.MinInt), "the greatest int": cnum(math.MaxInt),
		"no name": cvar(""), "a function of no name": cfun("", one), "a let of no name": clet("", one, one), "a rec of no names": crec("", "", one, one), "a rec without S": crec("", "y", one, one), "a rec without T": crec("x", "", one, one),
	}
	for op := impl.CoNum; op <= impl.CoPut; op++ {
		right := cop(op, slices.Repeat([]impl.Core{one}, coreArity(op))...)
		for i, name := range []*string{&right.S, &right.T} {
			if i < coreNames(op) {
				*name = "x"
			}
		}
		spoil := func(what string, turn func(c *impl.Core)) {
			c := right
			c.Kids = slices.Clone(c.Kids)
			turn(&c)
			wrong[what+" "+strconv.Itoa(op)] = c
		}
		spoil("a kid more", func(c *impl.Core) { c.Kids = append(c.Kids, one) })
		if len(right.Kids) > 0 {
			spoil("a kid less", func(c *impl.Core) { c.Kids = c.Kids[1:] })
			spoil("no kid", func(c *impl.Core) { c.Kids = nil })
		}
		if op != impl.CoNum {
			spoil("a number", func(c *impl.Core) { c.N = 1 })
			spoil("a number below", func(c *impl.Core) { c.N = -1 })
		}
		if coreNames(op) < 1 {
			spoil("a name", func(c *impl.Core) { c.S = "x" })
		}
		if coreNames(op) < 2 {
			spoil("another name", func(c *impl.Core) { c.T = "x" })
		}
		if coreNames(op) == 0 {
			spoil("both names", func(c *impl.Core) { c.S, c.T = "x", "x" })
		}
	}
	return wrong
}

func TestCoreOkRefuses(t *testing.T) {
	for what, c := range wrongParts() {
		if impl.CoreOk(c) {
			t.Errorf("%s: CoreOk(%s) = true", what, shown(c))
		}
		checkCore(t, c)
		for i, about := range aboutCore() {
			if impl.CoreOk(about(c)) {
				t.Errorf("%s, at place %d: CoreOk(%s) = true", what, i, shown(about(c)))
			}
			checkCore(t, about(c))
		}
	}
	for i, about := range aboutCore() {
		for _, s := range []string{"x", "1", "(fun y (app x y))", "(let x x x)"} {
			if !impl.CoreOk(about(core(t, s))) {
				t.Errorf("at place %d: CoreOk(%s) = false", i, shown(about(core(t, s))))
			}
		}
		if impl.CoreOk(about(cvar("z"))) {
			t.Errorf("at place %d: a name that nothing binds is right", i)
		}
	}
}

func TestCoreOkNumbers(t *testing.T) {
	for _, n := range manyInts() {
		right := leastWord <= n && n <= greatestWord
		for _, c := range []impl.Core{cnum(n), cfun("x", cnum(n)), cop(impl.CoAdd, cnum(1), cnum(n))} {
			if impl.CoreOk(c) != right {
				t.Errorf("CoreOk(%s) = %v", shown(c), !right)
			}
		}
		if c := (impl.Core{Op: impl.CoNil, N: n}); impl.CoreOk(c) != (n == 0) {
			t.Errorf("CoreOk(%s) = %v", shown(c), n != 0)
		}
	}
	for _, n := range []int{leastWord, greatestWord} {
		if !impl.CoreOk(cnum(n)) || impl.CoreText(cnum(n)) != strconv.Itoa(n) {
			t.Error("a word at the ends", n)
		}
	}
}

// Names of a core are texts that are not empty; whether they are SymOk is asked elsewhere.
func TestCoreOkOddNames(t *testing.T) {
	for _, s := range []string{" ", "(", "A", "1", "_", "...", "\x00", "\xff", "a b", "()", "é", strings.Repeat("x", 5000)} {
		for _, c := range []impl.Core{cfun(s, cvar(s)), clet(s, cnum(1), cvar(s)), crec(s, "n", cvar(s), cvar(s)), crec("n", s, cvar(s), cvar("n")), crec(s, s, cvar(s), cvar(s))} {
			if !impl.CoreOk(c) {
				t.Errorf("CoreOk(%s) = false", shown(c))
			}
			checkCore(t, c)
			if other := cfun("other", cvar(s)); impl.CoreOk(other) {
				t.Errorf("CoreOk(%s) = true", shown(other))
			}
		}
	}
}

// bushOf is of that many parts, few of them within each other.
func bushOf(size int) impl.Core {
	if size == 1 {
		return cnum(1)
	}
	if size%2 == 0 {
		return cop(impl.CoPut, bushOf(size-1))
	}
	left := (size - 1) / 2
	return cop(impl.CoAdd, bushOf(left), bushOf(size-1-left))
}

func TestCoreOkSize(t *testing.T) {
	for _, size := range []int{1, 2, 3, 100, impl.MaxCore - 1, impl.MaxCore, impl.MaxCore + 1, impl.MaxCore + 2, 2 * impl.MaxCore, 100000} {
		c := bushOf(size)
		if impl.CoreSize(c) != size {
			t.Fatalf("CoreSize of %d is %d", size, impl.CoreSize(c))
		}
		if impl.CoreOk(c) != (size <= impl.MaxCore) {
			t.Errorf("CoreOk of %d parts is %v", size, size > impl.MaxCore)
		}
		checkCore(t, c)
	}
	for _, left := range []int{1, 2, 1000, impl.MaxCore - 3, impl.MaxCore - 2} {
		right := impl.MaxCore - 1 - left
		for _, most := range []bool{true, false} {
			c := clet("x", bushOf(left), bushOf(right))
			if !most {
				c = clet("x", bushOf(left), bushOf(right+1))
			}
			if impl.CoreOk(c) != most {
				t.Errorf("CoreOk of %d and %d parts in a let is %v", left, right, !most)
			}
		}
	}
}

// deepCore has that many about c, all at one place.
func deepCore(about func(impl.Core) impl.Core, deep int, c impl.Core) impl.Core {
	for range deep {
		c = about(c)
	}
	return c
}

func TestCoreOkDeep(t *testing.T) {
	one := cnum(1)
	for i, about := range []func(impl.Core) impl.Core{
		func(c impl.Core) impl.Core { return cop(impl.CoPut, c) },
		func(c impl.Core) impl.Core { return cfun("x", c) },
		func(c impl.Core) impl.Core { return clet("x", c, one) },
		func(c impl.Core) impl.Core { return clet("x", one, c) },
		func(c impl.Core) impl.Core { return crec("x", "y", c, one) },
		func(c impl.Core) impl.Core { return crec("x", "y", one, c) },
		func(c impl.Core) impl.Core { return cop(impl.CoIf, c, one, one) },
		func(c impl.Core) impl.Core { return cop(impl.CoIf, one, one, c) },
		func(c impl.Core) impl.Core { return cop(impl.CoCons, one, c) },
	} {
		for _, deep := range []int{impl.MaxCoreDeep - 1, impl.MaxCoreDeep, impl.MaxCoreDeep + 1, impl.MaxCoreDeep + 2} {
			c := deepCore(about, deep-1, one)
			if impl.CoreOk(c) != (deep <= impl.MaxCoreDeep) {
				t.Errorf("place %d: CoreOk of %d within each other is %v", i, deep, impl.CoreOk(c))
			}
			checkCore(t, c)
		}
		c := cfun("far", deepCore(about, impl.MaxCoreDeep-2, cvar("far")))
		if !impl.CoreOk(c) || impl.CoreOk(cop(impl.CoPut, c)) {
			t.Errorf("place %d: a name that is bound far about it", i)
		}
	}
}

// A core that has itself as a kid has no end; what looks at it is to end at the limits.
func TestCoreOkEnds(t *testing.T) {
	kids := make([]impl.Core, 2)
	kids[0] = impl.Core{Op: impl.CoAdd, Kids: kids}
	kids[1] = impl.Core{Op: impl.CoAdd, Kids: kids}
	if impl.CoreOk(kids[0]) || impl.CoreOk(cfun("x", kids[1])) {
		t.Error("a core without end is right")
	}
	for _, c := range []impl.Core{cnum(1), cop(impl.CoAdd, cnum(1), cnum(1)), bushOf(3000)} {
		if impl.Alike(c, kids[0]) || impl.Alike(kids[0], c) {
			t.Error("a core without end is like", shown(c))
		}
	}
}

func TestCoreTextTable(t *testing.T) {
	one := cnum(1)
	for want, c := range map[string]impl.Core{
		"0": cnum(0), "-5": cnum(-5), "x": cvar("x"), "()": cop(impl.CoNil), "(?)": {}, "": cvar(""), "(? 1)": cop(19, one), "(? () x)": cop(-1, cop(impl.CoNil), cvar("x")), "(? s t)": {Op: 20, S: "s", T: "t"}, "(? t)": {Op: 0, T: "t"}, "(? s t 1)": {Op: math.MaxInt, N: 3, S: "s", T: "t", Kids: []impl.Core{one}},
		"(fun x x)": cfun("x", cvar("x")), "(app f 1)": cop(impl.CoApp, cvar("f"), one), "(let x 1 x)": clet("x", one, cvar("x")), "(rec f n (app f n) f)": crec("f", "n", cop(impl.CoApp, cvar("f"), cvar("n")), cvar("f")), "(if 1 2 3)": cop(impl.CoIf, one, cnum(2), cnum(3)),
		"(+ 1 2)": cop(impl.CoAdd, one, cnum(2)), "(- 1 2)": cop(impl.CoSub, one, cnum(2)), "(* 1 2)": cop(impl.CoMul, one, cnum(2)), "(< 1 2)": cop(impl.CoLess, one, cnum(2)), "(= 1 2)": cop(impl.CoSame, one, cnum(2)), "(cons 1 ())": cop(impl.CoCons, one, cop(impl.CoNil)), "(car 1)": cop(impl.CoCar, one), "(cdr 1)": cop(impl.CoCdr, one), "(pair? 1)": cop(impl.CoPair, one), "(put 1)": cop(impl.CoPut, one),
		"(fun)": cop(impl.CoFun), "(fun 1)": cfun("", one), "(fun x)": {Op: impl.CoFun, S: "x"}, "(fun x y 1)": {Op: impl.CoFun, S: "x", T: "y", Kids: []impl.Core{one}}, "(fun y 1)": {Op: impl.CoFun, T: "y", Kids: []impl.Core{one}}, "(rec f 1)": {Op: impl.CoRec, S: "f", Kids: []impl.Core{one}}, "(rec n 1)": {Op: impl.CoRec, T: "n", Kids: []impl.Core{one}}, "(put s t 1)": {Op: impl.CoPut, S: "s", T: "t", Kids: []impl.Core{one}}, "(if)": cop(impl.CoIf), "(put 1 1 1)": cop(impl.CoPut, one, one, one), "(app )": cop(impl.CoApp, cvar("")), "(+ s 1 1)": {Op: impl.CoAdd, S: "s", N: 9, Kids: []impl.Core{one, one}},
		"7": {Op: impl.CoNum, N: 7, S: "s", T: "t", Kids: []impl.Core{one}}, "y": {Op: impl.CoVar, N: 7, S: "y", T: "t", Kids: []impl.Core{one}}, "(car ())": cop(impl.CoCar, impl.Core{Op: impl.CoNil, N: 7, S: "s", T: "t", Kids: []impl.Core{one}}),
		"-9223372036854775808": cnum(math.MinInt), "9223372036854775807": cnum(math.MaxInt), "(put 1073741824)": cop(impl.CoPut, cnum(greatestWord+1)),
	} {
		if got := impl.CoreText(c); got != want {
			t.Errorf("CoreText(%s) = %q, not %q", shown(c), got, want)
		}
		checkCore(t, c)
	}
}

func TestCoreTextIsReadByEye(t *testing.T) {
	for _, s := range []string{
		"(fun x (fun y (cons x y)))", "(let v0 (fun v1 (* v1 v1)) (app v0 12))", "(rec f n (if (< n 2) 1 (* n (app f (- n 1)))) (put (app f 5)))", "(if (pair? ()) (car (cons 1 2)) (cdr (cons () -3)))", "(= (+ 1 -1) (let a 0 (let b a b)))", "(rec f f f f)",
	} {
		if got := impl.CoreText(core(t, s)); got != s {
			t.Errorf("CoreText of %q is %q", s, got)
		}
	}
}

func TestCoreTextEachOp(t *testing.T) {
	for op := -3; op < 40; op++ {
		for _, names := range [][2]string{{"", ""}, {"s", ""}, {"", "t"}, {"s", "t"}, {"same", "same"}} {
			for kids := range 4 {
				c := impl.Core{Op: op, N: 5, S: names[0], T: names[1], Kids: slices.Repeat([]impl.Core{cnum(1)}, kids)}
				checkCore(t, c)
				checkCore(t, cfun("s", c))
			}
		}
	}
}

func TestAlikeTakes(t *testing.T) {
	for _, pair := range [][2]string{
		{"1", "1"}, {"()", "()"}, {"x", "x"}, {"(app x y)", "(app x y)"}, {"(fun x x)", "(fun y y)"}, {"(fun x 1)", "(fun y 1)"}, {"(fun x z)", "(fun y z)"}, {"(fun x (fun y (cons x y)))", "(fun y (fun x (cons y x)))"}, {"(fun x (fun x x))", "(fun x (fun y y))"}, {"(fun x (fun x x))", "(fun y (fun x x))"},
		{"(let x 1 x)", "(let y 1 y)"}, {"(let x x x)", "(let y x y)"}, {"(let x z x)", "(let z z z)"}, {"(fun x (let x x x))", "(fun x (let y x y))"}, {"(fun x (let x x x))", "(fun a (let b a b))"}, {"(let x (fun x x) x)", "(let a (fun b b) a)"},
		{"(rec f n (app f n) f)", "(rec g m (app g m) g)"}, {"(rec f n (app f n) f)", "(rec n f (app n f) n)"}, {"(rec f f f f)", "(rec f n n f)"}, {"(rec f f f f)", "(rec n f f n)"}, {"(rec f f f f)", "(rec a b b a)"}, {"(rec f n n n)", "(rec f m m n)"}, {"(rec f n 1 n)", "(rec g m 1 n)"}, {"(rec f n f x)", "(rec g x g x)"},
		{"(fun x (app (fun x x) x))", "(fun x (app (fun y y) x))"}, {"(fun x (app (fun x x) x))", "(fun a (app (fun b b) a))"}, {"(app (fun x x) x)", "(app (fun y y) x)"}, {"(app (fun x x) (fun x x))", "(app (fun x x) (fun y y))"}, {"(if (fun a a) (let a 1 a) (rec a b b a))", "(if (fun b b) (let c 1 c) (rec b a a b))"},
		{"(fun x (rec x x x x))", "(fun a (rec b c c b))"}, {"(fun x (rec f x (app f x) (app f x)))", "(fun a (rec b c (app b c) (app b a)))"}, {"(fun x (let x (let x x x) x))", "(fun a (let c (let b a b) c))"},
	} {
		a, b := core(t, pair[0]), core(t, pair[1])
		if !impl.Alike(a, b) || !impl.Alike(b, a) {
			t.Errorf("%s and %s are not alike", pair[0], pair[1])
		}
		checkAlike(t, a, b)
	}
}

func TestAlikeRefuses(t *testing.T) {
	for _, pair := range [][2]string{
		{"1", "2"}, {"1", "-1"}, {"0", "()"}, {"x", "y"}, {"x", "1"}, {"x", "()"}, {"(app x y)", "(app y x)"}, {"(app x y)", "(cons x y)"}, {"(fun x x)", "(fun x y)"}, {"(fun x x)", "(fun y x)"}, {"(fun x y)", "(fun y y)"}, {"(fun x y)", "(fun x z)"}, {"(fun x x)", "(fun x 1)"},
		{"(fun x (fun y (cons x y)))", "(fun y (fun x (cons x y)))"}, {"(fun x (fun y x))", "(fun x (fun y y))"}, {"(fun x (fun x x))", "(fun x (fun y x))"}, {"(fun x (fun y x))", "(fun x (fun x x))"},
		{"(let x 1 x)", "(let x 2 x)"}, {"(let x 1 x)", "(let y 1 x)"}, {"(let x x x)", "(let y y y)"}, {"(let x x 1)", "(let y y 1)"}, {"(fun x (let x x x))", "(fun x (let y y y))"}, {"(fun x (let x x x))", "(fun x (let y x x))"}, {"(let x 1 2)", "(fun x 2)"}, {"(let f 1 f)", "(rec f n 1 f)"},
		{"(rec f n (app f n) f)", "(rec f n (app n f) f)"}, {"(rec f f f f)", "(rec f n f f)"}, {"(rec f f f f)", "(rec n f n n)"}, {"(rec f n n n)", "(rec f n f n)"}, {"(rec f n n n)", "(rec f m m m)"}, {"(rec f n 1 f)", "(rec f n 1 n)"}, {"(rec f n 1 n)", "(rec f n 1 f)"}, {"(rec f n f f)", "(rec g n f g)"}, {"(rec f n 1 f)", "(rec g n 1 f)"},
		{"(fun x (app (fun x x) x))", "(fun x (app (fun y x) x))"}, {"(fun x (app (fun x x) x))", "(fun y (app (fun x x) x))"}, {"(app (fun x x) x)", "(app (fun y y) y)"}, {"(fun a (fun b (app (fun a a) a)))", "(fun a (fun b (app (fun a a) b)))"},
		{"(+ 1 2)", "(- 1 2)"}, {"(if 1 2 3)", "(if 1 2 4)"}, {"(if 1 2 3)", "(if 1 3 2)"}, {"(put 1)", "(put 1 1)"}, {"(put)", "(put 1)"}, {"(cons 1 ())", "(cons 1 0)"}, {"(car 1)", "(cdr 1)"}, {"(pair? 1)", "(put 1)"}, {"(if (put 1) 2)", "(if (put 1 2))"},
	} {
		a, b := core(t, pair[0]), core(t, pair[1])
		if impl.Alike(a, b) || impl.Alike(b, a) {
			t.Errorf("%s and %s are alike", pair[0], pair[1])
		}
		checkAlike(t, a, b)
	}
}

// S is looked at of CoVar alone, T of none, N of all.
func TestAlikeFields(t *testing.T) {
	for op := -2; op < 22; op++ {
		for kids := range 4 {
			plain := impl.Core{Op: op, N: 4, S: "x", T: "y", Kids: slices.Repeat([]impl.Core{cnum(1)}, kids)}
			turned := func(turn func(c *impl.Core)) impl.Core {
				c := plain
				c.Kids = slices.Clone(c.Kids)
				turn(&c)
				return c
			}
			for what, pair := range map[string]struct {
				c    impl.Core
				want bool
			}{
				"as it is": {plain, true},
				"T":        {turned(func(c *impl.Core) { c.T = "z" }), true},
				"no T":     {turned(func(c *impl.Core) { c.T = "" }), true},
				"S":        {turned(func(c *impl.Core) { c.S = "z" }), op != impl.CoVar},
				"no S":     {turned(func(c *impl.Core) { c.S = "" }), op != impl.CoVar},
				"N":        {turned(func(c *impl.Core) { c.N = 5 }), false},
				"Op":       {turned(func(c *impl.Core) { c.Op++ }), false},
				"a kid":    {turned(func(c *impl.Core) { c.Kids = append(c.Kids, cnum(1)) }), false},
			} {
				if impl.Alike(plain, pair.c) != pair.want || impl.Alike(cop(impl.CoPut, pair.c), cop(impl.CoPut, plain)) != pair.want {
					t.Errorf("%s: Alike(%s, %s) = %v", what, shown(plain), shown(pair.c), !pair.want)
				}
				checkAlike(t, plain, pair.c)
			}
		}
	}
}

// Where there are more kids than an Op has, or fewer, names are bound in those that the chapter tells of, and in no other.
func TestAlikeOfWrongKids(t *testing.T) {
	for _, op := range []int{impl.CoFun, impl.CoLet, impl.CoRec, impl.CoApp, impl.CoVar, impl.CoNum, 0, 19} {
		for kids := range 5 {
			for at := range kids {
				var list [2]impl.Core
				for i, s := range []string{"x", "y"} {
					list[i] = impl.Core{Op: op, S: s, T: s + "t", Kids: slices.Repeat([]impl.Core{cnum(1)}, kids)}
					list[i].Kids[at] = cvar(s)
				}
				bound := op == impl.CoFun && at == 0 || op == impl.CoLet && at == 1 || op == impl.CoRec && at < 2
				if impl.Alike(list[0], list[1]) != bound {
					t.Errorf("S of Op %d is bound in kid %d of %d: %v", op, at, kids, !bound)
				}
				checkAlike(t, list[0], list[1])
				list[0].Kids[at], list[1].Kids[at] = cvar("xt"), cvar("yt")
				if bound = op == impl.CoRec && at == 0; impl.Alike(list[0], list[1]) != bound {
					t.Errorf("T of Op %d is bound in kid %d of %d: %v", op, at, kids, !bound)
				}
			}
		}
	}
}

// An empty name is a name like another to Alike, which is asked of cores that are not right, too.
func TestAlikeOfEmptyNames(t *testing.T) {
	for _, pair := range []struct {
		a, b impl.Core
		want bool
	}{
		{cvar(""), cvar(""), true},
		{cvar(""), cvar("x"), false},
		{cfun("", cvar("")), cfun("x", cvar("x")), true},
		{cfun("", cvar("")), cfun("x", cvar("")), false},
		{cfun("", cvar("x")), cfun("y", cvar("x")), true},
		{crec("", "", cvar(""), cvar("")), crec("f", "n", cvar("n"), cvar("f")), true},
		{crec("", "", cvar(""), cvar("")), crec("f", "n", cvar("f"), cvar("f")), false},
	} {
		if impl.Alike(pair.a, pair.b) != pair.want || impl.Alike(pair.b, pair.a) != pair.want {
			t.Errorf("Alike(%s, %s) = %v", shown(pair.a), shown(pair.b), !pair.want)
		}
	}
}

// everyCore is each core of that many parts, with the names x and y, right but for names that are not bound.
func everyCore(parts int, each func(impl.Core)) {
	names := []string{"x", "y"}
	if parts == 1 {
		for _, c := range []impl.Core{cnum(1), cvar("x"), cvar("y")} {
			each(c)
		}
		return
	}
	everyCore(parts-1, func(e impl.Core) {
		each(cfun("x", e))
		each(cfun("y", e))
	})
	for left := 1; left < parts-1; left++ {
		everyCore(left, func(a impl.Core) {
			everyCore(parts-1-left, func(b impl.Core) {
				each(cop(impl.CoCons, a, b))
				for _, s := range names {
					each(clet(s, a, b))
					for _, of := range names {
						each(crec(s, of, a, b))
					}
				}
			})
		})
	}
}

func TestCoreSmallCores(t *testing.T) {
	count, right := 0, 0
	for parts := 1; parts <= 5; parts++ {
		everyCore(parts, func(c impl.Core) {
			checkCore(t, c)
			count++
			if impl.CoreOk(c) {
				right++
			}
		})
	}
	if count < 4000 || right < 500 || count-right < 500 {
		t.Errorf("of %d cores %d are right", count, right)
	}
}

// nameless is what is left of a core without its names: only those that have the same may be alike.
func nameless(c impl.Core) string {
	text := strconv.Itoa(c.Op)
	for _, kid := range c.Kids {
		text += "(" + nameless(kid) + ")"
	}
	return text
}

func TestAlikeSmallCores(t *testing.T) {
	alike, unlike := 0, 0
	for parts := 1; parts <= 5; parts++ {
		groups := map[string][]impl.Core{}
		everyCore(parts, func(c impl.Core) {
			groups[nameless(c)] = append(groups[nameless(c)], c)
		})
		for _, group := range groups {
			for i, a := range group {
				for _, b := range group[i:] {
					if checkAlike(t, a, b) {
						alike++
					} else {
						unlike++
					}
				}
			}
		}
	}
	if alike < 5000 || unlike < 5000 {
		t.Errorf("%d are alike, %d are not", alike, unlike)
	}
}

// core makes one whose names are bound about it, but for some that stand for one of them.
func (m *dataMaker) core(deep int, about []string) impl.Core {
	if deep == 0 || m.pick(6) == 0 {
		return m.coreLeaf(about)
	}
	op := 1 + m.pick(18)
	c := impl.Core{Op: op}
	switch {
	case coreArity(op) == 0:
		return m.coreLeaf(about)
	case coreNames(op) > 0:
		c.S = m.coreName()
	}
	if op == impl.CoRec {
		c.T = m.coreName()
	}
	for i := range coreArity(op) {
		c.Kids = append(c.Kids, m.core(deep-1, namesBoundIn(c, i, about)))
	}
	return c
}

func (m *dataMaker) coreName() string {
	return []string{"a", "b", "c", "d"}[m.pick(4)]
}

func (m *dataMaker) coreLeaf(about []string) impl.Core {
	switch m.pick(8) {
	case 0:
		return cop(impl.CoNil)
	case 1:
		return cnum(m.pick(9) - 4)
	case 2:
		return cnum([]int{leastWord, greatestWord}[m.pick(2)])
	}
	if len(about) == 0 {
		return cnum(3)
	}
	return cvar(about[m.pick(len(about))])
}

// partsOf are the places of all parts of c, which may be written to.
func partsOf(c *impl.Core) []*impl.Core {
	list := []*impl.Core{c}
	for i := range c.Kids {
		list = append(list, partsOf(&c.Kids[i])...)
	}
	return list
}

// twistCore is c with one thing in it that is another one, which may be no right one.
func (m *dataMaker) twistCore(c impl.Core) impl.Core {
	c = wholeCore(c)
	parts := partsOf(&c)
	part := parts[m.pick(len(parts))]
	switch m.pick(9) {
	case 0, 1, 2:
		part.S = m.coreName()
	case 3:
		part.T = m.coreName()
	case 4:
		part.S = ""
	case 5:
		part.Op = m.pick(21)
	case 6:
		part.N = []int{0, 1, -1, leastWord - 1, greatestWord + 1}[m.pick(5)]
	case 7:
		part.Kids = append(part.Kids, m.coreLeaf([]string{"a", "b"}))
	case 8:
		part.Kids = part.Kids[:m.pick(len(part.Kids)+1)]
	}
	return c
}

// renamedCore has another name, which stands nowhere else, for each that is bound.
func renamedCore(c impl.Core, about map[string]string, count *int) impl.Core {
	fresh := func() string {
		*count++
		return "new" + strconv.Itoa(*count)
	}
	if c.Op == impl.CoVar {
		if name, bound := about[c.S]; bound {
			c.S = name
		}
		return c
	}
	with := func(pairs ...string) map[string]string {
		all := map[string]string{}
		for name, to := range about {
			all[name] = to
		}
		for i := 0; i < len(pairs); i += 2 {
			all[pairs[i]] = pairs[i+1]
		}
		return all
	}
	abouts := []map[string]string{about, about, about}
	oldS, oldT := c.S, c.T
	switch c.Op {
	case impl.CoFun:
		c.S = fresh()
		abouts[0] = with(oldS, c.S)
	case impl.CoLet:
		c.S = fresh()
		abouts[1] = with(oldS, c.S)
	case impl.CoRec:
		c.S, c.T = fresh(), fresh()
		abouts[0], abouts[1] = with(oldS, c.S, oldT, c.T), with(oldS, c.S)
	}
	var kids []impl.Core
	for i, kid := range c.Kids {
		kids = append(kids, renamedCore(kid, abouts[i], count))
	}
	c.Kids = kids
	return c
}

func TestCoresOfMany(t *testing.T) {
	m := dataMaker{seed: 9}
	alike, unlike, right, wrong := 0, 0, 0, 0
	for range 6000 {
		c := m.core(2+m.pick(5), []string{"a", "b"}[:m.pick(3)])
		checkCore(t, c)
		if impl.CoreOk(c) {
			right++
		} else {
			wrong++
		}
		if other := renamedCore(c, nil, new(int)); !impl.Alike(c, other) || !impl.Alike(other, c) || impl.CoreOk(other) != impl.CoreOk(c) || impl.CoreSize(other) != impl.CoreSize(c) {
			t.Fatalf("%s is not like %s", impl.CoreText(c), impl.CoreText(other))
		}
		twisted := m.twistCore(c)
		checkCore(t, twisted)
		if checkAlike(t, c, twisted) {
			alike++
		} else {
			unlike++
		}
	}
	if alike < 300 || unlike < 300 || right < 300 || wrong < 300 {
		t.Errorf("%d are alike, %d are not; %d are right, %d are not", alike, unlike, right, wrong)
	}
}

func TestEachCoreIsLikeItself(t *testing.T) {
	m := dataMaker{seed: 90}
	for range 3000 {
		c := m.core(2+m.pick(6), []string{"a", "b"}[:m.pick(3)])
		for range m.pick(4) {
			c = m.twistCore(c)
		}
		if !impl.Alike(c, c) || !impl.Alike(c, wholeCore(c)) {
			t.Fatalf("%s is not like itself", shown(c))
		}
	}
	for what, c := range wrongParts() {
		if !impl.Alike(c, c) || !impl.Alike(c, wholeCore(c)) {
			t.Errorf("%s: %s is not like itself", what, shown(c))
		}
	}
}

// Alike the one and alike the other, they are alike.
func TestAlikeGoesOn(t *testing.T) {
	m := dataMaker{seed: 900}
	met := 0
	for range 3000 {
		a := m.core(3, []string{"a"})
		b, c := m.twistCore(a), m.twistCore(a)
		if impl.Alike(a, b) && impl.Alike(a, c) {
			met++
			if !impl.Alike(b, c) {
				t.Fatalf("%s, %s, %s", shown(a), shown(b), shown(c))
			}
		}
	}
	if met < 20 {
		t.Error("too few were met:", met)
	}
}

// Cores that are far from right are answered, too, however deep or wide they are.
func TestDeepCoresAreAnswered(t *testing.T) {
	const deep = 400000
	for i, about := range []func(impl.Core) impl.Core{
		func(c impl.Core) impl.Core { return cop(impl.CoPut, c) },
		func(c impl.Core) impl.Core { return cfun("x", c) },
		func(c impl.Core) impl.Core { return crec("x", "x", c, cvar("x")) },
	} {
		c, other := deepCore(about, deep, cvar("x")), deepCore(about, deep, cnum(1))
		per := impl.CoreSize(about(cnum(1))) - 1
		if impl.CoreSize(c) != per*deep+1 || impl.CoreOk(c) || !impl.Alike(c, c) || impl.Alike(c, other) || impl.Alike(other, c) {
			t.Error("a deep core", i)
		}
		if text := impl.CoreText(c); !strings.HasPrefix(text, "(") || !strings.HasSuffix(text, ")") || strings.Count(text, "(") != deep {
			t.Error("the text of a deep core", i)
		}
	}
	wide := cfun("x", cop(impl.CoPut, slices.Repeat([]impl.Core{cvar("x")}, deep)...))
	if impl.CoreSize(wide) != deep+2 || impl.CoreOk(wide) || !impl.Alike(wide, wide) || len(impl.CoreText(wide)) != len("(fun x (put))")+2*deep {
		t.Error("a wide core")
	}
}

// manyLets binds that many names, each to the one about it.
func manyLets(name string, count int) impl.Core {
	c := cnum(1)
	for i := range count {
		c = clet(name+strconv.Itoa(i), cvar(name+strconv.Itoa(i+1)), c)
	}
	return clet(name+strconv.Itoa(count), cnum(1), c)
}

// Names that are many do not make it slow.
func TestManyBoundNames(t *testing.T) {
	c := manyLets("v", 100000)
	if !impl.Alike(c, manyLets("w", 100000)) || impl.Alike(c, manyLets("v", 99999)) || impl.Alike(c, c.Kids[1]) || impl.CoreSize(c) != 200003 {
		t.Error("many names")
	}
}

// roomyCore has more room behind each list, in which there stands something.
func roomyCore(c impl.Core) impl.Core {
	kids := make([]impl.Core, 0, len(c.Kids)+2)
	for _, kid := range c.Kids {
		kids = append(kids, roomyCore(kid))
	}
	_ = append(kids, cvar("behind"), cvar("far behind"))
	c.Kids = kids
	return c
}

// widenedCore has what stands in the room behind its lists, too.
func widenedCore(c impl.Core) impl.Core {
	var kids []impl.Core
	for _, kid := range c.Kids[:cap(c.Kids)] {
		kids = append(kids, widenedCore(kid))
	}
	c.Kids = kids
	return c
}

func spoilCore(c impl.Core) {
	for i := range c.Kids {
		spoilCore(c.Kids[i])
		c.Kids[i] = cvar("spoilt")
	}
}

func TestCoresAreNotWritten(t *testing.T) {
	m := dataMaker{seed: 99}
	for range 300 {
		a := roomyCore(m.core(4, []string{"a", "b"}))
		b := roomyCore(m.twistCore(a))
		wantA, wantB := widenedCore(a), widenedCore(b)
		impl.CoreSize(a)
		impl.CoreOk(a)
		impl.CoreOk(b)
		impl.CoreText(a)
		impl.CoreText(b)
		impl.Alike(a, b)
		impl.Alike(b, a)
		impl.Alike(a, renamedCore(a, nil, new(int)))
		if !equalCores(widenedCore(a), wantA) || !equalCores(widenedCore(b), wantB) {
			t.Fatal("a core was written into:", shown(wantA), shown(wantB))
		}
	}
}

func TestCoreTextIsNew(t *testing.T) {
	m := dataMaker{seed: 999}
	for range 300 {
		c := wholeCore(m.core(4, []string{"a", "b"}))
		want := coreText(c)
		text := impl.CoreText(c)
		spoilCore(c)
		if text != want {
			t.Fatalf("%q became %q", want, text)
		}
	}
}

func TestCoresKeepNothing(t *testing.T) {
	m := dataMaker{seed: 9999}
	free, bound := cvar("a"), cfun("a", cvar("a"))
	for range 300 {
		impl.CoreOk(m.core(4, nil))
		impl.Alike(m.twistCore(m.core(4, nil)), m.core(4, nil))
		impl.Alike(cfun("a", cnum(1)), cfun("a", cnum(2)))
		if impl.CoreOk(free) || !impl.CoreOk(bound) || impl.Alike(free, cvar("b")) || !impl.Alike(free, free) || impl.CoreSize(bound) != 2 || impl.CoreText(bound) != "(fun a a)" {
			t.Fatal("something was kept from one call to another")
		}
	}
}

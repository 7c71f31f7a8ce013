package tests

import (
	"math"
	"reflect"
	"slices"
	"strconv"
	"strings"
	"sync"
	"testing"

	"loop.example/g00396/impl"
)

func vint(n int) impl.Value { return impl.Value{Kind: impl.VlInt, N: n} }
func vnil() impl.Value      { return impl.Value{Kind: impl.VlNil} }
func vfun() impl.Value      { return impl.Value{Kind: impl.VlFun} }

func vpair(kids ...impl.Value) impl.Value {
	return impl.Value{Kind: impl.VlPair, Kids: kids}
}

// wholeValue is v with nil for lists that are empty, as reflect tells them apart.
func wholeValue(v impl.Value) impl.Value {
	var kids []impl.Value
	for _, kid := range v.Kids {
		kids = append(kids, wholeValue(kid))
	}
	v.Kids = kids
	return v
}

func equalResults(a, b impl.Result) bool {
	return a.Code == b.Code && slices.Equal(a.Out, b.Out) && reflect.DeepEqual(wholeValue(a.Value), wholeValue(b.Value))
}

func valueText(v impl.Value) string {
	switch v.Kind {
	case impl.VlInt:
		return strconv.Itoa(v.N)
	case impl.VlNil:
		return "()"
	case impl.VlPair:
		texts := []string{"?", "?"}
		for i := range min(len(v.Kids), 2) {
			texts[i] = valueText(v.Kids[i])
		}
		return "(" + texts[0] + " . " + texts[1] + ")"
	}
	return "fun"
}

func valueDeep(v impl.Value) int {
	deep := 0
	for _, kid := range v.Kids {
		deep = max(deep, valueDeep(kid))
	}
	return deep + 1
}

func rightValueParts(v impl.Value) bool {
	kids := 0
	switch v.Kind {
	case impl.VlInt:
		if v.N < leastWord || v.N > greatestWord {
			return false
		}
	case impl.VlPair:
		kids = 2
	case impl.VlNil, impl.VlFun:
	default:
		return false
	}
	if len(v.Kids) != kids || v.N != 0 && v.Kind != impl.VlInt {
		return false
	}
	return !slices.ContainsFunc(v.Kids, func(kid impl.Value) bool { return !rightValueParts(kid) })
}

func checkValue(t *testing.T, v impl.Value) bool {
	t.Helper()
	right := rightValueParts(v) && valueDeep(v) <= 200
	if impl.ValueOk(v) != right {
		t.Fatalf("ValueOk(%s) = %v", shown(v), !right)
	}
	if got, want := impl.ValueText(v), valueText(v); got != want {
		t.Fatalf("ValueText(%s) = %q, not %q", shown(v), got, want)
	}
	return right
}

// resultText tells a result as the tables of this file do, and "wrong" of one that can't be.
func resultText(r impl.Result) string {
	text := []string{"", "fuel", "stuck"}
	if r.Code < 0 || r.Code > 2 {
		return "wrong code " + strconv.Itoa(r.Code)
	}
	if r.Code != impl.EvDone && (r.Value.Kind != 0 || r.Value.N != 0 || len(r.Value.Kids) > 0) {
		return "wrong value " + shown(r)
	}
	told := text[r.Code]
	if r.Code == impl.EvDone {
		told = valueText(r.Value)
	}
	if len(r.Out) > 0 {
		told += " out"
	}
	for _, n := range r.Out {
		told += " " + strconv.Itoa(n)
	}
	return told
}

// The second one below knows of nothing that is bound: it puts what a name means in the place of the name.

type term struct {
	impl.Core
	kids  []*term
	known *thing
}

type thing struct {
	kind, n   int
	first     *thing
	other     *thing
	self, arg string
	e         *term
}

func termOf(c impl.Core) *term {
	x := &term{Core: c}
	for _, kid := range c.Kids {
		x.kids = append(x.kids, termOf(kid))
	}
	return x
}

func putIn(x *term, name string, v *thing) *term {
	if x.known != nil || name == "" {
		return x
	}
	if x.Op == impl.CoVar && x.S == name {
		return &term{known: v}
	}
	other := &term{Core: x.Core}
	for i, kid := range x.kids {
		if !slices.Contains(namesBoundIn(x.Core, i, nil), name) {
			kid = putIn(kid, name, v)
		}
		other.kids = append(other.kids, kid)
	}
	return other
}

// thingRun counts up what was begun. Its code is not 0 when it has ended, and all that goes on then means nothing.
type thingRun struct {
	fuel, begun int
	code        int
	out         []int
}

func (r *thingRun) end(code int) *thing {
	if r.code == 0 {
		r.code = code
	}
	return &thing{}
}

func truth(is bool) int {
	if is {
		return 1
	}
	return 0
}

func (r *thingRun) of(x *term) *thing {
	if r.code != 0 {
		return &thing{}
	}
	if r.begun++; r.begun > r.fuel {
		return r.end(impl.EvFuel)
	}
	if x.known != nil {
		return x.known
	}
	switch x.Op {
	case impl.CoFun:
		return &thing{kind: impl.VlFun, arg: x.S, e: x.kids[0]}
	case impl.CoLet:
		first := r.of(x.kids[0])
		return r.of(putIn(x.kids[1], x.S, first))
	case impl.CoRec:
		return r.of(putIn(x.kids[1], x.S, &thing{kind: impl.VlFun, self: x.S, arg: x.T, e: x.kids[0]}))
	case impl.CoIf:
		first := r.of(x.kids[0])
		return r.of(x.kids[1+truth(first.kind == impl.VlInt && first.n == 0)])
	}
	var kids []*thing
	for _, kid := range x.kids {
		kids = append(kids, r.of(kid))
	}
	if r.code != 0 {
		return &thing{}
	}
	return r.ofKids(x, kids)
}

func (r *thingRun) ofKids(x *term, kids []*thing) *thing {
	intThing := func(n int) *thing { return &thing{kind: impl.VlInt, n: n} }
	allInts := !slices.ContainsFunc(kids, func(kid *thing) bool { return kid.kind != impl.VlInt })
	isPair := len(kids) > 0 && kids[0].kind == impl.VlPair
	switch {
	case x.Op == impl.CoNum:
		return intThing(x.N)
	case x.Op == impl.CoNil:
		return &thing{kind: impl.VlNil}
	case x.Op == impl.CoCons:
		return &thing{kind: impl.VlPair, first: kids[0], other: kids[1]}
	case x.Op == impl.CoPair:
		return intThing(truth(isPair))
	case x.Op == impl.CoCar && isPair:
		return kids[0].first
	case x.Op == impl.CoCdr && isPair:
		return kids[0].other
	case x.Op == impl.CoApp && kids[0].kind == impl.VlFun:
		f := kids[0]
		return r.of(putIn(putIn(f.e, f.arg, kids[1]), f.self, f))
	case x.Op == impl.CoPut && allInts:
		r.out = append(r.out, kids[0].n)
		return kids[0]
	case x.Op == impl.CoAdd && allInts:
		return intThing(roundOf(kids[0].n + kids[1].n))
	case x.Op == impl.CoSub && allInts:
		return intThing(roundOf(kids[0].n - kids[1].n))
	case x.Op == impl.CoMul && allInts:
		return intThing(roundOf(kids[0].n * kids[1].n))
	case x.Op == impl.CoLess && allInts:
		return intThing(truth(kids[0].n < kids[1].n))
	case x.Op == impl.CoSame && allInts:
		return intThing(truth(kids[0].n == kids[1].n))
	}
	return r.end(impl.EvStuck)
}

func thingDeep(v *thing, known map[*thing]int) int {
	if v == nil {
		return 0
	}
	if known[v] == 0 {
		known[v] = 1 + max(thingDeep(v.first, known), thingDeep(v.other, known))
	}
	return known[v]
}

func thingValue(v *thing) impl.Value {
	value := impl.Value{Kind: v.kind, N: v.n}
	if v.kind == impl.VlPair {
		value.Kids = []impl.Value{thingValue(v.first), thingValue(v.other)}
	}
	return value
}

func evalOf(c impl.Core, fuel int) impl.Result {
	if !rightCore(c) {
		return impl.Result{Code: impl.EvStuck}
	}
	r := thingRun{fuel: min(fuel, 4000)}
	v := r.of(termOf(c))
	if r.code == 0 && thingDeep(v, map[*thing]int{}) > 16 {
		r.code = impl.EvFuel
	}
	if r.code != 0 {
		return impl.Result{Code: r.code, Out: r.out}
	}
	return impl.Result{Code: impl.EvDone, Value: thingValue(v), Out: r.out}
}

// begunOf is how many cores are begun at most.
func begunOf(c impl.Core) int {
	r := thingRun{fuel: 4000}
	r.of(termOf(c))
	return r.begun
}

func checkEval(t *testing.T, c impl.Core, fuel int) impl.Result {
	t.Helper()
	got, want := impl.Eval(c, fuel), evalOf(c, fuel)
	if !equalResults(got, want) {
		t.Fatalf("Eval(%s, %d) is %s, not %s", shown(coreText(c)), fuel, shown(resultText(got)), shown(resultText(want)))
	}
	if got.Code == impl.EvDone && (!impl.ValueOk(got.Value) || impl.ValueText(got.Value) != valueText(want.Value)) {
		t.Fatalf("the value of %s is not right: %s", shown(coreText(c)), shown(got.Value))
	}
	return got
}

// checkMoreFuel asks, of a core that is right, that with more fuel it does what it did with less.
func checkMoreFuel(t *testing.T, c impl.Core) {
	t.Helper()
	all := impl.Eval(c, impl.MaxFuel)
	begun := begunOf(c)
	told := 0
	for _, fuel := range fuelsUpTo(begun) {
		r := checkEval(t, c, fuel)
		if len(r.Out) < told || len(r.Out) > len(all.Out) || !slices.Equal(r.Out, all.Out[:len(r.Out)]) {
			t.Fatalf("%s tells %v by %d, %v by all", shown(coreText(c)), r.Out, fuel, all.Out)
		}
		told = len(r.Out)
		if enough := fuel >= begun; r.Code != impl.EvFuel && !equalResults(r, all) || enough && !equalResults(r, all) || !enough && r.Code != impl.EvFuel {
			t.Fatalf("%s is %s by %d, %s by all", shown(coreText(c)), shown(resultText(r)), fuel, shown(resultText(all)))
		}
	}
}

// fuelsUpTo are all of few, and of many those about the ends.
func fuelsUpTo(begun int) []int {
	var fuels []int
	for fuel := -1; fuel <= min(begun+2, 40); fuel++ {
		fuels = append(fuels, fuel)
	}
	for _, fuel := range []int{begun / 2, begun - 1, begun, begun + 1, 3999, 4000, 4001, 1000000} {
		if fuel > fuels[len(fuels)-1] {
			fuels = append(fuels, fuel)
		}
	}
	return fuels
}

// checkAlikeMeans asks that c means the same by other names.
func checkAlikeMeans(t *testing.T, c impl.Core) {
	t.Helper()
	other := renamedCore(c, nil, new(int))
	if !impl.Alike(c, other) {
		t.Fatalf("%s is not like %s", shown(coreText(c)), shown(coreText(other)))
	}
	for _, fuel := range []int{3, 7, 20, impl.MaxFuel} {
		if a, b := impl.Eval(c, fuel), impl.Eval(other, fuel); !equalResults(a, b) {
			t.Fatalf("%s is %s, %s is %s", shown(coreText(c)), shown(resultText(a)), shown(coreText(other)), shown(resultText(b)))
		}
	}
}

func TestEvalConstants(t *testing.T) {
	if impl.MaxFuel != 4000 || impl.MaxTy != 200 || impl.MaxBack != 16 {
		t.Error(impl.MaxFuel, impl.MaxTy, impl.MaxBack)
	}
	if impl.VlInt != 1 || impl.VlNil != 2 || impl.VlPair != 3 || impl.VlFun != 4 || impl.EvDone != 0 || impl.EvFuel != 1 || impl.EvStuck != 2 {
		t.Error("kinds or codes")
	}
}

func TestValueTextTable(t *testing.T) {
	one, two := vint(1), vint(2)
	for want, list := range map[string][]impl.Value{
		"0":   {vint(0), {Kind: impl.VlInt, Kids: []impl.Value{one, two}}},
		"-70": {vint(-70)}, "1073741823": {vint(greatestWord)}, "-1073741824": {vint(leastWord)},
		"1073741824": {vint(greatestWord + 1)}, "-9223372036854775808": {vint(math.MinInt)}, "9223372036854775807": {vint(math.MaxInt)},
		"()":                          {vnil(), {Kind: impl.VlNil, N: 5, Kids: []impl.Value{one}}},
		"fun":                         {vfun(), {Kind: impl.VlFun, N: 5, Kids: []impl.Value{one, two}}, {}, {Kind: 5}, {Kind: -1, N: 3}, {Kind: 99, Kids: []impl.Value{one, two}}, {Kind: math.MaxInt}, {Kind: math.MinInt}},
		"(1 . 2)":                     {vpair(one, two), {Kind: impl.VlPair, N: 7, Kids: []impl.Value{one, two}}, vpair(one, two, one)},
		"(? . ?)":                     {vpair(), {Kind: impl.VlPair, N: 3}, {Kind: impl.VlPair, Kids: []impl.Value{}}},
		"(1 . ?)":                     {vpair(one)},
		"(() . ?)":                    {vpair(vnil())},
		"((? . ?) . ?)":               {vpair(vpair())},
		"((1 . ?) . (fun . (? . ?)))": {vpair(vpair(one), vpair(impl.Value{}, vpair()))},
		"(1 . (2 . ()))":              {vpair(one, vpair(two, vnil()))},
		"((1 . 2) . (fun . -3))":      {vpair(vpair(one, two), vpair(vfun(), vint(-3)))},
		"(fun . ())":                  {vpair(vfun(), vnil()), vpair(impl.Value{Kind: 8}, vnil(), one, two)},
	} {
		for _, v := range list {
			if got := impl.ValueText(v); got != want {
				t.Errorf("ValueText(%s) = %q, not %q", shown(v), got, want)
			}
			checkValue(t, v)
		}
	}
}

// aboutValue stands for each place at which a value may stand in another one.
func aboutValue() []func(impl.Value) impl.Value {
	return []func(impl.Value) impl.Value{
		func(v impl.Value) impl.Value { return v },
		func(v impl.Value) impl.Value { return vpair(v, vint(1)) },
		func(v impl.Value) impl.Value { return vpair(vnil(), v) },
		func(v impl.Value) impl.Value { return vpair(vpair(vfun(), v), vnil()) },
		func(v impl.Value) impl.Value { return vpair(vint(1), vpair(v, vpair(vnil(), vint(3)))) },
	}
}

func TestValueOkTable(t *testing.T) {
	one := vint(1)
	right := []impl.Value{vint(0), one, vint(-1), vint(leastWord), vint(greatestWord), vnil(), vfun(), vpair(one, vnil()), vpair(vpair(one, one), vpair(vfun(), vnil())), {Kind: impl.VlNil, Kids: []impl.Value{}}, {Kind: impl.VlInt, Kids: make([]impl.Value, 0, 3)}}
	wrong := []impl.Value{
		{}, {Kind: -1}, {Kind: 5}, {Kind: math.MaxInt}, {Kind: math.MinInt}, {Kind: 5, Kids: []impl.Value{one, one}}, {N: 3},
		vint(leastWord - 1), vint(greatestWord + 1), vint(math.MinInt), vint(math.MaxInt),
		{Kind: impl.VlInt, Kids: []impl.Value{one}}, {Kind: impl.VlInt, N: 2, Kids: []impl.Value{one, one}},
		{Kind: impl.VlNil, N: 1}, {Kind: impl.VlNil, N: -1}, {Kind: impl.VlNil, Kids: []impl.Value{one}}, {Kind: impl.VlNil, Kids: []impl.Value{one, one}},
		{Kind: impl.VlFun, N: 1}, {Kind: impl.VlFun, N: -1}, {Kind: impl.VlFun, Kids: []impl.Value{one}}, {Kind: impl.VlFun, Kids: []impl.Value{one, one}},
		vpair(), vpair(one), vpair(one, one, one), {Kind: impl.VlPair, N: 1, Kids: []impl.Value{one, one}}, {Kind: impl.VlPair, N: -1, Kids: []impl.Value{one, one}},
	}
	for i, about := range aboutValue() {
		for _, v := range right {
			if !impl.ValueOk(about(v)) {
				t.Errorf("at place %d: ValueOk(%s) = false", i, shown(about(v)))
			}
			checkValue(t, about(v))
		}
		for _, v := range wrong {
			if impl.ValueOk(about(v)) {
				t.Errorf("at place %d: ValueOk(%s) = true", i, shown(about(v)))
			}
			checkValue(t, about(v))
		}
	}
}

func TestValueOkNumbers(t *testing.T) {
	for _, n := range manyInts() {
		for kind := -1; kind < 7; kind++ {
			checkValue(t, impl.Value{Kind: kind, N: n})
			checkValue(t, vpair(vnil(), impl.Value{Kind: kind, N: n}))
			checkValue(t, impl.Value{Kind: kind, N: n, Kids: []impl.Value{vnil(), vnil()}})
		}
	}
}

// deepValue is of that many values within each other.
func deepValue(deep int, about func(impl.Value) impl.Value, inner impl.Value) impl.Value {
	for range deep - 1 {
		inner = about(inner)
	}
	return inner
}

func inFirst(v impl.Value) impl.Value { return vpair(v, vnil()) }
func inOther(v impl.Value) impl.Value { return vpair(vint(2), v) }
func inBoth(v impl.Value) impl.Value  { return vpair(v, v) }

func TestValueOkDeep(t *testing.T) {
	turned := 0
	inTurn := func(v impl.Value) impl.Value {
		turned++
		if turned%2 == 0 {
			return inFirst(v)
		}
		return inOther(v)
	}
	for i, about := range []func(impl.Value) impl.Value{inFirst, inOther, inTurn} {
		for _, inner := range []impl.Value{vint(1), vnil(), vfun()} {
			for _, deep := range []int{1, 2, 16, 17, impl.MaxTy - 1, impl.MaxTy, impl.MaxTy + 1, impl.MaxTy + 2, 1000} {
				v := deepValue(deep, about, inner)
				if impl.ValueOk(v) != (deep <= impl.MaxTy) {
					t.Errorf("place %d: ValueOk of %d within each other is %v", i, deep, deep > impl.MaxTy)
				}
				checkValue(t, v)
			}
		}
		for _, deep := range []int{2, 100, impl.MaxTy - 1, impl.MaxTy} {
			if v := deepValue(deep, about, vint(greatestWord+1)); impl.ValueOk(v) {
				t.Errorf("place %d: what is wrong %d within is right", i, deep)
			}
		}
	}
}

// What stands in a value often is asked about soon, however often that is, and one without end, too.
func TestValueOkEnds(t *testing.T) {
	threes := []impl.Value{vnil(), vint(1)}
	for i := 2; i < impl.MaxTy+1; i++ {
		threes = append(threes, vpair(threes[i-1], threes[i-2]))
	}
	if v := threes[impl.MaxTy]; !impl.ValueOk(v) || impl.ValueOk(vpair(vnil(), v)) {
		t.Error("what stands in two that are about each other")
	}
	for deep, want := range map[int]bool{impl.MaxTy - 1: true, impl.MaxTy: true, impl.MaxTy + 1: false, 1000: false} {
		if impl.ValueOk(deepValue(deep, inBoth, vint(1))) != want {
			t.Errorf("ValueOk of %d within each other, each twice, is %v", deep, !want)
		}
		if impl.ValueOk(deepValue(deep, inBoth, vint(greatestWord+1))) {
			t.Errorf("what is wrong %d within, each twice, is right", deep)
		}
	}
	kids := make([]impl.Value, 2)
	kids[0], kids[1] = vpair(kids...), vint(1)
	kids[0].Kids = kids
	both := make([]impl.Value, 2)
	both[0], both[1] = impl.Value{Kind: impl.VlPair, Kids: both}, impl.Value{Kind: impl.VlPair, Kids: both}
	if impl.ValueOk(kids[0]) || impl.ValueOk(both[0]) || impl.ValueOk(vpair(vint(1), both[1])) {
		t.Error("a value without end is right")
	}
}

// A list that begins where another one does is not that one, if it has fewer in it.
func TestValueOkPiecesOfLists(t *testing.T) {
	list := []impl.Value{vint(1), vint(2), vint(greatestWord + 1)}
	pairs := func(a, b []impl.Value) impl.Value {
		return vpair(impl.Value{Kind: impl.VlPair, Kids: a}, impl.Value{Kind: impl.VlPair, Kids: b})
	}
	for _, row := range []struct {
		v    impl.Value
		want bool
	}{
		{pairs(list[:2], list[:2]), true}, {pairs(list[:2], list[1:3]), false}, {pairs(list[1:3], list[:2]), false}, {pairs(list[:2], list[:1]), false}, {pairs(list[:2], list[:3]), false}, {pairs(list[:1], list[:2]), false}, {pairs(list[:2], list[:0]), false},
	} {
		if impl.ValueOk(row.v) != row.want {
			t.Errorf("ValueOk(%s) = %v", shown(row.v), !row.want)
		}
	}
}

func TestDeepValuesAreAnswered(t *testing.T) {
	const deep = 300000
	for i, about := range []func(impl.Value) impl.Value{inFirst, inOther, func(v impl.Value) impl.Value { return vpair(v) }} {
		v := deepValue(deep, about, vfun())
		if text := impl.ValueText(v); strings.Count(text, "(")-strings.Count(text, "()") != deep-1 || strings.Count(text, " . ") != deep-1 || strings.Count(text, "fun") != 1 {
			t.Error("the text of a deep value", i)
		}
		if impl.ValueOk(v) {
			t.Error("a deep value is right", i)
		}
	}
	if impl.ValueOk(vpair(slices.Repeat([]impl.Value{vint(1)}, deep)...)) || impl.ValueText(vpair(slices.Repeat([]impl.Value{vint(1)}, deep)...)) != "(1 . 1)" {
		t.Error("a wide value")
	}
}

// everyValue is each value of that many parts, right or not.
func everyValue(parts int, each func(impl.Value)) {
	everyTree([]impl.Stx{wnum(0), wnum(1), wnum(2), wnum(3), wnum(4), wnum(5)}, parts, func(x impl.Stx) { each(valueOfTree(x)) })
}

func valueOfTree(x impl.Stx) impl.Value {
	if x.Op == impl.DtNum {
		return impl.Value{Kind: x.N, N: truth(x.N == impl.VlInt)}
	}
	v := impl.Value{Kind: impl.VlPair}
	for _, kid := range x.Kids {
		v.Kids = append(v.Kids, valueOfTree(kid))
	}
	return v
}

func TestSmallValues(t *testing.T) {
	count, right := 0, 0
	for parts := 1; parts <= 5; parts++ {
		everyValue(parts, func(v impl.Value) {
			count++
			right += truth(checkValue(t, v))
		})
	}
	if right < 50 || count-right < 1000 {
		t.Errorf("of %d values %d are right", count, right)
	}
}

type meansRow struct {
	text  string
	begun int
	want  string
}

// checkMeans asks for what is told by just enough fuel, and for no end by one less.
func checkMeans(t *testing.T, rows []meansRow) {
	t.Helper()
	for _, row := range rows {
		c := core(t, row.text)
		if !impl.CoreOk(c) {
			t.Errorf("%s is not right", row.text)
			continue
		}
		for _, fuel := range []int{row.begun, row.begun + 1, impl.MaxFuel, impl.MaxFuel + 1, math.MaxInt} {
			if got := resultText(impl.Eval(c, fuel)); got != row.want {
				t.Errorf("Eval(%s, %d) is %s, not %s", row.text, fuel, got, row.want)
			}
		}
		for _, fuel := range []int{row.begun - 1, 0, -1, math.MinInt} {
			if got := impl.Eval(c, fuel); got.Code != impl.EvFuel {
				t.Errorf("Eval(%s, %d) is %s", row.text, fuel, resultText(got))
			}
		}
		checkMoreFuel(t, c)
		checkAlikeMeans(t, c)
	}
}

func TestEvalEachOp(t *testing.T) {
	checkMeans(t, []meansRow{
		{"0", 1, "0"}, {"-7", 1, "-7"}, {"()", 1, "()"}, {"(fun x x)", 1, "fun"}, {"(fun x (car 1))", 1, "fun"},
		{"(app (fun x x) 5)", 4, "5"}, {"(app (fun x 6) 5)", 4, "6"}, {"(app (fun x x) (fun y y))", 4, "fun"},
		{"(let x 5 x)", 3, "5"}, {"(let x 5 6)", 3, "6"}, {"(let x (cons 1 2) x)", 5, "(1 . 2)"},
		{"(rec f n n f)", 2, "fun"}, {"(rec f n n 4)", 2, "4"}, {"(rec f n n (app f 3))", 5, "3"}, {"(rec f n f (app f 3))", 5, "fun"}, {"(rec f n (car 0) 4)", 2, "4"},
		{"(if 1 2 3)", 3, "2"}, {"(if 0 2 3)", 3, "3"}, {"(+ 2 3)", 3, "5"}, {"(- 2 3)", 3, "-1"}, {"(* 2 3)", 3, "6"}, {"(< 2 3)", 3, "1"}, {"(= 2 3)", 3, "0"},
		{"(cons 1 2)", 3, "(1 . 2)"}, {"(cons (fun x x) ())", 3, "(fun . ())"}, {"(car (cons 1 2))", 4, "1"}, {"(cdr (cons 1 2))", 4, "2"}, {"(pair? (cons 1 2))", 4, "1"}, {"(pair? 1)", 2, "0"}, {"(put 3)", 2, "3 out 3"},
	})
}

func TestEvalNumbersGoRound(t *testing.T) {
	least, greatest := strconv.Itoa(leastWord), strconv.Itoa(greatestWord)
	checkMeans(t, []meansRow{
		{least, 1, least}, {greatest, 1, greatest},
		{"(+ " + greatest + " 1)", 3, least}, {"(+ 1 " + greatest + ")", 3, least}, {"(+ " + greatest + " " + greatest + ")", 3, "-2"}, {"(+ " + least + " " + least + ")", 3, "0"}, {"(+ " + least + " " + greatest + ")", 3, "-1"}, {"(+ " + least + " -1)", 3, greatest}, {"(+ 0 " + greatest + ")", 3, greatest},
		{"(- " + least + " 1)", 3, greatest}, {"(- 0 " + least + ")", 3, least}, {"(- " + greatest + " -1)", 3, least}, {"(- " + least + " " + greatest + ")", 3, "1"}, {"(- " + greatest + " " + least + ")", 3, "-1"}, {"(- -1 " + greatest + ")", 3, least}, {"(- 7 10)", 3, "-3"}, {"(- 0 0)", 3, "0"},
		{"(* " + least + " -1)", 3, least}, {"(* " + least + " " + least + ")", 3, "0"}, {"(* " + greatest + " " + greatest + ")", 3, "1"}, {"(* " + least + " " + greatest + ")", 3, least}, {"(* " + greatest + " 2)", 3, "-2"}, {"(* 65536 65536)", 3, "0"}, {"(* 32768 32768)", 3, least}, {"(* 46341 46341)", 3, "4633"}, {"(* -3 7)", 3, "-21"}, {"(* 0 " + least + ")", 3, "0"},
		{"(< " + least + " " + greatest + ")", 3, "1"}, {"(< " + greatest + " " + least + ")", 3, "0"}, {"(< " + least + " " + least + ")", 3, "0"}, {"(< -1 0)", 3, "1"}, {"(< 0 -1)", 3, "0"}, {"(< 0 0)", 3, "0"}, {"(< -2 -1)", 3, "1"}, {"(< 1 2)", 3, "1"}, {"(< 2 1)", 3, "0"}, {"(< 2 2)", 3, "0"},
		{"(= " + least + " " + least + ")", 3, "1"}, {"(= " + greatest + " " + greatest + ")", 3, "1"}, {"(= " + least + " " + greatest + ")", 3, "0"}, {"(= 0 0)", 3, "1"}, {"(= -1 1)", 3, "0"}, {"(= 2 1)", 3, "0"}, {"(= 1 2)", 3, "0"}, {"(= 0 (+ 1 -1))", 5, "1"},
		{"(put " + least + ")", 2, least + " out " + least}, {"(put (+ " + greatest + " 1))", 4, least + " out " + least}, {"(if " + least + " 1 2)", 3, "1"},
	})
	ops := map[int]func(a, b int) int{
		impl.CoAdd:  func(a, b int) int { return roundOf(a + b) },
		impl.CoSub:  func(a, b int) int { return roundOf(a - b) },
		impl.CoMul:  func(a, b int) int { return roundOf(a * b) },
		impl.CoLess: func(a, b int) int { return truth(a < b) },
		impl.CoSame: func(a, b int) int { return truth(a == b) },
	}
	for _, a := range manyInts() {
		for _, b := range []int{a, a + 1, 0, 1, -1, 2, 12345, -54321, leastWord, leastWord + 1, greatestWord, greatestWord - 1} {
			right := leastWord <= a && a <= greatestWord && leastWord <= b && b <= greatestWord
			for op, want := range ops {
				r := impl.Eval(cop(op, cnum(a), cnum(b)), 3)
				if right && (r.Code != impl.EvDone || r.Value.Kind != impl.VlInt || r.Value.N != want(a, b)) || !right && r.Code != impl.EvStuck {
					t.Fatalf("%d of %d and %d is %s", op, a, b, resultText(r))
				}
			}
		}
	}
}

// Each kind of value stands at each place of each Op that looks at what its kids are.
func TestEvalEachKindEverywhere(t *testing.T) {
	kinds := []struct {
		e        string
		begun    int
		text     string
		car, cdr string
	}{
		{"0", 1, "0", "stuck", "stuck"}, {"7", 1, "7", "stuck", "stuck"}, {"()", 1, "()", "stuck", "stuck"}, {"(fun x x)", 1, "fun", "stuck", "stuck"}, {"(rec f x f f)", 2, "fun", "stuck", "stuck"}, {"(cons 1 2)", 3, "(1 . 2)", "1", "2"}, {"(cons 0 0)", 3, "(0 . 0)", "0", "0"}, {"(cons () (fun x x))", 3, "(() . fun)", "()", "fun"},
	}
	var rows []meansRow
	add := func(text string, begun int, want string) { rows = append(rows, meansRow{text, begun, want}) }
	for _, k := range kinds {
		isInt, isFun := len(k.e) == 1, k.text == "fun"
		add("(pair? "+k.e+")", k.begun+1, strconv.Itoa(truth(k.car != "stuck")))
		add("(cons "+k.e+" 5)", k.begun+2, "("+k.text+" . 5)")
		add("(cons 5 "+k.e+")", k.begun+2, "(5 . "+k.text+")")
		add("(car "+k.e+")", k.begun+1, k.car)
		add("(cdr "+k.e+")", k.begun+1, k.cdr)
		add("(car (cons "+k.e+" 5))", k.begun+3, k.text)
		add("(cdr (cons 5 "+k.e+"))", k.begun+3, k.text)
		add("(if "+k.e+" 3 4)", k.begun+2, strconv.Itoa(3+truth(k.e == "0")))
		add("(let x "+k.e+" x)", k.begun+2, k.text)
		add("(app (fun x x) "+k.e+")", k.begun+3, k.text)
		if isInt {
			add("(put "+k.e+")", k.begun+1, k.text+" out "+k.text)
		} else {
			add("(put "+k.e+")", k.begun+1, "stuck")
		}
		if !isFun {
			add("(app "+k.e+" 5)", k.begun+2, "stuck")
		}
		for _, op := range []string{"+", "-", "*", "<", "="} {
			if !isInt {
				add("("+op+" "+k.e+" 5)", k.begun+2, "stuck")
				add("("+op+" 5 "+k.e+")", k.begun+2, "stuck")
				add("("+op+" "+k.e+" "+k.e+")", 2*k.begun+1, "stuck")
			}
		}
	}
	checkMeans(t, rows)
}

// Kids are begun from the left, all of them ahead of what is told of them.
func TestEvalAllKidsFirst(t *testing.T) {
	var rows []meansRow
	for _, op := range []string{"+", "-", "*", "<", "="} {
		rows = append(rows,
			meansRow{"(" + op + " () (put 5))", 4, "stuck out 5"},
			meansRow{"(" + op + " (put 5) ())", 4, "stuck out 5"},
			meansRow{"(" + op + " (car 1) (put 5))", 3, "stuck"},
			meansRow{"(" + op + " (put 5) (car 1))", 5, "stuck out 5"},
			meansRow{"(" + op + " (fun x x) (car (put 5)))", 5, "stuck out 5"},
		)
	}
	checkMeans(t, append(rows, []meansRow{
		{"(+ (put 1) (put 2))", 5, "3 out 1 2"}, {"(- (put 2) (put 1))", 5, "1 out 2 1"}, {"(cons (put 1) (cons (put 2) (put 3)))", 8, "(1 . (2 . 3)) out 1 2 3"}, {"(cons (cons (put 1) (put 2)) (put 3))", 8, "((1 . 2) . 3) out 1 2 3"},
		{"(app 1 (put 5))", 4, "stuck out 5"}, {"(app (put 1) (put 2))", 5, "stuck out 1 2"}, {"(app (put 1) (car 2))", 5, "stuck out 1"}, {"(app (car 1) (put 2))", 3, "stuck"}, {"(app (let x (put 1) (fun y (put 3))) (put 2))", 9, "3 out 1 2 3"}, {"(app (fun x 1) (put 5))", 5, "1 out 5"}, {"(app (fun x (+ (put 4) (put x))) (put 5))", 9, "9 out 5 4 5"},
		{"(let x (put 1) (put 2))", 5, "2 out 1 2"}, {"(let x (put 1) (car 2))", 5, "stuck out 1"}, {"(let x (car 1) (put 2))", 3, "stuck"}, {"(let x (put 5) (+ x x))", 6, "10 out 5"},
		{"(if (put 1) (put 2) (put 3))", 5, "2 out 1 2"}, {"(if (put 0) (put 2) (put 3))", 5, "3 out 0 3"}, {"(if (car 1) (put 2) (put 3))", 3, "stuck"}, {"(if 1 2 (car 3))", 3, "2"}, {"(if 0 (car 2) 3)", 3, "3"}, {"(if (put 1) (car 2) 3)", 5, "stuck out 1"}, {"(if () (put 2) (put 3))", 4, "2 out 2"}, {"(if (fun x x) (put 2) (put 3))", 4, "2 out 2"}, {"(if (cons 0 0) (put 2) (put 3))", 6, "2 out 2"}, {"(if (- 3 3) (put 2) (put 3))", 6, "3 out 3"},
		{"(put (put 5))", 3, "5 out 5 5"}, {"(put (+ (put 1) (put 2)))", 6, "3 out 1 2 3"}, {"(put (cons (put 1) (put 2)))", 6, "stuck out 1 2"}, {"(put (fun x (put 1)))", 2, "stuck"}, {"(car (put 1))", 3, "stuck out 1"}, {"(cdr (put 1))", 3, "stuck out 1"}, {"(pair? (put 1))", 3, "0 out 1"}, {"(car (cons (put 1) (put 2)))", 6, "1 out 1 2"}, {"(cdr (cons (put 1) (put 2)))", 6, "2 out 1 2"},
		{"(cons (car 1) (put 2))", 3, "stuck"}, {"(cons (put 2) (car 1))", 5, "stuck out 2"}, {"(fun x (put 1))", 1, "fun"}, {"(rec f n (put 1) (put 2))", 3, "2 out 2"}, {"(rec f n (put n) (+ (app f 1) (app f 2)))", 12, "3 out 1 2"},
	}...))
}

// Names mean what is bound about them where they stand, not where they are asked.
func TestEvalNames(t *testing.T) {
	checkMeans(t, []meansRow{
		{"(let x 1 (let x 2 x))", 5, "2"}, {"(let x 1 (let y 2 x))", 5, "1"}, {"(let x 1 (cons (let x 2 x) x))", 7, "(2 . 1)"}, {"(let x 1 (cons x (let x 2 x)))", 7, "(1 . 2)"}, {"(let x 1 (let x (+ x 1) x))", 7, "2"}, {"(let x 1 (let x (cons x x) (cons x x)))", 9, "((1 . 1) . (1 . 1))"},
		{"(let x 1 (let f (fun y x) (let x 2 (app f 3))))", 10, "1"}, {"(let x 1 (let f (fun y (cons x y)) (let x 2 (app f x))))", 12, "(1 . 2)"}, {"(let x 1 (let f (fun x x) (app f 3)))", 8, "3"}, {"(let y 9 (let f (fun x y) (let y 8 (let x 7 (app f x)))))", 12, "9"},
		{"(app (app (fun x (fun y (cons x y))) 1) 2)", 9, "(1 . 2)"}, {"(app (app (fun x (fun x x)) 1) 2)", 7, "2"}, {"(app (app (fun x (fun y x)) 1) 2)", 7, "1"}, {"(let k (fun x (fun y x)) (let a (app k 1) (let b (app k 2) (cons (app a 0) (app b 0)))))", 21, "(1 . 2)"},
		{"(app (fun f (app f (app f 3))) (fun x (* x x)))", 14, "81"}, {"(app (fun f (app f f)) (fun f 7))", 7, "7"}, {"(let f (fun x (let x (+ x 1) (fun y (+ x y)))) (app (app f 1) 10))", 15, "12"},
		{"(rec f n (if n (* n (app f (- n 1))) 1) (app f 5))", 4 + 5*9 + 3, "120"}, {"(rec f n (if n (app f (- n 1)) 42) (app f 3))", 4 + 3*7 + 3, "42"}, {"(rec f f f (app f 3))", 5, "3"}, {"(rec f f f f)", 2, "fun"}, {"(rec f n f (app (app f 1) 2))", 8, "fun"},
		{"(rec f n n (let f 3 f))", 4, "3"}, {"(let f 1 (rec f n f (app f 0)))", 7, "fun"}, {"(let n 1 (rec f n n n))", 4, "1"}, {"(let n 1 (rec f m n (app f 5)))", 7, "1"}, {"(let n 1 (rec f n n (app f 5)))", 7, "5"}, {"(rec f n (let f 7 f) (app f 1))", 7, "7"}, {"(rec f n (fun f f) (app (app f 1) 8))", 8, "8"}, {"(rec f n (fun n (cons n 0)) (app (app f 1) 8))", 10, "(8 . 0)"}, {"(rec f n (fun m (cons n m)) (app (app f 1) 8))", 10, "(1 . 8)"},
		{"(rec f n (let g f (let f 3 (if n (app g 0) f))) (app f 1))", 4 + 9 + 7, "3"}, {"(rec e n (if n (rec o m (if m (app e (- m 1)) 0) (app o (- n 1))) 1) (app e 4))", 4 + 2*15 + 3, "1"},
		{"(rec f n (if n (cons n (app f (- n 1))) ()) (app f 3))", 4 + 3*9 + 3, "(3 . (2 . (1 . ())))"}, {"(let x (cons 1 2) (cons x x))", 7, "((1 . 2) . (1 . 2))"}, {"(let f (fun x x) (cons f (cons f (app f f))))", 10, "(fun . (fun . fun))"},
	})
}

// Names of a core may be any text that is not empty.
func TestEvalOddNames(t *testing.T) {
	for _, s := range []string{" ", "(", "A", "1", "_", "...", "\x00", "\xff", "é", strings.Repeat("x", 5000)} {
		other := s + s
		for _, c := range []impl.Core{
			clet(s, cnum(1), clet(other, cnum(2), cop(impl.CoCons, cvar(s), cvar(other)))),
			cop(impl.CoApp, cop(impl.CoApp, cfun(s, cfun(other, cop(impl.CoCons, cvar(s), cvar(other)))), cnum(1)), cnum(2)),
			crec(s, other, cop(impl.CoCons, cnum(1), cvar(other)), cop(impl.CoApp, cvar(s), cnum(2))),
		} {
			if got := resultText(impl.Eval(c, 100)); got != "(1 . 2)" {
				t.Errorf("%s is %s", shown(c), got)
			}
			checkEval(t, c, 100)
		}
	}
}

// A fuel above MaxFuel is MaxFuel.
func TestEvalMostFuel(t *testing.T) {
	for _, row := range []struct {
		text string
		most int
	}{{"(rec f n (if n (app f (- n 1)) 42) (app f %))", 570}, {"(rec f n (if (< n 1) 42 (app f (- n 1))) (app f %))", 443}} {
		for _, n := range []int{row.most, row.most + 1} {
			c := core(t, strings.ReplaceAll(row.text, "%", strconv.Itoa(n)))
			for _, fuel := range []int{impl.MaxFuel, impl.MaxFuel + 1, 2 * impl.MaxFuel, math.MaxInt} {
				want := "42"
				if n > row.most {
					want = "fuel"
				}
				if got := resultText(checkEval(t, c, fuel)); got != want {
					t.Errorf("%s by %d is %s", coreText(c), fuel, got)
				}
			}
		}
	}
	// Puts of one int within each other: one core more than these is begun.
	for _, begun := range []int{impl.MaxFuel - 1, impl.MaxFuel, impl.MaxFuel + 1} {
		c := clet("f", cfun("x", bushOf(1000)), cop(impl.CoApp, cvar("f"), cop(impl.CoApp, cvar("f"), cop(impl.CoApp, cvar("f"), bushOf(begun-3008)))))
		want := impl.EvDone
		if begun > impl.MaxFuel {
			want = impl.EvFuel
		}
		if got := checkEval(t, c, math.MaxInt).Code; got != want {
			t.Errorf("of %d that are begun %d is told", begun, got)
		}
	}
}

// What has no end ends by its fuel, with what was told till then.
func TestEvalEndless(t *testing.T) {
	for text, per := range map[string][2]int{
		"(rec f n (app f n) (app f 1))":                                 {0, 1},
		"(app (fun x (app x x)) (fun x (app x x)))":                     {0, 1},
		"(rec f n (app f (put n)) (app f 1))":                           {4, 4},
		"(rec f n (let m (put n) (app f (+ m 1))) (app f 1))":           {4, 8},
		"(rec f n (+ (put 1) (app f n)) (app f 1))":                     {4, 6},
		"(rec f n (app f (cons n n)) (app f 1))":                        {0, 1},
		"(rec f n (cons (app f n) 1) (app f 1))":                        {0, 1},
		"(app (fun x (app x x)) (fun x (let y (put 3) (app x x))))":     {7, 6},
		"(rec f n (if (app f n) (put 1) (put 2)) (app f 1))":            {0, 1},
		"(rec f n (let m (app f (put n)) (put 7)) (app f 1))":           {4, 5},
		"(rec f n (rec g m (app f (put m)) (app g (- n 1))) (app f 9))": {0, 0},
	} {
		c := core(t, text)
		for _, fuel := range []int{0, 1, 2, 3, 5, 10, 100, 101, 102, 103, 3999, 4000, 4001, math.MaxInt} {
			r := checkEval(t, c, fuel)
			if r.Code != impl.EvFuel {
				t.Errorf("%s by %d is %s", text, fuel, shown(resultText(r)))
			}
			if per[0] == 0 && per[1] == 1 && len(r.Out) > 0 {
				t.Errorf("%s tells %v", text, r.Out)
			}
		}
		if r := impl.Eval(c, 4000); per[0] > 0 && len(r.Out) < (4000-10)/per[1]-1 {
			t.Errorf("%s tells only %d", text, len(r.Out))
		}
	}
	r := impl.Eval(core(t, "(rec f n (let m (put n) (app f (+ m 1))) (app f 1))"), 4000)
	for i, n := range r.Out {
		if n != i+1 {
			t.Fatalf("the one of number %d is %d", i, n)
		}
	}
}

// letsOf binds x to what, that often, each in the next one, and in all of them stands in.
func letsOf(count int, what, in impl.Core) impl.Core {
	return deepCore(func(c impl.Core) impl.Core { return clet("x", what, c) }, count, in)
}

func TestEvalMostBack(t *testing.T) {
	for _, about := range []string{"(cons x 0)", "(cons () x)", "(cons x x)", "(cons (fun y y) x)", "(cons x (fun y x))"} {
		for deep := impl.MaxBack - 2; deep <= impl.MaxBack+3; deep++ {
			for _, leaf := range []string{"1", "()", "(fun x x)"} {
				c := clet("x", core(t, leaf), letsOf(deep-1, core(t, about), cvar("x")))
				r := checkEval(t, c, impl.MaxFuel)
				if done := r.Code == impl.EvDone; done != (deep <= impl.MaxBack) || done && valueDeep(r.Value) != deep {
					t.Errorf("%d within each other by %s: code %d", deep, about, r.Code)
				}
				told := checkEval(t, clet("y", core(t, "(put 4)"), c), impl.MaxFuel)
				if told.Code != r.Code || !slices.Equal(told.Out, []int{4}) {
					t.Errorf("%d within each other by %s, and 4 told: code %d, %v", deep, about, told.Code, told.Out)
				}
			}
		}
	}
	for _, text := range []string{
		"(rec f n (if n (cons n (app f (- n 1))) ()) (app f %))",
		"(rec f n (if n (cons (app f (- n 1)) n) 7) (app f %))",
	} {
		for n, code := range map[int]int{14: impl.EvDone, 15: impl.EvDone, 16: impl.EvFuel, 17: impl.EvFuel, 100: impl.EvFuel} {
			if r := checkEval(t, core(t, strings.ReplaceAll(text, "%", strconv.Itoa(n))), impl.MaxFuel); r.Code != code {
				t.Errorf("%s of %d: code %d", text, n, r.Code)
			}
		}
	}
}

// Only the value that is answered may not be so deep: what it is made of may be deeper.
func TestEvalDeepInBetween(t *testing.T) {
	list := "(rec f n (if n (cons n (app f (- n 1))) ()) "
	checkMeans(t, []meansRow{
		{list + "(car (app f 100)))", 2 + 3 + 100*9 + 3, "100"},
		{list + "(pair? (app f 200)))", 2 + 3 + 200*9 + 3, "1"},
		{list + "(rec s l (if (pair? l) (+ (car l) (app s (cdr l))) 0) (app s (app f 100))))", 4 + 3 + 100*9 + 3 + 100*10 + 4, "5050"},
	})
	for in, want := range map[string]string{
		"(car (cons 5 x))": "5", "(pair? x)": "1", "(fun y x)": "fun", "(cons (put 3) (fun y x))": "(3 . fun) out 3", "(let y (put 2) x)": "fuel out 2", "(let y (put 2) (cons 1 x))": "fuel out 2", "(let y (put 2) (put 1))": "1 out 2 1", "(let y (put 2) (+ x 1))": "stuck out 2",
	} {
		c := clet("x", cnum(1), letsOf(60, core(t, "(cons x x)"), core(t, in)))
		if got := resultText(checkEval(t, c, impl.MaxFuel)); got != want {
			t.Errorf("%s in the end is %s", in, got)
		}
	}
}

// Of what is not CoreOk it is stuck, ahead of all else, and nothing is told.
func TestEvalWrongCores(t *testing.T) {
	stuck := func(what string, c impl.Core) {
		t.Helper()
		for _, fuel := range []int{math.MinInt, -1, 0, 1, 2, 100, impl.MaxFuel, math.MaxInt} {
			if got := resultText(impl.Eval(c, fuel)); got != "stuck" {
				t.Errorf("%s: Eval(%s, %d) is %s", what, shown(c), fuel, got)
			}
		}
	}
	for what, c := range wrongParts() {
		stuck(what, c)
		stuck(what+" in what is not begun", cop(impl.CoIf, cnum(1), cop(impl.CoPut, cnum(2)), c))
		stuck(what+" in a function", clet("f", cfun("x", c), cop(impl.CoPut, cnum(2))))
		stuck(what+" behind what is told", cop(impl.CoCons, cop(impl.CoPut, cnum(2)), c))
		for _, about := range aboutCore() {
			stuck(what+" within", about(c))
		}
	}
	for _, s := range []string{"x", "(let x x 1)", "(fun x y)", "(cons (put 1) x)", "(rec f n n n)", "(if 1 (put 2) x)", "(rec f n x 1)"} {
		stuck("a name that nothing binds", core(t, s))
	}
	stuck("too large", bushOf(impl.MaxCore+1))
	stuck("too deep", deepCore(func(c impl.Core) impl.Core { return cop(impl.CoPut, c) }, impl.MaxCoreDeep, cnum(1)))
	stuck("far too deep", deepCore(func(c impl.Core) impl.Core { return cop(impl.CoPut, c) }, 300000, cnum(1)))
	kids := make([]impl.Core, 2)
	kids[0], kids[1] = impl.Core{Op: impl.CoAdd, Kids: kids}, impl.Core{Op: impl.CoAdd, Kids: kids}
	if got := impl.Eval(kids[0], 100); resultText(got) != "stuck" {
		t.Error("a core without end", resultText(got))
	}
	if r := impl.Eval(bushOf(impl.MaxCore), impl.MaxFuel); r.Code != impl.EvDone {
		t.Error("the largest core", r.Code)
	}
	deep := deepCore(func(c impl.Core) impl.Core { return cop(impl.CoPut, c) }, impl.MaxCoreDeep-1, cnum(1))
	if r := impl.Eval(deep, impl.MaxCoreDeep); r.Code != impl.EvDone || len(r.Out) != impl.MaxCoreDeep-1 {
		t.Error("the deepest core", r.Code)
	}
}

// everyRunning is each core of that many parts and of all Ops, right, with the names x and y.
func everyRunning(parts int, about []string, each func(impl.Core)) {
	if parts == 1 {
		for _, c := range []impl.Core{cnum(0), cnum(2), cop(impl.CoNil)} {
			each(c)
		}
		for _, name := range []string{"x", "y"} {
			if slices.Contains(about, name) {
				each(cvar(name))
			}
		}
		return
	}
	for op := impl.CoNum; op <= impl.CoPut; op++ {
		if coreArity(op) == 0 {
			continue
		}
		for _, names := range everyNames(op) {
			c := impl.Core{Op: op, S: names[0], T: names[1]}
			everyKids(c, parts-1, about, each)
		}
	}
}

func everyNames(op int) [][2]string {
	switch coreNames(op) {
	case 0:
		return [][2]string{{}}
	case 1:
		return [][2]string{{"x"}, {"y"}}
	}
	return [][2]string{{"x", "x"}, {"x", "y"}, {"y", "x"}}
}

// everyKids puts the kids that c lacks behind those that it has, of so many parts in all.
func everyKids(c impl.Core, parts int, about []string, each func(impl.Core)) {
	at := len(c.Kids)
	left := coreArity(c.Op) - at
	if left == 0 {
		if parts == 0 {
			each(c)
		}
		return
	}
	for size := 1; size <= parts-left+1; size++ {
		everyRunning(size, namesBoundIn(c, at, about), func(kid impl.Core) {
			with := c
			with.Kids = append(slices.Clone(c.Kids), kid)
			everyKids(with, parts-size, about, each)
		})
	}
}

func TestEvalSmallCores(t *testing.T) {
	count := [3]int{}
	for parts := 1; parts <= 4; parts++ {
		everyRunning(parts, nil, func(c impl.Core) {
			for fuel := range 8 {
				count[checkEval(t, c, fuel).Code]++
			}
			count[checkEval(t, c, impl.MaxFuel).Code]++
		})
	}
	everyRunning(5, nil, func(c impl.Core) { count[checkEval(t, c, 30).Code]++ })
	for code, n := range count {
		if n < 1000 {
			t.Errorf("%d is told %d times", code, n)
		}
	}
}

// Cores that are alike mean the same, whatever fuel they have.
func TestEvalSmallCoresAlike(t *testing.T) {
	met := 0
	for parts := 1; parts <= 5; parts++ {
		first := map[string]impl.Core{}
		everyCore(parts, func(c impl.Core) {
			if !impl.CoreOk(c) {
				return
			}
			key := namelessText(c, nil)
			a, known := first[key]
			if !known {
				first[key] = c
				return
			}
			met++
			for _, fuel := range []int{0, 1, 2, 3, 4, 5, 6, 8, 50} {
				if x, y := impl.Eval(a, fuel), impl.Eval(c, fuel); !impl.Alike(a, c) || !equalResults(x, y) {
					t.Fatalf("%s is %s, %s is %s", coreText(a), resultText(x), coreText(c), resultText(y))
				}
			}
		})
	}
	if met < 500 {
		t.Error("too few were alike:", met)
	}
}

// running makes a core that means what is wanted of it: "int", "list" or "fun", a function from int to int.
func (m *dataMaker) running(deep int, want string, about map[string]string) impl.Core {
	if m.pick(40) == 0 {
		want = []string{"int", "list", "fun"}[m.pick(3)]
	}
	if deep == 0 || m.pick(7) == 0 {
		return m.runningLeaf(want, about)
	}
	with := func(name, kind string) map[string]string {
		all := map[string]string{name: kind}
		for other, k := range about {
			if other != name {
				all[other] = k
			}
		}
		return all
	}
	of := func(kind string) impl.Core { return m.running(deep-1, kind, about) }
	name, kind := m.coreName(), []string{"int", "list", "fun"}[m.pick(3)]
	switch m.pick(5) {
	case 0:
		return clet(name, of(kind), m.running(deep-1, want, with(name, kind)))
	case 1:
		return cop(impl.CoIf, of("int"), of(want), of(want))
	case 2:
		return m.counting(deep, name, want, about, with)
	}
	switch want {
	case "int":
		return m.runningInt(of)
	case "list":
		return m.runningList(of)
	}
	return cfun(name, m.running(deep-1, "int", with(name, "int")))
}

func (m *dataMaker) runningInt(of func(string) impl.Core) impl.Core {
	switch m.pick(8) {
	case 0:
		return cop(impl.CoPut, of("int"))
	case 1:
		return cop(impl.CoPair, of("list"))
	case 2:
		return cop(impl.CoCar, cop(impl.CoCons, of("int"), of("list")))
	case 3, 4:
		return cop(impl.CoApp, of("fun"), of("int"))
	}
	return cop(impl.CoAdd+m.pick(5), of("int"), of("int"))
}

func (m *dataMaker) runningList(of func(string) impl.Core) impl.Core {
	if m.pick(4) == 0 {
		return cop(impl.CoCdr, cop(impl.CoCons, of("int"), of("list")))
	}
	return cop(impl.CoCons, of("int"), of("list"))
}

// counting is a function that goes down to 0, and knows itself; seldom it goes on without end.
func (m *dataMaker) counting(deep int, name, want string, about map[string]string, with func(string, string) map[string]string) impl.Core {
	n := "n"
	inner := with(name, "none")
	inner[n] = "int"
	less := cop(impl.CoSub, cvar(n), cnum(truth(m.pick(9) > 0)))
	step := cop(impl.CoAdd, m.running(deep-1, "int", inner), cop(impl.CoApp, cvar(name), less))
	body := cop(impl.CoIf, cop(impl.CoLess, cvar(n), cnum(1)), m.running(deep-1, "int", inner), step)
	after := with(name, "none")
	if want == "int" {
		return crec(name, n, body, cop(impl.CoApp, cvar(name), cnum(m.pick(6))))
	}
	return crec(name, n, body, clet("m", cop(impl.CoApp, cvar(name), cnum(m.pick(4))), m.running(deep-1, want, after)))
}

func (m *dataMaker) runningLeaf(want string, about map[string]string) impl.Core {
	for _, name := range []string{"a", "b", "c", "d", "n"} {
		if about[name] == want && m.pick(3) > 0 {
			return cvar(name)
		}
	}
	switch want {
	case "int":
		return m.coreLeaf(nil)
	case "list":
		return cop(impl.CoNil)
	}
	return cfun("z", cvar("z"))
}

func TestEvalMadeCores(t *testing.T) {
	m := dataMaker{seed: 11}
	count := [3]int{}
	long, told := 0, 0
	for range 600 {
		c := m.running(3+m.pick(4), []string{"int", "list", "fun"}[m.pick(3)], nil)
		if !impl.CoreOk(c) {
			continue
		}
		checkMoreFuel(t, c)
		checkAlikeMeans(t, c)
		r := impl.Eval(c, impl.MaxFuel)
		count[r.Code]++
		long += truth(begunOf(c) > 100)
		told += truth(len(r.Out) > 3)
		for range 3 {
			c = m.twistCore(c)
			checkEval(t, c, impl.MaxFuel)
		}
	}
	if count[0] < 300 || count[1] < 30 || count[2] < 80 || long < 100 || told < 10 {
		t.Error("of some there are too few:", count, long, told)
	}
	for range 3000 {
		c := m.core(2+m.pick(4), nil)
		checkEval(t, c, 5)
		checkEval(t, c, impl.MaxFuel)
		checkAlikeMeans(t, c)
	}
}

// What a program's forms are written out to means what the program says.
func TestEvalPrograms(t *testing.T) {
	for text, want := range map[string]string{
		"(define (map f l) (if (pair? l) (cons (f (car l)) (map f (cdr l))) l)) (define (sq x) (* x x)) (map sq (quote (1 2 3)))":                                                     "(1 . (4 . (9 . ())))",
		"(def-syntax or2 (syntax-rules () ((_ a b) (let ((t a)) (if t t b))))) (let ((t 5)) (or2 0 t))":                                                                               "5",
		"(def-syntax swap (syntax-rules () ((_ a b f) (let ((t a)) (f b t))))) (let ((t 1) (u 2)) (swap t u (lambda (x y) (cons x y))))":                                              "(2 . 1)",
		"(def-syntax while (syntax-rules () ((_ n c b) (letrec ((loop (lambda (n) (if c (let ((x b)) (loop (- n 1))) n)))) (loop 4))))) (define x 9) (while i (< 0 i) (put (+ i x)))": "0 out 13 12 11 10",
		"(put 1) (put 2) 3":               "3 out 1 2",
		"(+ (quote ()) (put 5))":          "stuck out 5",
		"((lambda (x y) (cons y x)) 1 2)": "(2 . 1)",
		"(quote (1 (2 ()) 3))":            "(1 . ((2 . (() . ())) . (3 . ())))",
		"(define (f x) (f x)) (f 1)":      "fuel",
	} {
		c, _, code := impl.Expand(text)
		if code != impl.ExDone {
			t.Fatalf("%q is told %d", text, code)
		}
		if got := resultText(checkEval(t, c, impl.MaxFuel)); got != want {
			t.Errorf("%q is %s, not %s", text, got, want)
		}
		checkAlikeMeans(t, c)
		checkMoreFuel(t, c)
	}
	m := programMaker{dataMaker: dataMaker{seed: 110}, givenToo: true}
	for range 400 {
		if c, _, code := impl.Expand(m.program()); code == impl.ExDone {
			checkEval(t, c, impl.MaxFuel)
			checkAlikeMeans(t, c)
		}
	}
}

// valuesIn are the places of all values in v, which may be written to.
func valuesIn(v *impl.Value) []*impl.Value {
	list := []*impl.Value{v}
	for i := range v.Kids {
		list = append(list, valuesIn(&v.Kids[i])...)
	}
	return list
}

func markValues(v *impl.Value) bool {
	var places []*int
	for _, one := range valuesIn(v) {
		places = append(places, &one.N)
	}
	return allApart(places)
}

func TestEvalIsNew(t *testing.T) {
	for _, text := range []string{
		"(let x (cons 1 2) (cons x (cons x x)))", "(let x (cons (put 1) (put 2)) (let y (cons x x) (let z (cons y y) (cons z (cons z y)))))", "(rec f n (if n (cons (put n) (app f (- n 1))) ()) (app f 5))", "(cons (fun x x) (cons () 3))", "(let x (cons (put 1) 2) (car (put 3)))", "(let x (cons 1 1) (rec f n (let y (put n) (app f n)) (app f 9)))",
	} {
		c := core(t, text)
		want := evalOf(c, impl.MaxFuel)
		for range 3 {
			r := impl.Eval(c, impl.MaxFuel)
			if !equalResults(r, want) {
				t.Fatalf("%s is %s after one was written into", text, resultText(r))
			}
			if !markValues(&r.Value) {
				t.Errorf("lists of what %s means share memory", text)
			}
			for _, v := range valuesIn(&r.Value) {
				for i := range v.Kids[:cap(v.Kids)][len(v.Kids):] {
					v.Kids[:cap(v.Kids)][len(v.Kids)+i] = vint(77)
				}
			}
			if slices.ContainsFunc(valuesIn(&r.Value), func(v *impl.Value) bool { return v.N == 77 }) {
				t.Errorf("lists of what %s means share the room behind them", text)
			}
			for i := range r.Out[:cap(r.Out)] {
				r.Out[:cap(r.Out)][i] = -99
			}
		}
		if !equalCores(c, core(t, text)) {
			t.Errorf("%s was written into", text)
		}
	}
}

func TestEvalWritesNothing(t *testing.T) {
	m := dataMaker{seed: 1111}
	for range 300 {
		c := roomyCore(m.running(4, "int", nil))
		want := widenedCore(c)
		impl.Eval(c, impl.MaxFuel)
		impl.Eval(c, 3)
		if !equalCores(widenedCore(c), want) {
			t.Fatal("a core was written into:", shown(want))
		}
	}
	kids := []impl.Value{vpair(vint(1), vnil()), vfun(), vint(9)}
	v := impl.Value{Kind: impl.VlPair, Kids: kids[:2]}
	impl.ValueOk(v)
	text := impl.ValueText(v)
	if !reflect.DeepEqual(kids, []impl.Value{vpair(vint(1), vnil()), vfun(), vint(9)}) {
		t.Error("a value was written into")
	}
	kids[0].Kids[0].N = 5
	if text != "((1 . ()) . fun)" {
		t.Error("a text became", text)
	}
}

// Nothing is kept from one call to another, and calls beside each other do not meet.
func TestEvalKeepsNothing(t *testing.T) {
	texts := []string{"(put 1)", "(let x 1 (put x))", "(car (put 2))", "(rec f n (app f (put n)) (app f 1))", "(rec f n (if n (cons (put n) (app f (- n 1))) ()) (app f 5))", "x", "(let x (cons 1 2) (cons x x))"}
	cores := make([]impl.Core, len(texts))
	wants := make([]impl.Result, len(texts))
	for i, text := range texts {
		cores[i] = core(t, text)
		wants[i] = evalOf(cores[i], 500)
	}
	var all sync.WaitGroup
	for range 4 {
		all.Go(func() {
			for range 20 {
				for i, c := range cores {
					if got := impl.Eval(c, 500); !equalResults(got, wants[i]) {
						t.Errorf("%s is %s", texts[i], shown(resultText(got)))
					}
				}
			}
		})
	}
	all.Wait()
}

// The greatest values, and names that are looked for far about, do not make it slow.
func TestEvalIsNotSlow(t *testing.T) {
	wide := clet("x", cnum(1), letsOf(impl.MaxBack-1, core(t, "(cons x x)"), cvar("x")))
	for range 20 {
		if r := impl.Eval(wide, impl.MaxFuel); r.Code != impl.EvDone || len(valuesIn(&r.Value)) != 1<<impl.MaxBack-1 {
			t.Fatal("the greatest value", r.Code)
		}
	}
	far := clet("far", cnum(1), letsOf(140, cvar("far"), core(t, "(rec f n (app f (- n far)) (app f 0))")))
	for range 200 {
		if r := impl.Eval(far, impl.MaxFuel); r.Code != impl.EvFuel {
			t.Fatal("a name that is far", r.Code)
		}
	}
}

package tests

import (
	"math"
	"reflect"
	"slices"
	"strconv"
	"strings"
	"sync"
	"testing"

	"loop.example/g00396/impl"
)

const argumentName = "argument"

// The second one below knows no number of values: it goes all ways with a stack of names, from which the argument may
// not be taken, and in the end asks of each place how high the stacks were that it was met with.

// stackBehind is the stack behind an op that has what it needs.
func stackBehind(o impl.Op, stack []string) ([]string, bool) {
	stack, whole := slices.Clone(stack), true
	take := func(count int) {
		for range count {
			last := len(stack) - 1
			whole = whole && last >= 0 && stack[last] != argumentName
			stack = stack[:max(last, 0)]
		}
	}
	put := func() { stack = append(stack, "value") }
	switch o.Code {
	case impl.BcNum, impl.BcFree, impl.BcSelf:
		put()
	case impl.BcLocal:
		whole = len(stack) > o.N
		put()
	case impl.BcClos, impl.BcCon:
		take(o.M)
		put()
	case impl.BcField, impl.BcPut:
		take(1)
		put()
	case impl.BcIsCon, impl.BcIsNum, impl.BcZero:
		take(1)
	case impl.BcRet:
		take(1)
		whole = whole && slices.Equal(stack, []string{argumentName})
	case impl.BcJump, impl.BcFail:
	default:
		take(2)
		put()
	}
	return stack, whole
}

type placeAndHeight struct {
	at, height int
}

func heightsOf(f impl.Fun) ([]int, bool) {
	met := map[placeAndHeight]bool{}
	heights := slices.Repeat([]int{-1}, len(f.List))
	right := true
	var visit func(at int, stack []string)
	visit = func(at int, stack []string) {
		if met[placeAndHeight{at, len(stack)}] || !right {
			return
		}
		met[placeAndHeight{at, len(stack)}] = true
		right = len(stack) <= 60 && (heights[at] == -1 || heights[at] == len(stack))
		heights[at] = len(stack)
		behind, whole := stackBehind(f.List[at], stack)
		right = right && whole
		for _, next := range nextPlaces(f.List[at], at) {
			visit(next, behind)
		}
	}
	visit(0, []string{argumentName})
	if !right {
		return nil, false
	}
	return heights, true
}

func depthsText(depths []int, ok bool) string {
	if !ok {
		return strings.TrimSpace("no " + strings.Trim(strings.Join(strings.Fields(shown(depths)), " "), "[]"))
	}
	var texts []string
	for _, n := range depths {
		texts = append(texts, strconv.Itoa(n))
	}
	return strings.Join(texts, " ")
}

// checkDepths holds Depths of each function, and Verify, against the second one. It tells whether all are verified.
func checkDepths(t *testing.T, list []impl.Fun) bool {
	t.Helper()
	right := rightFuns(list)
	all := right
	for i := -1; i <= len(list); i++ {
		want := "no"
		if right && 0 <= i && i < len(list) {
			want = depthsText(heightsOf(list[i]))
			all = all && want != "no"
		}
		if got := depthsText(impl.Depths(list, i)); got != want {
			t.Fatalf("Depths(%s, %d) = %s, not %s", shown(funsText(list)), i, got, want)
		}
	}
	if impl.Verify(list) != all {
		t.Fatalf("Verify(%s) = %v", shown(funsText(list)), !all)
	}
	return all
}

// checkRun asks that while functions run there are at each place as many values as were found (P15). It tells how it
// ended, and how many places were met.
func checkRun(t *testing.T, list []impl.Fun, argument *irThing, fuel int) (int, int) {
	t.Helper()
	var depths [][]int
	for i := range list {
		found, ok := impl.Depths(list, i)
		if !ok || len(found) != len(list[i].List) {
			t.Fatalf("Depths(%s, %d) = %v, %v", shown(funsText(list)), i, found, ok)
		}
		depths = append(depths, found)
	}
	met := map[[2]int]bool{}
	run := codeRun{irRun: irRun{left: fuel}, funs: list, see: func(number, at, values int) {
		met[[2]int{number, at}] = true
		if depths[number][at] != values {
			t.Fatalf("%d values at place %d of function %d of %s, not %d", values, at, number, shown(funsText(list)), depths[number][at])
		}
	}}
	run.call(0, &irThing{}, argument)
	return run.code, len(met)
}

func runsOf(t *testing.T, list []impl.Fun) {
	t.Helper()
	for _, argument := range []*irThing{{kind: impl.VlInt}, {kind: impl.VlInt, n: 9}, {kind: impl.VlPair, n: 1}} {
		checkRun(t, list, argument, 3000)
	}
}

func TestVerifyConstants(t *testing.T) {
	if impl.MaxDepth != 60 {
		t.Error("MaxDepth is", impl.MaxDepth)
	}
}

func TestEffectEachCode(t *testing.T) {
	for _, row := range []struct {
		codes       []int
		takes, puts int
	}{
		{[]int{impl.BcNum, impl.BcLocal, impl.BcFree, impl.BcSelf}, 0, 1},
		{[]int{impl.BcCall}, 2, 1},
		{[]int{impl.BcRet}, 1, 0},
		{[]int{impl.BcField, impl.BcPut}, 1, 1},
		{[]int{impl.BcIsCon, impl.BcIsNum, impl.BcZero}, 1, 0},
		{[]int{impl.BcAdd, impl.BcSub, impl.BcMul, impl.BcLess, impl.BcSame}, 2, 1},
		{[]int{impl.BcSlide}, 2, 1},
		{[]int{impl.BcJump, impl.BcFail, 0, -1, 22, 23, 256 + impl.BcCall, 1<<32 + impl.BcRet, math.MinInt, math.MaxInt}, 0, 0},
	} {
		for _, code := range row.codes {
			for _, n := range []int{0, 1, 2, 3, 20, -1, 1 << 32, math.MinInt, math.MaxInt} {
				for _, o := range []impl.Op{op(code), op(code, n), op(code, 0, n), op(code, n, n), op(code, 5, n)} {
					if takes, puts := impl.Effect(o); takes != row.takes || puts != row.puts {
						t.Errorf("Effect(%v) = %d, %d", o, takes, puts)
					}
				}
			}
		}
	}
	for _, code := range []int{impl.BcClos, impl.BcCon} {
		for m := range impl.MaxKids + 3 {
			for _, n := range []int{0, 1, 7, 19, 59, -1, math.MaxInt} {
				if takes, puts := impl.Effect(op(code, n, m)); takes != m || puts != 1 {
					t.Errorf("Effect(%v) = %d, %d", op(code, n, m), takes, puts)
				}
			}
		}
	}
}

// A code that is none takes nothing and puts nothing, whatever its number is.
func TestEffectOfMany(t *testing.T) {
	for _, n := range manyInts() {
		if takes, puts := impl.Effect(op(n, 3, 4)); !isCode(n) && (takes != 0 || puts != 0) {
			t.Fatalf("Effect of Code %d is %d, %d", n, takes, puts)
		}
		for _, code := range allCodes() {
			for _, o := range []impl.Op{op(code, n), op(code, n, n&15), op(code, 0, n)} {
				takes, puts := impl.Effect(o)
				if wantTakes, wantPuts := effectOf(o); takes != wantTakes || puts != wantPuts {
					t.Fatalf("Effect(%v) = %d, %d, not %d, %d", o, takes, puts, wantTakes, wantPuts)
				}
			}
		}
	}
}

// checkFound asks, row by row, for the depths that are told, those of each function behind a |.
func checkFound(t *testing.T, rows map[string]string) {
	t.Helper()
	for in, want := range rows {
		list := funs(t, in)
		var texts []string
		for i := range list {
			texts = append(texts, depthsText(impl.Depths(list, i)))
		}
		if got := strings.Join(texts, " | "); got != want {
			t.Errorf("Depths(%s) = %s, not %s", in, got, want)
		}
		if impl.Verify(list) != !slices.Contains(texts, "no") {
			t.Errorf("Verify(%s) = %v", in, impl.Verify(list))
		}
		if checkDepths(t, list) {
			runsOf(t, list)
		}
	}
}

func TestDepthsEachOp(t *testing.T) {
	checkFound(t, map[string]string{
		"0 num 1; ret":                                          "1 2",
		"0 local 0; ret":                                        "1 2",
		"0 fail":                                                "1",
		"0 jump 0":                                              "1",
		"0 num 5; local 1; slide; ret":                          "1 2 3 2",
		"0 num 1; num 2; add; ret":                              "1 2 3 2",
		"0 num 1; num 2; sub; ret":                              "1 2 3 2",
		"0 num 1; num 2; mul; ret":                              "1 2 3 2",
		"0 num 1; num 2; less; ret":                             "1 2 3 2",
		"0 num 1; num 2; same; ret":                             "1 2 3 2",
		"0 num 1; num 2; slide; ret":                            "1 2 3 2",
		"0 num 1; put; ret":                                     "1 2 2",
		"0 num 1; field 0; ret":                                 "1 2 2",
		"0 con 0 0; ret":                                        "1 2",
		"0 num 1; con 3 1; ret":                                 "1 2 2",
		"0 num 1; num 2; con 1 2; ret":                          "1 2 3 2",
		"0 num 1; num 2; call; ret":                             "1 2 3 2",
		"0 num 1; num 2; num 3; con 1 3; ret":                   "1 2 3 4 2",
		"0 num 1; num 2; con 1 2; field 1; ret":                 "1 2 3 2 2",
		"0 num 0; zero 4; num 2; jump 5; num 3; ret":            "1 2 1 2 1 2",
		"0 num 0; iscon 1 4; num 2; jump 5; num 3; ret":         "1 2 1 2 1 2",
		"0 num 0; isnum -7 4; num 2; jump 5; num 3; ret":        "1 2 1 2 1 2",
		"0 num 0; zero 3; fail; num 3; ret":                     "1 2 1 1 2",
		"0 clos 1 0; num 5; call; ret | 0 local 0; ret":         "1 2 3 2 | 1 2",
		"0 num 4; num 5; clos 1 2; ret | 2 free 1; ret":         "1 2 3 2 | 1 2",
		"0 clos 1 0; ret | 0 self; local 0; call; ret":          "1 2 | 1 2 3 2",
		"0 num 1; ret | 3 free 0; free 1; free 2; con 2 3; ret": "1 2 | 1 2 3 4 2",
		"0 num 1; num 2; local 2; zero 6; local 2; jump 7; num 3; slide; add; ret": "1 2 3 4 3 4 3 4 3 2",
		"0 num 1; ret | 0 num 2; ret | 0 num 3; fail":                              "1 2 | 1 2 | 1 2",
	})
}

// The argument is taken by no op.
func TestDepthsTheArgumentStays(t *testing.T) {
	checkFound(t, map[string]string{
		"0 ret": "no", "0 put; ret": "no", "0 field 0; ret": "no", "0 zero 1; fail": "no", "0 iscon 0 1; fail": "no", "0 isnum 0 1; fail": "no", "0 add; ret": "no", "0 call; ret": "no", "0 slide; ret": "no", "0 slide; fail": "no", "0 con 0 1; ret": "no", "0 con 0 1; fail": "no",
		"0 num 1; add; ret": "no", "0 num 1; sub; fail": "no", "0 num 1; mul; fail": "no", "0 num 1; less; fail": "no", "0 num 1; same; fail": "no", "0 num 1; call; fail": "no", "0 num 1; slide; fail": "no", "0 num 1; slide; ret": "no", "0 num 1; con 0 2; ret": "no", "0 local 0; local 0; con 1 3; ret": "no",
		"0 num 1; clos 1 1; ret | 1 free 0; ret": "1 2 2 | 1 2", "0 clos 1 1; ret | 1 free 0; ret": "no | 1 2", "0 num 1; clos 1 2; ret | 2 free 0; ret": "no | 1 2",
		"0 num 1; num 2; num 3; slide; slide; ret": "1 2 3 4 3 2", "0 num 1; num 2; slide; slide; ret": "no", "0 num 1; zero 3; add; ret": "no", "0 num 1; put; put; ret": "1 2 2 2", "0 num 1; zero 2; zero 3; fail": "no",
	})
}

// valuesAhead has that many values beside the argument, then an op, and an end that asks for nothing.
func valuesAhead(values int, o impl.Op) []impl.Fun {
	list := slices.Repeat([]impl.Op{op(impl.BcNum, 7)}, values)
	return twoFuns(append(list, o, op(impl.BcFail))...)
}

func TestDepthsJustEnough(t *testing.T) {
	for values := range 24 {
		for _, code := range allCodes() {
			o := rightOp(code)
			if code == impl.BcZero || code == impl.BcJump {
				o.N = values + 1
			}
			if code == impl.BcIsCon || code == impl.BcIsNum {
				o.M = values + 1
			}
			takes, puts := effectOf(o)
			fits := values >= takes
			if code == impl.BcRet {
				fits = values == 1
			}
			askEnough(t, values, o, 1+values-takes+puts, fits)
		}
		for m := range impl.MaxKids + 1 {
			askEnough(t, values, op(impl.BcCon, 0, m), 2+values-m, values >= m)
		}
	}
	for kept := range impl.MaxKids + 1 {
		for values := range 24 {
			list := valuesAhead(values, op(impl.BcClos, 1, kept))
			list[1].Free = kept
			if _, ok := impl.Depths(list, 1); ok != (values >= kept) {
				t.Errorf("a closure that keeps %d, of %d values: %v", kept, values, ok)
			}
			checkDepths(t, list)
		}
	}
}

// askEnough asks how many values there are behind an op, in function 1 of two.
func askEnough(t *testing.T, values int, o impl.Op, behind int, fits bool) {
	t.Helper()
	list := valuesAhead(values, o)
	checkDepths(t, list)
	depths, ok := impl.Depths(list, 1)
	if ok != fits {
		t.Errorf("%v of %d values: %v, %v", o, values, depths, ok)
		return
	}
	if o.Code == impl.BcRet || o.Code == impl.BcFail {
		behind = -1
	}
	for at := range depths {
		want := at + 1
		if at == values+1 {
			want = behind
		}
		if depths[at] != want {
			t.Errorf("%v of %d values: %v", o, values, depths)
		}
	}
}

func TestDepthsLocals(t *testing.T) {
	for _, values := range []int{0, 1, 2, 3, 20, 57, 58} {
		for n := range 70 {
			list := valuesAhead(values, op(impl.BcLocal, n))
			if _, ok := impl.Depths(list, 1); ok != (n <= values) {
				t.Errorf("local %d of %d values and the argument: %v", n, values, ok)
			}
			checkDepths(t, list)
		}
		for _, n := range []int{100, 2998, 2999} {
			if _, ok := impl.Depths(valuesAhead(values, op(impl.BcLocal, n)), 1); ok {
				t.Errorf("local %d of %d values is there", n, values)
			}
		}
	}
	checkFound(t, map[string]string{
		"0 local 0; local 1; local 2; con 1 3; ret": "1 2 3 4 2",
		"0 local 1; ret":                         "no",
		"0 local 0; local 2; add; ret":           "no",
		"0 num 1; num 2; add; local 1; add; ret": "1 2 3 2 3 2",
		// What was taken is there no more.
		"0 num 1; num 2; add; local 2; add; ret":                "no",
		"0 num 1; num 2; slide; local 2; add; ret":              "no",
		"0 num 1; zero 3; local 1; fail":                        "no",
		"0 num 1; num 2; zero 4; local 2; fail":                 "no",
		"0 num 1; num 2; zero 4; local 1; add; ret":             "no",
		"0 num 1; num 2; zero 5; local 1; add; ret":             "1 2 3 2 3 2",
		"0 num 1; num 2; con 1 2; local 2; fail":                "no",
		"0 jump 2; num 1; local 1; fail":                        "no",
		"0 num 1; ret | 2 free 0; free 1; local 2; fail":        "1 2 | 1 2 3 4",
		"0 num 1; ret | 2 free 0; free 1; local 3; fail":        "1 2 | no",
		"0 num 1; num 2; num 3; fail | 0 local 1; ret":          "1 2 3 4 | no",
		"0 num 1; put; local 1; field 0; local 2; con 1 3; ret": "1 2 2 3 3 4 2",
	})
}

func TestDepthsTwoWays(t *testing.T) {
	checkFound(t, map[string]string{
		// With like numbers.
		"0 num 1; zero 2; num 1; ret":                                     "1 2 1 2",
		"0 num 1; num 0; zero 5; put; jump 5; ret":                        "1 2 3 2 2 2",
		"0 num 1; num 0; zero 6; num 2; add; jump 6; ret":                 "1 2 3 2 3 2 2",
		"0 num 0; zero 6; num 1; num 2; add; jump 7; num 3; ret":          "1 2 1 2 3 2 1 2",
		"0 num 0; iscon 3 5; num 1; num 0; zero 6; num 1; ret":            "no",
		"0 num 0; iscon 3 6; num 1; num 0; zero 7; jump 7; num 1; ret":    "1 2 1 2 3 2 1 2",
		"0 num 0; zero 7; num 0; zero 7; num 0; zero 7; fail; num 1; ret": "1 2 1 2 1 2 1 1 2",
		"0 num 0; zero 5; num 1; jump 7; fail; num 2; jump 7; ret":        "1 2 1 2 -1 1 2 2",
		"0 num 0; isnum 1 4; num 1; ret; num 2; ret":                      "1 2 1 2 1 2",
		// With unlike ones.
		"0 num 1; zero 3; num 1; num 2; ret":                       "no",
		"0 num 1; zero 3; num 1; fail":                             "no",
		"0 num 1; iscon 0 3; num 1; fail":                          "no",
		"0 num 1; isnum 0 3; num 1; fail":                          "no",
		"0 num 1; zero 4; num 1; jump 4; fail":                     "no",
		"0 num 1; zero 5; num 1; num 2; jump 6; num 3; ret":        "no",
		"0 num 1; zero 4; num 1; jump 6; num 3; num 4; ret":        "no",
		"0 num 1; num 1; zero 4; put; ret":                         "1 2 3 2 2",
		"0 num 1; num 1; zero 4; slide; ret":                       "no",
		"0 num 1; num 1; iscon 0 4; num 2; ret":                    "no",
		"0 num 1; num 1; num 1; isnum 0 5; slide; ret":             "no",
		"0 num 1; num 1; num 1; isnum 0 6; slide; ret; slide; ret": "1 2 3 4 3 2 3 2",
		// Jumps back.
		"0 num 1; zero 0; num 2; ret":                               "1 2 1 2",
		"0 num 1; jump 0":                                           "no",
		"0 num 1; put; jump 1":                                      "1 2 2",
		"0 num 1; put; zero 1; num 1; ret":                          "no",
		"0 num 1; put; local 1; zero 1; ret":                        "1 2 2 3 2",
		"0 num 1; put; local 1; zero 0; ret":                        "no",
		"0 num 3; num -1; add; local 1; zero 6; jump 1; ret":        "1 2 3 2 3 2 2",
		"0 num 3; num -1; add; local 1; zero 6; jump 2; ret":        "no",
		"0 num 3; local 1; isnum 5 1; ret":                          "1 2 3 2",
		"0 num 3; local 1; iscon 5 0; ret":                          "no",
		"0 jump 3; num 1; ret; jump 1":                              "1 1 2 1",
		"0 jump 5; num 1; ret; num 2; jump 2; jump 1":               "1 1 2 -1 -1 1",
		"0 num 0; zero 4; num 1; jump 6; num 1; jump 3; ret":        "1 2 1 2 1 2 2",
		"0 num 0; zero 4; num 1; jump 7; num 1; num 1; jump 3; ret": "no",
		"0 num 1; zero 1; fail":                                     "no",
		"0 num 1; num 1; zero 2; fail":                              "no",
		"0 jump 1; jump 0":                                          "1 1",
		"0 jump 1; jump 2; jump 0":                                  "1 1 1",
		// To the place itself, with one value less.
		"0 num 0; jump 3; fail; iscon 0 3; fail": "no",
		"0 num 0; jump 3; fail; isnum 0 3; fail": "no",
	})
}

func TestDepthsNeverMet(t *testing.T) {
	checkFound(t, map[string]string{
		"0 num 1; ret; ret": "1 2 -1",
		"0 fail; ret":       "1 -1",
		"0 fail; add; call; slide; con 0 20; put; ret; ret":         "1 -1 -1 -1 -1 -1 -1 -1",
		"0 fail; local 2999; ret":                                   "1 -1 -1",
		"0 num 1; ret; local 2999; add; fail":                       "1 2 -1 -1 -1",
		"0 jump 3; local 2999; add; num 1; ret":                     "1 -1 -1 1 2",
		"0 jump 2; jump 2; num 1; ret":                              "1 -1 1 2",
		"0 jump 0; ret":                                             "1 -1",
		"0 num 1; ret; num 1; num 1; jump 1":                        "1 2 -1 -1 -1",
		"0 num 1; ret; jump 0":                                      "1 2 -1",
		"0 num 1; ret; zero 1; fail":                                "1 2 -1 -1",
		"0 num 0; zero 4; num 1; ret; num 2; ret; slide; jump 2":    "1 2 1 2 1 2 -1 -1",
		"0 fail; num 1; jump 1":                                     "1 -1 -1",
		"0 num 0; zero 4; fail; jump 6; num 1; ret; ret":            "1 2 1 -1 1 2 -1",
		"0 fail; zero 4; fail; jump 5; fail; ret":                   "1 -1 -1 -1 -1 -1",
		"0 fail | 0 jump 2; add; fail; slide; ret":                  "1 | 1 -1 1 -1 -1",
		"0 num 1; ret; clos 1 20; jump 2 | 20 fail; free 19; ret":   "1 2 -1 -1 | 1 -1 -1",
		"0 fail | 0 fail; self; iscon 19 0; isnum 5 0; ret; jump 0": "1 | 1 -1 -1 -1 -1 -1",
	})
	never := append([]impl.Op{op(impl.BcFail)}, slices.Repeat([]impl.Op{op(impl.BcNum)}, 200)...)
	never = append(never, op(impl.BcJump, 1))
	depths, ok := impl.Depths([]impl.Fun{fun(0, never...)}, 0)
	if !ok || len(depths) != 202 || depths[0] != 1 || slices.Max(depths[1:]) != -1 || slices.Min(depths) != -1 {
		t.Error("more than MaxDepth values where none comes:", ok, shown(depths))
	}
}

func TestDepthsAtRet(t *testing.T) {
	checkFound(t, map[string]string{
		"0 ret":                                          "no",
		"0 num 1; ret":                                   "1 2",
		"0 num 1; num 2; ret":                            "no",
		"0 num 1; num 2; num 3; ret":                     "no",
		"0 num 1; zero 3; fail; ret":                     "no",
		"0 num 0; zero 4; num 1; ret; ret":               "no",
		"0 num 0; zero 4; num 1; ret; num 2; ret":        "1 2 1 2 1 2",
		"0 num 0; zero 4; num 1; ret; num 2; num 3; ret": "no",
		"0 jump 2; num 1; ret":                           "no",
		"0 num 1; jump 3; ret; ret":                      "1 2 -1 2",
		"0 num 1; ret | 0 ret":                           "1 2 | no",
		"0 num 1; ret | 2 free 0; ret":                   "1 2 | 1 2",
		"0 num 1; ret | 2 free 0; free 1; ret":           "1 2 | no",
		"0 ret | 0 local 0; ret":                         "no | 1 2",
	})
	for values := range 70 {
		for _, o := range []impl.Op{op(impl.BcNum), op(impl.BcLocal), op(impl.BcFree), op(impl.BcSelf)} {
			list := twoFuns(append(slices.Repeat([]impl.Op{o}, values), ret())...)
			if _, ok := impl.Depths(list, 1); ok != (values == 1) {
				t.Errorf("at BcRet %d values and the argument: %v", values, ok)
			}
		}
	}
}

// downToRet comes to an end in which all is right, from any number of values from 1 on.
func downToRet(values int) []impl.Op {
	var list []impl.Op
	for ; values > 21; values -= 19 {
		list = append(list, op(impl.BcCon, 1, 20))
	}
	return append(list, op(impl.BcCon, 1, values-1), ret())
}

func TestDepthsMost(t *testing.T) {
	pushes := []impl.Op{op(impl.BcNum, 5), op(impl.BcLocal), op(impl.BcLocal, 57), op(impl.BcFree), op(impl.BcSelf), op(impl.BcCon, 3), op(impl.BcClos, 2)}
	for _, values := range []int{1, 2, 58, 59, 60, 61, 62, 79, 100, 600, 2990} {
		for _, last := range pushes {
			list := append(slices.Repeat([]impl.Op{op(impl.BcNum)}, values-2+truth(values == 1)), last)
			if values == 1 {
				list = nil
			}
			if last.Code == impl.BcLocal && last.N > 0 && values < 60 {
				continue
			}
			for _, tail := range [][]impl.Op{{op(impl.BcFail)}, {op(impl.BcJump, len(list))}, {op(impl.BcJump, len(list)+2), op(impl.BcNum), op(impl.BcFail)}} {
				askDepth(t, slices.Concat(list, tail), values)
			}
			if 1 < values && values < 600 {
				askDepth(t, append(slices.Clone(list), downToRet(values)...), values)
			}
		}
	}
	// What takes as it puts has no more than there were.
	for _, same := range []impl.Op{op(impl.BcPut), op(impl.BcField), op(impl.BcCon, 1, 1), op(impl.BcClos, 1, 1)} {
		list := append(slices.Repeat([]impl.Op{op(impl.BcNum)}, 59), same, same)
		askDepth(t, append(list, downToRet(60)...), 60)
	}
	// There and back, over and over.
	list := slices.Repeat([]impl.Op{op(impl.BcNum)}, 58)
	for range 900 {
		list = append(list, op(impl.BcNum), op(impl.BcAdd), op(impl.BcPut))
	}
	askDepth(t, append(list, op(impl.BcFail)), 60)
}

// askDepth asks function 1 of three, which has that many values where it has the most.
func askDepth(t *testing.T, places []impl.Op, most int) {
	t.Helper()
	list := []impl.Fun{fun(0, op(impl.BcFail)), fun(1, places...), fun(0, op(impl.BcFail))}
	if !impl.FunsOk(list) {
		t.Fatalf("%s is not right", shown(funsText(list)))
	}
	depths, ok := impl.Depths(list, 1)
	if ok != (most <= 60) || ok && slices.Max(depths) != most || impl.Verify(list) != ok {
		t.Errorf("%d values at most in %s: %v, %v", most, shown(funsText(list)), ok, shown(depths))
	}
	checkDepths(t, list)
}

func TestDepthsFunctionNumber(t *testing.T) {
	for _, count := range []int{1, 2, 3, impl.MaxBlocks} {
		var list []impl.Fun
		for i := range count {
			list = append(list, fun(0, append(slices.Repeat([]impl.Op{op(impl.BcJump, i)}, i), op(impl.BcNum), ret())...))
		}
		for _, i := range []int{math.MinInt, math.MinInt + 1, -1 << 32, -2, -1, count, count + 1, impl.MaxBlocks, 1 << 32, math.MaxInt} {
			if depths, ok := impl.Depths(list, i); ok || len(depths) != 0 {
				t.Errorf("Depths of function %d of %d is %v, %v", i, count, depths, ok)
			}
		}
		for i := range count {
			if depths, ok := impl.Depths(list, i); !ok || len(depths) != i+2 || depths[0] != 1 || depths[i] != 1 || depths[i+1] != 2 {
				t.Errorf("Depths of function %d of %d is %v, %v", i, count, depths, ok)
			}
		}
		if !impl.Verify(list) {
			t.Errorf("%d functions are not verified", count)
		}
		checkDepths(t, list)
	}
}

func notVerified(t *testing.T, what string, list []impl.Fun) {
	t.Helper()
	for i := -1; i <= min(len(list), 70); i++ {
		if depths, ok := impl.Depths(list, i); ok || len(depths) != 0 {
			t.Errorf("%s: Depths(%s, %d) = %v, %v", what, shown(funsText(list)), i, depths, ok)
		}
	}
	if impl.Verify(list) {
		t.Errorf("%s: %s is verified", what, shown(funsText(list)))
	}
}

func TestVerifyNoFunction(t *testing.T) {
	notVerified(t, "nothing", nil)
	notVerified(t, "no function", []impl.Fun{})
	notVerified(t, "room alone", make([]impl.Fun, 0, 4))
	notVerified(t, "room alone, where functions stand", []impl.Fun{fun(0, op(impl.BcFail))}[:0])
	notVerified(t, "a function without places", make([]impl.Fun, 1))
	notVerified(t, "functions without places", make([]impl.Fun, 3))
}

// One that is not right makes all of them wrong, those that are right by themselves too.
func TestVerifyNotRight(t *testing.T) {
	for _, s := range []string{
		"1 num 1; ret", "-1 num 1; ret", "0 num 1", "0 num 1; add", "0", "0 none; fail", "0 num 1; none; fail", "0 free 0; ret", "0 self; ret", "0 clos 1 0; ret", "0 clos 0 0; ret", "0 local -1; ret", "0 local 3000; ret", "0 con 20 0; ret", "0 con 0 -1; ret", "0 con -1 0; ret", "0 num 1; field 20; ret", "0 num 1; field -1; ret", "0 num 1; zero 3; fail", "0 num 1; zero -1; fail", "0 jump 1", "0 jump -1", "0 num 1 1; ret", "0 num 1; ret 1", "0 num 1; ret 0 1", "0 fail 1", "0 jump 0 1", "0 num 1; put 1; ret", "0 num 1; iscon 0 3; fail", "0 num 1; iscon 20 2; fail", "0 num 1; isnum 1073741824 2; fail", "0 num 1073741824; ret", "0 num -1073741825; ret",
		// Where no place that is met is wrong.
		"0 num 1; ret; none; fail", "0 num 1; ret; num 1", "0 fail; self; fail", "0 fail; free 0; ret", "0 fail; jump 7", "0 fail; local 3000; fail", "0 fail; con 0 21; fail", "0 fail; slide 1; fail", "0 fail; ret 0 1",
	} {
		notVerified(t, "alone", funs(t, s))
		notVerified(t, "the first one", funs(t, s+" | 21 num 1; ret"))
		checkDepths(t, funs(t, s))
		checkDepths(t, funs(t, s+" | 0 num 1; ret"))
		checkDepths(t, funs(t, "0 num 1; ret | "+s))
	}
	for _, count := range []int{impl.MaxBlocks, impl.MaxBlocks + 1, impl.MaxBlocks + 2, 1000} {
		list := slices.Repeat([]impl.Fun{fun(0, op(impl.BcFail))}, count)
		if _, ok := impl.Depths(list, count-1); ok != (count == impl.MaxBlocks) || impl.Verify(list) != ok {
			t.Errorf("%d functions: %v", count, ok)
		}
	}
	for _, count := range []int{impl.MaxPlaces, impl.MaxPlaces + 1, 1000 * impl.MaxPlaces} {
		list := []impl.Fun{fun(0, slices.Repeat([]impl.Op{op(impl.BcFail)}, count)...)}
		if _, ok := impl.Depths(list, 0); ok != (count == impl.MaxPlaces) || impl.Verify(list) != ok {
			t.Errorf("%d places: %v", count, ok)
		}
	}
}

func TestVerifyOneOfSeveral(t *testing.T) {
	wrongs := [][]impl.Op{
		{ret()}, {op(impl.BcLocal, 1), ret()}, {op(impl.BcNum), op(impl.BcSlide), op(impl.BcFail)}, {op(impl.BcNum), op(impl.BcJump)}, {op(impl.BcNum), op(impl.BcNum), ret()}, append(slices.Repeat([]impl.Op{op(impl.BcNum)}, 60), op(impl.BcFail)),
	}
	for _, count := range []int{1, 2, 3, 7, impl.MaxBlocks} {
		list := slices.Repeat([]impl.Fun{fun(0, op(impl.BcLocal), ret())}, count)
		if !checkDepths(t, list) {
			t.Errorf("%d functions are not verified", count)
		}
		for at := range count {
			for _, wrong := range wrongs {
				other := clonedFuns(list)
				other[at].List = wrong
				if !impl.FunsOk(other) || checkDepths(t, other) {
					t.Errorf("%d functions, of which function %d is not to be verified: %s", count, at, shown(funsText(other)))
				}
				for i := range count {
					if _, ok := impl.Depths(other, i); ok != (i != at) {
						t.Errorf("Depths of function %d of %d is %v, where that of %d is not", i, count, ok, at)
					}
				}
			}
		}
	}
}

// everyPlaces is each function of so many places, of these ops, all jumps among them, with each end.
func everyPlaces(places int, plain []impl.Op, ways []int, each func([]impl.Op)) {
	ends := []impl.Op{ret(), op(impl.BcFail)}
	for to := range places {
		ends = append(ends, op(impl.BcJump, to))
		for _, code := range ways {
			o := op(code, to)
			if code == impl.BcIsCon || code == impl.BcIsNum {
				o = op(code, 0, to)
			}
			plain = append(plain, o)
		}
	}
	list := make([]impl.Op, places)
	var fill func(at int)
	fill = func(at int) {
		ops := plain
		if at == places-1 {
			ops = ends
		}
		for _, o := range ops {
			list[at] = o
			if at == places-1 {
				each(list)
			} else {
				fill(at + 1)
			}
		}
	}
	fill(0)
}

// All small functions, against the second one; those that are verified run, too.
func TestDepthsSmall(t *testing.T) {
	count := map[bool]int{}
	see := func(list []impl.Op) {
		all := []impl.Fun{fun(0, list...)}
		right := checkDepths(t, all)
		count[right]++
		if right {
			checkRun(t, all, &irThing{kind: impl.VlInt}, 40)
		}
	}
	plain := []impl.Op{op(impl.BcNum), op(impl.BcNum, 1), op(impl.BcLocal), op(impl.BcLocal, 1), op(impl.BcLocal, 2), op(impl.BcAdd), op(impl.BcSlide), op(impl.BcPut), op(impl.BcCon, 0, 2), ret(), op(impl.BcFail)}
	for places := 1; places <= 4; places++ {
		everyPlaces(places, plain, []int{impl.BcZero, impl.BcJump, impl.BcIsCon}, see)
	}
	everyPlaces(5, []impl.Op{op(impl.BcNum), op(impl.BcSlide), ret()}, []int{impl.BcZero, impl.BcJump}, see)
	if count[true] < 5000 || count[false] < 100000 {
		t.Error("of some there are too few:", count)
	}
}

// placeMaker makes a function that is verified, place by place. It knows how many values there are ahead of each place;
// what leads to places behind, with as many values there, waits for one.
type placeMaker struct {
	*dataMaker
	frees   []int
	number  int
	list    []impl.Op
	depths  []int
	values  int
	waiting map[int][]int
}

func (m *placeMaker) put(o impl.Op, behind int) {
	m.list = append(m.list, o)
	m.depths = append(m.depths, m.values)
	m.values = behind
}

func (m *placeMaker) lead(place, to int) {
	o := &m.list[place]
	if o.Code == impl.BcIsCon || o.Code == impl.BcIsNum {
		o.M = to
	} else {
		o.N = to
	}
}

// land has all that wait with so many values lead here.
func (m *placeMaker) land(values int) {
	for _, place := range m.waiting[values] {
		m.lead(place, len(m.list))
	}
	delete(m.waiting, values)
	m.values = values
}

// away puts what leads to another place, with so many values there: to one that is known, or to one that is to come.
func (m *placeMaker) away(o impl.Op, there, behind int) {
	place := len(m.list)
	m.put(o, behind)
	var known []int
	for at, depth := range m.depths {
		if depth == there {
			known = append(known, at)
		}
	}
	if len(known) > 0 && m.pick(3) == 0 {
		m.lead(place, known[m.pick(len(known))])
		return
	}
	m.waiting[there] = append(m.waiting[there], place)
}

func (m *placeMaker) one() {
	values := m.values
	switch m.pick(14) {
	case 0, 1:
		m.put(op(impl.BcNum, m.pick(3)), values+1)
	case 2, 3:
		m.put(op(impl.BcLocal, m.pick(values)), values+1)
	case 4:
		if m.frees[m.number] > 0 {
			m.put(op(impl.BcFree, m.pick(m.frees[m.number])), values+1)
		}
	case 5:
		if m.number > 0 {
			m.put(op(impl.BcSelf), values+1)
		}
	case 6:
		if other := 1 + m.pick(len(m.frees)); other < len(m.frees) && m.frees[other] < values {
			m.put(op(impl.BcClos, other, m.frees[other]), values-m.frees[other]+1)
		}
	case 7:
		kids := m.pick(values)
		m.put(op(impl.BcCon, m.pick(3), min(kids, 20)), values-min(kids, 20)+1)
	case 8, 9:
		if values > 2 {
			m.put(op([]int{impl.BcAdd, impl.BcSub, impl.BcMul, impl.BcLess, impl.BcSame, impl.BcSlide, impl.BcSlide, impl.BcCall, impl.BcCall}[m.pick(9)]), values-1)
		}
	case 10:
		if values > 1 {
			m.put([]impl.Op{op(impl.BcPut), op(impl.BcField), op(impl.BcField, 1)}[m.pick(3)], values)
		}
	case 11, 12:
		if values > 1 {
			m.away([]impl.Op{op(impl.BcZero), op(impl.BcIsCon, m.pick(3)), op(impl.BcIsNum, m.pick(3))}[m.pick(3)], values-1, values-1)
		}
	case 13:
		m.end()
	}
}

// end puts an end, and goes on where something waits.
func (m *placeMaker) end() {
	switch {
	case m.values == 2 && m.pick(3) > 0:
		m.put(ret(), -1)
	case m.pick(3) == 0:
		m.put(op(impl.BcFail), -1)
	default:
		m.away(op(impl.BcJump), m.values, -1)
	}
	for m.pick(3) == 0 {
		m.put([]impl.Op{op(impl.BcSlide), op(impl.BcLocal, 2999), ret(), op(impl.BcCon, 0, 20)}[m.pick(4)], -1)
	}
	m.landWaiting()
}

// landWaiting goes on with as many values as one that waits has, if there is one.
func (m *placeMaker) landWaiting() {
	var waits []int
	for values := range 62 {
		if len(m.waiting[values]) > 0 {
			waits = append(waits, values)
		}
	}
	if len(waits) > 0 {
		m.land(waits[m.pick(len(waits))])
	}
}

func (m *placeMaker) fun() (impl.Fun, []int) {
	m.values, m.waiting = 1, map[int][]int{}
	for range 3 + m.pick(40) {
		if m.values > 0 && m.values < 60 {
			if m.pick(2) == 0 {
				m.land(m.values)
			}
			m.one()
		}
	}
	for m.values > 0 {
		for m.values > 2 {
			m.put(op(impl.BcSlide), m.values-1)
			m.land(m.values)
		}
		if m.values == 1 {
			m.put(op(impl.BcNum), 2)
		}
		m.land(2)
		m.put(ret(), -1)
		m.landWaiting()
	}
	if last := m.list[len(m.list)-1].Code; last != impl.BcRet && last != impl.BcJump && last != impl.BcFail {
		m.put(op(impl.BcFail), -1)
	}
	return fun(m.frees[m.number], m.list...), m.depths
}

// verified are functions that are, and how many values there are at each place of theirs.
func (m *dataMaker) verified() ([]impl.Fun, [][]int) {
	frees := make([]int, 1+m.pick(4))
	for i := range frees[1:] {
		frees[i+1] = m.pick(4)
	}
	var list []impl.Fun
	var depths [][]int
	for i := range frees {
		f, found := (&placeMaker{dataMaker: m, frees: frees, number: i}).fun()
		list = append(list, f)
		depths = append(depths, found)
	}
	return list, depths
}

// At each place that is met while functions are run there are as many values as was found.
func TestVerifiedRuns(t *testing.T) {
	m := dataMaker{seed: 15}
	codes := [3]int{}
	met, never, back := 0, 0, 0
	used := map[int]int{}
	for range 6000 {
		list, want := m.verified()
		if !impl.FunsOk(list) {
			t.Fatalf("no right functions: %s", shown(funsText(list)))
		}
		if !checkDepths(t, list) {
			t.Fatalf("not verified: %s", shown(funsText(list)))
		}
		for i, f := range list {
			depths, ok := impl.Depths(list, i)
			if !ok || !slices.Equal(depths, want[i]) {
				t.Fatalf("Depths(%s, %d) = %v, %v, not %v", shown(funsText(list)), i, depths, ok, want[i])
			}
			for at, o := range f.List {
				used[o.Code] += truth(depths[at] > 0)
				never += truth(depths[at] == -1)
				back += truth(depths[at] > 0 && slices.Min(append(nextPlaces(o, at), at+1)) <= at)
			}
		}
		for _, argument := range []*irThing{{kind: impl.VlInt, n: m.pick(2)}, {kind: impl.VlPair, n: 1, kids: []*irThing{{kind: impl.VlInt}, {kind: impl.VlInt}}}} {
			code, places := checkRun(t, list, argument, 300)
			codes[code]++
			met += places
		}
	}
	for _, code := range allCodes() {
		if used[code] < 1000 {
			t.Errorf("of %s there are too few: %d", codeWords()[code], used[code])
		}
	}
	if codes[0] < 2000 || codes[1] < 100 || codes[2] < 2000 || met < 50000 || never < 3000 || back < 3000 {
		t.Error("of some there are too few:", codes, met, never, back)
	}
}

func TestDepthsTwisted(t *testing.T) {
	m := dataMaker{seed: 150}
	count := map[bool]int{}
	right := 0
	for range 6000 {
		list, _ := m.verified()
		for range 1 + m.pick(3) {
			if list = m.twistFuns(list); m.pick(2) == 0 {
				f := list[m.pick(len(list))]
				for range min(len(f.List), 3) {
					o := &f.List[m.pick(len(f.List))]
					if o.Code == impl.BcIsCon || o.Code == impl.BcIsNum {
						o.M = m.pick(len(f.List))
					} else if o.Code == impl.BcZero || o.Code == impl.BcJump {
						o.N = m.pick(len(f.List))
					}
				}
			}
			ok := checkDepths(t, list)
			count[ok]++
			right += truth(!ok && impl.FunsOk(list))
			if ok {
				checkRun(t, list, &irThing{kind: impl.VlInt}, 200)
			}
		}
	}
	for range 3000 {
		count[checkDepths(t, m.funs())]++
	}
	if count[true] < 1500 || count[false] < 5000 || right < 1500 {
		t.Error("of some there are too few:", count, right)
	}
}

// What is made of blocks is verified, where there are no more than MaxDepth values.
func TestVerifyMadeOfBlocks(t *testing.T) {
	m := dataMaker{seed: 151}
	met := 0
	for range 2500 {
		made, ok := impl.Gen(m.blocks(2 + m.pick(4)))
		if !ok || !checkDepths(t, made) {
			t.Fatalf("made of blocks, and not verified: %s", shown(funsText(made)))
		}
		_, places := checkRun(t, made, &irThing{kind: impl.VlInt, n: 9}, 1000)
		met += places
	}
	if met < 20000 {
		t.Error("too few places are met:", met)
	}
	count := 0
	everyIr(4, 1, func(x impl.Ir) {
		made, ok := impl.Gen([]impl.Block{{Body: iop(impl.IrApp, inop(impl.IrClos, 1, inum(5)), inum(6))}, {Free: 1, Body: x}})
		if !ok || !checkDepths(t, made) {
			t.Fatalf("made of %s, and not verified: %s", irText(x), shown(funsText(made)))
		}
		checkRun(t, made, &irThing{kind: impl.VlInt, n: 9}, 100)
		count++
	})
	if count < 3000 {
		t.Error("too few small blocks:", count)
	}
}

func TestVerifyMadeAtMost(t *testing.T) {
	within := func(count int, about func(impl.Ir) impl.Ir) []impl.Block {
		x := ilocal(0)
		for range count {
			x = about(x)
		}
		return bodies(x)
	}
	kinds := map[string]func(impl.Ir) impl.Ir{
		"sums":        func(x impl.Ir) impl.Ir { return iop(impl.IrAdd, inum(1), x) },
		"lets":        func(x impl.Ir) impl.Ir { return iop(impl.IrLet, inum(1), x) },
		"calls":       func(x impl.Ir) impl.Ir { return iop(impl.IrApp, inum(1), x) },
		"cons":        func(x impl.Ir) impl.Ir { return inop(impl.IrCon, 1, inum(1), x) },
		"second ways": func(x impl.Ir) impl.Ir { return iop(impl.IrSub, inum(2), iop(impl.IrIf, inum(1), x, inum(1))) },
		"third ways":  func(x impl.Ir) impl.Ir { return iop(impl.IrSub, inum(2), inop(impl.IrIsNum, 3, inum(1), inum(1), x)) },
	}
	for what, about := range kinds {
		for count := 55; count < 65; count++ {
			made, ok := impl.Gen(within(count, about))
			if !ok || checkDepths(t, made) != (count+2 <= 60) {
				t.Errorf("%d %s: %v, %s", count, what, ok, shown(funsText(made)))
			}
		}
	}
	for _, what := range []func(impl.Ir) impl.Ir{
		func(x impl.Ir) impl.Ir { return iop(impl.IrAdd, x, inum(1)) },
		func(x impl.Ir) impl.Ir { return iop(impl.IrLet, x, ilocal(1)) },
		func(x impl.Ir) impl.Ir { return iop(impl.IrPut, x) },
		func(x impl.Ir) impl.Ir { return iop(impl.IrIf, x, inum(1), inum(2)) },
		func(x impl.Ir) impl.Ir { return iop(impl.IrIf, inum(1), inum(2), x) },
	} {
		made, ok := impl.Gen(within(400, what))
		if !ok || !checkDepths(t, made) {
			t.Errorf("few values at once: %v, %s", ok, shown(funsText(made)))
		}
	}
}

func TestVerifyPrograms(t *testing.T) {
	for _, s := range append(fewPrograms(),
		"0", "(define (map f l) (if (pair? l) (cons (f (car l)) (map f (cdr l))) l)) (define (add n) (lambda (x) (+ n x))) (map (add 3) (quote (1 2 3)))",
		"(define (even n) (letrec ((odd (lambda (m) (if m (even (- m 1)) 0)))) (if n (odd (- n 1)) 1))) (cons (even 10) (even 7))",
		"(define (fib n) (if (< n 2) n (+ (fib (- n 1)) (fib (- n 2))))) (put (fib 8))",
		"(put 1) (put 2) 3", "((lambda (x y z) (cons z (cons y x))) 1 2 3)", "(car 1)",
	) {
		c, _, code := impl.Expand(s)
		list, ok := impl.Close(c)
		if code != impl.ExDone || !ok {
			t.Fatalf("%q is told %d, %v", s, code, ok)
		}
		made, ok := impl.Gen(list)
		if !ok || !checkDepths(t, made) {
			t.Fatalf("%q is not verified: %s", s, shown(funsText(made)))
		}
		checkRun(t, made, &irThing{kind: impl.VlInt}, 20000)
	}
}

func TestDepthsIsNew(t *testing.T) {
	for _, s := range []string{
		"0 num 1; ret", "0 fail; fail; fail", "0 num 0; zero 4; num 2; jump 5; num 3; ret; fail", "0 clos 1 0; num 5; call; ret | 0 local 0; zero 10; local 0; self; local 0; num -1; add; call; mul; ret; num 1; ret | 0 add; ret",
	} {
		list := funs(t, s)
		for i := range list {
			want, ok := heightsOf(list[i])
			var places []*int
			for range 3 {
				depths, found := impl.Depths(list, i)
				if found != ok || !slices.Equal(depths, want) {
					t.Fatalf("Depths(%s, %d) = %v, %v after one was written into", s, i, depths, found)
				}
				all := depths[:cap(depths)]
				for j := range all {
					places = append(places, &all[j])
				}
			}
			if !allApart(places) {
				t.Errorf("what is found in %s shares memory", s)
			}
		}
		if !equalFuns(list, funs(t, s)) {
			t.Errorf("%s was written into", s)
		}
	}
}

// What stands in the room behind a list does not count, and is not written into.
func TestVerifyWritesNothing(t *testing.T) {
	m := dataMaker{seed: 152}
	for range 1500 {
		plain, _ := m.verified()
		for range m.pick(3) {
			plain = m.twistFuns(plain)
		}
		list := roomyFuns(plain)
		wide := widenedFuns(list)
		var found [][]int
		for i := range list {
			depths, _ := impl.Depths(list, i)
			found = append(found, depths)
		}
		right := impl.Verify(list)
		for _, f := range list {
			for _, o := range f.List {
				impl.Effect(o)
			}
		}
		if !reflect.DeepEqual(widenedFuns(list), wide) {
			t.Fatal("functions were written into:", shown(wide))
		}
		text := shown(found)
		for i := range list {
			want, _ := impl.Depths(plain, i)
			if !slices.Equal(found[i], want) || right != impl.Verify(plain) {
				t.Fatalf("Depths(%s, %d) is another one with room behind", shown(funsText(plain)), i)
			}
			for j := range list[i].List {
				list[i].List[j] = op(77, 88, 99)
			}
		}
		if shown(found) != text {
			t.Fatalf("%s became %s when its functions were written into", text, shown(found))
		}
	}
}

// Functions may share their places, as nothing is written into them.
func TestVerifyShared(t *testing.T) {
	places := []impl.Op{op(impl.BcLocal), op(impl.BcZero, 3), op(impl.BcFail), op(impl.BcNum), ret()}
	list := []impl.Fun{fun(0, places...), fun(0, places...), fun(3, places[:3]...), fun(7, places...)}
	if impl.FunsOk(list) || checkDepths(t, list) {
		t.Error("a jump behind the places is right")
	}
	list[2].List = places
	if !checkDepths(t, list) {
		t.Error("what is shared is not verified")
	}
}

// Nothing is kept from one call to another, and calls beside each other do not meet.
func TestVerifyKeepsNothing(t *testing.T) {
	m := dataMaker{seed: 153}
	lists := [][]impl.Fun{nil, {fun(0, op(impl.BcFail))}, {fun(0, ret())}}
	for range 40 {
		list, _ := m.verified()
		lists = append(lists, list, m.twistFuns(list))
	}
	var wants []string
	var rights []bool
	answer := func(list []impl.Fun) (string, bool) {
		text := ""
		for i := range list {
			text += depthsText(impl.Depths(list, i)) + "|"
		}
		return text, impl.Verify(list)
	}
	for _, list := range lists {
		checkDepths(t, list)
		want, right := answer(list)
		wants, rights = append(wants, want), append(rights, right)
	}
	var all sync.WaitGroup
	for range 4 {
		all.Go(func() {
			for range 20 {
				for i, list := range lists {
					if got, right := answer(list); got != wants[i] || right != rights[i] {
						t.Errorf("Depths(%s) = %s, %v", shown(funsText(list)), got, right)
					}
				}
			}
		})
	}
	all.Wait()
	list := []impl.Fun{fun(0, op(impl.BcLocal), ret())}
	depths, _ := impl.Depths(list, 0)
	list[0].List[0].N = 1
	if impl.Verify(list) || !slices.Equal(depths, []int{1, 2}) {
		t.Error("what was handed in was kept")
	}
	list[0].List[0].N = 0
	if !impl.Verify(list) {
		t.Error("an answer was kept")
	}
}

// The most places, however they lead to each other, do not make it slow, nor do ways without number.
func TestVerifyIsNotSlow(t *testing.T) {
	const most = impl.MaxPlaces
	backwards := []impl.Op{op(impl.BcJump, most-1), op(impl.BcFail)}
	for at := 2; at < most; at++ {
		backwards = append(backwards, op(impl.BcJump, at-1))
	}
	var choices []impl.Op
	for at := 0; at < most-2; at += 2 {
		choices = append(choices, op(impl.BcNum), op(impl.BcZero, (at*7919+2)%(most-2)/2*2))
	}
	choices = append(choices, op(impl.BcNum), ret())
	for _, list := range [][]impl.Op{backwards, choices} {
		all := slices.Repeat([]impl.Fun{fun(0, list...)}, impl.MaxBlocks)
		for range 15 {
			if !impl.Verify(all) {
				t.Fatal("many places are not verified")
			}
			if depths, ok := impl.Depths(all, impl.MaxBlocks-1); !ok || slices.Min(depths) != 1 {
				t.Fatal("of many places one is never met")
			}
		}
	}
}

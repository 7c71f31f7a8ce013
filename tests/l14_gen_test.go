package tests

import (
	"math"
	"reflect"
	"slices"
	"strconv"
	"strings"
	"sync"
	"testing"

	"loop.example/g00396/impl"
)

func equalFuns(a, b []impl.Fun) bool {
	return slices.EqualFunc(a, b, func(x, y impl.Fun) bool {
		return x.Free == y.Free && slices.Equal(x.List, y.List)
	})
}

// funsText tells functions as they are read by funs.
func funsText(list []impl.Fun) string {
	var texts []string
	for _, f := range list {
		var ops []string
		for _, o := range f.List {
			ops = append(ops, opTextOf(o))
		}
		texts = append(texts, strconv.Itoa(f.Free)+" "+strings.Join(ops, "; "))
	}
	return strings.Join(texts, " | ")
}

// The second one below counts places ahead of putting them, and knows where a local stands by the names of all values
// that stand there.

func placesIn(x impl.Ir) int {
	count := 1
	if x.Op == impl.IrIf || x.Op == impl.IrIsCon || x.Op == impl.IrIsNum {
		count = 2
	}
	for _, kid := range x.Kids {
		count += placesIn(kid)
	}
	return count
}

func localName(n int) string { return "local " + strconv.Itoa(n) }

func withValues(stack []string, more ...string) []string {
	return append(slices.Clone(stack), more...)
}

func nextLocal(stack []string) string {
	n := 0
	for _, name := range stack {
		n += truth(name != "other")
	}
	return localName(n)
}

// placesOf is told at which place x begins, and what stands there.
func placesOf(x impl.Ir, at int, stack []string) []impl.Op {
	switch x.Op {
	case impl.IrLocal:
		return []impl.Op{op(impl.BcLocal, slices.Index(stack, localName(x.N)))}
	case impl.IrIf, impl.IrIsCon, impl.IrIsNum:
		return waysOf(x, at, stack)
	case impl.IrLet:
		list := placesOf(x.Kids[0], at, stack)
		list = append(list, placesOf(x.Kids[1], at+len(list), withValues(stack, nextLocal(stack)))...)
		return append(list, op(impl.BcSlide))
	}
	var list []impl.Op
	for i, kid := range x.Kids {
		list = append(list, placesOf(kid, at+len(list), withValues(stack, slices.Repeat([]string{"other"}, i)...))...)
	}
	return append(list, opOver(x))
}

func waysOf(x impl.Ir, at int, stack []string) []impl.Op {
	second := at + placesIn(x.Kids[0]) + 1
	third := second + placesIn(x.Kids[1]) + 1
	choice := op(impl.BcZero, third)
	if x.Op != impl.IrIf {
		choice = op(x.Op-impl.IrIsCon+impl.BcIsCon, x.N, third)
	}
	return slices.Concat(
		placesOf(x.Kids[0], at, stack), []impl.Op{choice},
		placesOf(x.Kids[1], second, stack), []impl.Op{op(impl.BcJump, third+placesIn(x.Kids[2]))},
		placesOf(x.Kids[2], third, stack),
	)
}

func opOver(x impl.Ir) impl.Op {
	switch x.Op {
	case impl.IrNum:
		return op(impl.BcNum, x.N)
	case impl.IrFree:
		return op(impl.BcFree, x.N)
	case impl.IrSelf:
		return op(impl.BcSelf)
	case impl.IrClos:
		return op(impl.BcClos, x.N, len(x.Kids))
	case impl.IrApp:
		return op(impl.BcCall)
	case impl.IrCon:
		return op(impl.BcCon, x.N, len(x.Kids))
	case impl.IrPut:
		return op(impl.BcPut)
	case impl.IrField:
		return op(impl.BcField, x.N)
	case impl.IrFail:
		return op(impl.BcFail)
	}
	return op(x.Op - impl.IrAdd + impl.BcAdd)
}

func genOf(list []impl.Block) ([]impl.Fun, bool) {
	if !rightBlocks(list) {
		return nil, false
	}
	var made []impl.Fun
	for _, b := range list {
		made = append(made, fun(b.Free, append(placesOf(b.Body, 0, []string{localName(0)}), ret())...))
	}
	if !rightFuns(made) {
		return nil, false
	}
	return made, true
}

func effectOf(o impl.Op) (int, int) {
	switch o.Code {
	case impl.BcNum, impl.BcLocal, impl.BcFree, impl.BcSelf:
		return 0, 1
	case impl.BcClos, impl.BcCon:
		return o.M, 1
	case impl.BcField, impl.BcPut:
		return 1, 1
	case impl.BcRet, impl.BcIsCon, impl.BcIsNum, impl.BcZero:
		return 1, 0
	case impl.BcJump, impl.BcFail:
		return 0, 0
	}
	return 2, 1
}

// nextPlaces are those to which one leads.
func nextPlaces(o impl.Op, at int) []int {
	switch o.Code {
	case impl.BcRet, impl.BcFail:
		return nil
	case impl.BcJump:
		return []int{o.N}
	case impl.BcZero:
		return []int{at + 1, o.N}
	case impl.BcIsCon, impl.BcIsNum:
		return []int{at + 1, o.M}
	}
	return []int{at + 1}
}

// checkValues asks that at each place that is met there are the values that it takes, by each way as many.
func checkValues(t *testing.T, f impl.Fun) {
	t.Helper()
	at := map[int]int{0: 1}
	for work := []int{0}; len(work) > 0; work = work[1:] {
		place := work[0]
		o, values := f.List[place], at[place]
		takes, puts := effectOf(o)
		if values-1 < takes || o.Code == impl.BcLocal && o.N >= values || o.Code == impl.BcRet && values != 2 {
			t.Fatalf("%d values at place %d of %s", values, place, shown(funsText([]impl.Fun{f})))
		}
		for _, next := range nextPlaces(o, place) {
			known, met := at[next]
			if met && known != values-takes+puts {
				t.Fatalf("%d and %d values at place %d of %s", known, values-takes+puts, next, shown(funsText([]impl.Fun{f})))
			}
			if !met {
				at[next] = values - takes + puts
				work = append(work, next)
			}
		}
	}
}

// checkGen holds Gen against the second one; what is made must be right (P14), a function a block.
func checkGen(t *testing.T, list []impl.Block) ([]impl.Fun, bool) {
	t.Helper()
	got, ok := impl.Gen(list)
	want, wantOk := genOf(list)
	if ok != wantOk || !equalFuns(got, want) {
		t.Fatalf("Gen(%s) = %s, %v, not %s, %v", shown(blocksText(list)), shown(funsText(got)), ok, shown(funsText(want)), wantOk)
	}
	if !ok {
		if len(got) != 0 {
			t.Fatalf("Gen(%s) is false, and %s", shown(blocksText(list)), shown(funsText(got)))
		}
		return nil, false
	}
	if !impl.FunsOk(got) || len(got) != len(list) {
		t.Fatalf("what is made of %s is not right: %s", shown(blocksText(list)), shown(funsText(got)))
	}
	places := 0
	for i, f := range got {
		if f.Free != list[i].Free || f.List[len(f.List)-1] != ret() {
			t.Fatalf("function %d of %s is %v", i, shown(blocksText(list)), shown(f))
		}
		checkValues(t, f)
		places += len(f.List)
	}
	if impl.Places(got) != places {
		t.Fatalf("Places(%s) = %d, not %d", shown(funsText(got)), impl.Places(got), places)
	}
	return got, true
}

// codeRun runs functions, so that a value that is taken from another place shows in what comes out. Where there is a see,
// that is told of each place that is met, with how many values there are.
type codeRun struct {
	irRun
	funs []impl.Fun
	see  func(number, at, values int)
}

func (r *codeRun) call(number int, self, argument *irThing) *irThing {
	stack := []*irThing{argument}
	take := func(count int) []*irThing {
		taken := slices.Clone(stack[len(stack)-count:])
		stack = stack[:len(stack)-count]
		return taken
	}
	for at := 0; ; {
		if r.left--; r.left < 0 {
			return r.end(impl.EvFuel)
		}
		if r.see != nil {
			r.see(number, at, len(stack))
		}
		o := r.funs[number].List[at]
		at++
		takes, _ := effectOf(o)
		kids := take(takes)
		switch o.Code {
		case impl.BcRet:
			return kids[0]
		case impl.BcJump:
			at = o.N
		case impl.BcZero:
			if kids[0].kind == impl.VlInt && kids[0].n == 0 {
				at = o.N
			}
		case impl.BcIsCon, impl.BcIsNum:
			kind := impl.VlPair
			if o.Code == impl.BcIsNum {
				kind = impl.VlInt
			}
			if kids[0].kind != kind || kids[0].n != o.N {
				at = o.M
			}
		case impl.BcLocal:
			stack = append(stack, stack[o.N])
		default:
			stack = append(stack, r.step(o, kids, self))
		}
		if r.code != 0 {
			return &irThing{}
		}
	}
}

func (r *codeRun) step(o impl.Op, kids []*irThing, self *irThing) *irThing {
	switch o.Code {
	case impl.BcNum:
		return &irThing{kind: impl.VlInt, n: o.N}
	case impl.BcFree:
		return self.kids[o.N]
	case impl.BcSelf:
		return self
	case impl.BcSlide:
		return kids[1]
	case impl.BcCall:
		if kids[0].kind == impl.VlFun {
			return r.call(kids[0].n, kids[0], kids[1])
		}
	case impl.BcAdd, impl.BcSub, impl.BcMul, impl.BcLess, impl.BcSame:
		return r.ofKids(iop(o.Code-impl.BcAdd+impl.IrAdd), kids, irFrame{})
	case impl.BcClos:
		return r.ofKids(inop(impl.IrClos, o.N), kids, irFrame{})
	case impl.BcCon:
		return r.ofKids(inop(impl.IrCon, o.N), kids, irFrame{})
	case impl.BcField:
		return r.ofKids(inop(impl.IrField, o.N), kids, irFrame{})
	case impl.BcPut:
		return r.ofKids(iop(impl.IrPut), kids, irFrame{})
	}
	return r.end(impl.EvStuck)
}

func wholeThingText(v *irThing, deep int) string {
	if v.kind == impl.VlInt || deep == 0 {
		return strconv.Itoa(v.n)
	}
	text := []string{"", "", "", "con", "fun"}[v.kind] + strconv.Itoa(v.n)
	for _, kid := range v.kids {
		text += " " + wholeThingText(kid, deep-1)
	}
	return "(" + text + ")"
}

// checkGenDoes asks that functions do what their blocks do, which is what they are for. A node has two places at most,
// so with so much more fuel functions come to an end where their blocks do.
func checkGenDoes(t *testing.T, list []impl.Block, made []impl.Fun, fuel int) int {
	t.Helper()
	argument := &irThing{kind: impl.VlInt, n: 9}
	blockRun := irRun{list: list, left: fuel}
	want := blockRun.of(list[0].Body, irFrame{&irThing{}, []*irThing{argument}})
	run := codeRun{irRun: irRun{left: 4 * fuel}, funs: made}
	got := run.call(0, &irThing{}, argument)
	most := min(len(run.out), len(blockRun.out))
	alike := slices.Equal(run.out[:most], blockRun.out[:most])
	if blockRun.code != impl.EvFuel {
		alike = alike && run.code == blockRun.code && len(run.out) == len(blockRun.out)
	}
	if blockRun.code == 0 {
		alike = alike && wholeThingText(got, 8) == wholeThingText(want, 8)
	}
	if !alike {
		t.Fatalf("%s does %v, code %d; %s does %v, code %d", shown(blocksText(list)), blockRun.out, blockRun.code, shown(funsText(made)), run.out, run.code)
	}
	return blockRun.code
}

// checkMadeTo asks, row by row, for the functions that are told.
func checkMadeTo(t *testing.T, rows map[string]string) {
	t.Helper()
	for in, told := range rows {
		list := blocks(t, in)
		got, ok := impl.Gen(list)
		if want := funs(t, told); !ok || !equalFuns(got, want) {
			t.Errorf("Gen(%s) = %s, %v, not %s", in, funsText(got), ok, told)
		}
		if made, ok := checkGen(t, list); ok {
			checkGenDoes(t, list, made, 5000)
		}
	}
}

func TestGenEachOp(t *testing.T) {
	checkMadeTo(t, map[string]string{
		"0 0": "0 num 0; ret", "0 7": "0 num 7; ret", "0 -1073741824": "0 num -1073741824; ret", "0 1073741823": "0 num 1073741823; ret",
		"0 l0":                          "0 local 0; ret",
		"0 1 1 f0":                      "0 num 1; ret | 1 free 0; ret",
		"0 1 3 f2":                      "0 num 1; ret | 3 free 2; ret",
		"0 1 0 self":                    "0 num 1; ret | 0 self; ret",
		"0 (clos 1) 0 l0":               "0 clos 1 0; ret | 0 local 0; ret",
		"0 (clos 1 4 5) 2 f1":           "0 num 4; num 5; clos 1 2; ret | 2 free 1; ret",
		"0 (clos 2 4) 2 f1 1 f0":        "0 num 4; clos 2 1; ret | 2 free 1; ret | 1 free 0; ret",
		"0 (app 1 2)":                   "0 num 1; num 2; call; ret",
		"0 (let 1 l1)":                  "0 num 1; local 1; slide; ret",
		"0 (let 1 2)":                   "0 num 1; num 2; slide; ret",
		"0 (let 1 l0)":                  "0 num 1; local 0; slide; ret",
		"0 (if 1 2 3)":                  "0 num 1; zero 4; num 2; jump 5; num 3; ret",
		"0 (+ 1 2)":                     "0 num 1; num 2; add; ret",
		"0 (- 1 2)":                     "0 num 1; num 2; sub; ret",
		"0 (* 1 2)":                     "0 num 1; num 2; mul; ret",
		"0 (< 1 2)":                     "0 num 1; num 2; less; ret",
		"0 (= 1 2)":                     "0 num 1; num 2; same; ret",
		"0 (con 0)":                     "0 con 0 0; ret",
		"0 (con 7)":                     "0 con 7 0; ret",
		"0 (con 1 5 6)":                 "0 num 5; num 6; con 1 2; ret",
		"0 (con 2 5 6 7)":               "0 num 5; num 6; num 7; con 2 3; ret",
		"0 (put 1)":                     "0 num 1; put; ret",
		"0 (field 0 1)":                 "0 num 1; field 0; ret",
		"0 (field 1 (con 1 2 3))":       "0 num 2; num 3; con 1 2; field 1; ret",
		"0 (iscon 1 5 6 7)":             "0 num 5; iscon 1 4; num 6; jump 5; num 7; ret",
		"0 (iscon 2 (con 2 1) 6 7)":     "0 num 1; con 2 1; iscon 2 5; num 6; jump 6; num 7; ret",
		"0 (isnum 5 5 6 7)":             "0 num 5; isnum 5 4; num 6; jump 5; num 7; ret",
		"0 (isnum -1073741824 l0 6 7)":  "0 local 0; isnum -1073741824 4; num 6; jump 5; num 7; ret",
		"0 (isnum 1073741823 l0 6 7)":   "0 local 0; isnum 1073741823 4; num 6; jump 5; num 7; ret",
		"0 fail":                        "0 fail; ret",
		"0 (put fail)":                  "0 fail; put; ret",
		"0 (if fail fail fail)":         "0 fail; zero 4; fail; jump 5; fail; ret",
		"0 (app (clos 1) 8) 0 (put l0)": "0 clos 1 0; num 8; call; ret | 0 local 0; put; ret",
		"0 (app (clos 1 3 4) 8) 2 (con 1 f1 (con 1 f0 l0))": "0 num 3; num 4; clos 1 2; num 8; call; ret | 2 free 1; free 0; local 0; con 1 2; con 1 2; ret",
		"0 (app (clos 1) 3) 0 (if l0 (app self 0) self)":    "0 clos 1 0; num 3; call; ret | 0 local 0; zero 6; self; num 0; call; jump 7; self; ret",
	})
}

// What tells on the left is put first, and all kids ahead of what is made of them.
func TestGenKidsFirst(t *testing.T) {
	checkMadeTo(t, map[string]string{
		"0 (- (- 1 2) (- 3 4))":                             "0 num 1; num 2; sub; num 3; num 4; sub; sub; ret",
		"0 (- 1 (- 2 (- 3 4)))":                             "0 num 1; num 2; num 3; num 4; sub; sub; sub; ret",
		"0 (- (- (- 1 2) 3) 4)":                             "0 num 1; num 2; sub; num 3; sub; num 4; sub; ret",
		"0 (con 1 (put 1) (con 1 (put 2) (put 3)))":         "0 num 1; put; num 2; put; num 3; put; con 1 2; con 1 2; ret",
		"0 (con 3 (put 1) (put 2) (put 3) (put 4))":         "0 num 1; put; num 2; put; num 3; put; num 4; put; con 3 4; ret",
		"0 (< (+ 1 2) (* 3 4))":                             "0 num 1; num 2; add; num 3; num 4; mul; less; ret",
		"0 (= (put 1) (field 0 (con 1 2 3)))":               "0 num 1; put; num 2; num 3; con 1 2; field 0; same; ret",
		"0 (clos 1 (put 1) (put 2)) 2 f0":                   "0 num 1; put; num 2; put; clos 1 2; ret | 2 free 0; ret",
		"0 (app (app (clos 1) (put 1)) (put 2)) 0 l0":       "0 clos 1 0; num 1; put; call; num 2; put; call; ret | 0 local 0; ret",
		"0 (app (clos 1) (app (clos 1) 2)) 0 (* l0 l0)":     "0 clos 1 0; clos 1 0; num 2; call; call; ret | 0 local 0; local 0; mul; ret",
		"0 (let (put 1) (put 2))":                           "0 num 1; put; num 2; put; slide; ret",
		"0 (let (con 1 1 2) (- (field 1 l1) (field 0 l1)))": "0 num 1; num 2; con 1 2; local 1; field 1; local 1; field 0; sub; slide; ret",
	})
}

func TestGenWays(t *testing.T) {
	checkMadeTo(t, map[string]string{
		"0 (if 0 (put 2) (put 3))":       "0 num 0; zero 5; num 2; put; jump 7; num 3; put; ret",
		"0 (if (put 0) 2 (put 3))":       "0 num 0; put; zero 5; num 2; jump 7; num 3; put; ret",
		"0 (if (con 0) 2 3)":             "0 con 0 0; zero 4; num 2; jump 5; num 3; ret",
		"0 (iscon 0 (con 0) (put 2) 3)":  "0 con 0 0; iscon 0 5; num 2; put; jump 6; num 3; ret",
		"0 (iscon 0 (con 1 1 2) 2 3)":    "0 num 1; num 2; con 1 2; iscon 0 6; num 2; jump 7; num 3; ret",
		"0 (iscon 0 (clos 1) 2 3) 0 1":   "0 clos 1 0; iscon 0 4; num 2; jump 5; num 3; ret | 0 num 1; ret",
		"0 (isnum 4 (con 4) 2 (put 3))":  "0 con 4 0; isnum 4 4; num 2; jump 6; num 3; put; ret",
		"0 (isnum -4 (- 0 4) 2 (put 3))": "0 num 0; num 4; sub; isnum -4 6; num 2; jump 8; num 3; put; ret",
		// One within another, in each of its kids.
		"0 (if (if 1 2 3) 4 5)":                          "0 num 1; zero 4; num 2; jump 5; num 3; zero 8; num 4; jump 9; num 5; ret",
		"0 (if 1 (if 2 3 4) 5)":                          "0 num 1; zero 8; num 2; zero 6; num 3; jump 7; num 4; jump 9; num 5; ret",
		"0 (if 1 2 (if 3 4 5))":                          "0 num 1; zero 4; num 2; jump 9; num 3; zero 8; num 4; jump 9; num 5; ret",
		"0 (if (if 1 2 3) (if 4 5 6) (if 7 8 9))":        "0 num 1; zero 4; num 2; jump 5; num 3; zero 12; num 4; zero 10; num 5; jump 11; num 6; jump 17; num 7; zero 16; num 8; jump 17; num 9; ret",
		"0 (iscon 1 (isnum 2 3 4 5) 6 7)":                "0 num 3; isnum 2 4; num 4; jump 5; num 5; iscon 1 8; num 6; jump 9; num 7; ret",
		"0 (isnum 1 2 (iscon 3 4 5 6) (if 7 8 9))":       "0 num 2; isnum 1 8; num 4; iscon 3 6; num 5; jump 7; num 6; jump 13; num 7; zero 12; num 8; jump 13; num 9; ret",
		"0 (iscon 1 l0 (if 1 2 3) (isnum 0 l0 fail l0))": "0 local 0; iscon 1 8; num 1; zero 6; num 2; jump 7; num 3; jump 13; local 0; isnum 0 12; fail; jump 13; local 0; ret",
		"0 (isnum 9 (if 1 2 3) (isnum 8 4 5 6) 7)":       "0 num 1; zero 4; num 2; jump 5; num 3; isnum 9 12; num 4; isnum 8 10; num 5; jump 11; num 6; jump 13; num 7; ret",
		// As a kid of others.
		"0 (+ (if 1 2 3) (isnum -4 5 6 7))":                    "0 num 1; zero 4; num 2; jump 5; num 3; num 5; isnum -4 9; num 6; jump 10; num 7; add; ret",
		"0 (put (if 1 2 3))":                                   "0 num 1; zero 4; num 2; jump 5; num 3; put; ret",
		"0 (field 0 (iscon 1 l0 l0 (con 1 2 3)))":              "0 local 0; iscon 1 4; local 0; jump 7; num 2; num 3; con 1 2; field 0; ret",
		"0 (con 4 1 (if 2 3 4) (isnum 9 5 6 7) 8)":             "0 num 1; num 2; zero 5; num 3; jump 6; num 4; num 5; isnum 9 10; num 6; jump 11; num 7; num 8; con 4 4; ret",
		"0 (clos 1 (if 1 2 3) 4) 2 (if l0 f0 f1)":              "0 num 1; zero 4; num 2; jump 5; num 3; num 4; clos 1 2; ret | 2 local 0; zero 4; free 0; jump 5; free 1; ret",
		"0 (app (if 1 (clos 1) (clos 2)) (if 0 5 6)) 0 l0 0 7": "0 num 1; zero 4; clos 1 0; jump 5; clos 2 0; num 0; zero 9; num 5; jump 10; num 6; call; ret | 0 local 0; ret | 0 num 7; ret",
		"0 (let (if 1 2 3) (if l1 l1 4))":                      "0 num 1; zero 4; num 2; jump 5; num 3; local 1; zero 9; local 1; jump 10; num 4; slide; ret",
		"0 (let 0 (iscon 0 l1 2 (isnum 0 l1 3 4)))":            "0 num 0; local 1; iscon 0 5; num 2; jump 10; local 1; isnum 0 9; num 3; jump 10; num 4; slide; ret",
	})
}

// A let's local stands behind all values that stand there, those that have no number too.
func TestGenLocalsAmongValues(t *testing.T) {
	checkMadeTo(t, map[string]string{
		"0 (+ 1 (let 2 l1))":                      "0 num 1; num 2; local 2; slide; add; ret",
		"0 (+ (let 2 l1) 1)":                      "0 num 2; local 1; slide; num 1; add; ret",
		"0 (- (let 2 l1) (let 3 l1))":             "0 num 2; local 1; slide; num 3; local 2; slide; sub; ret",
		"0 (- l0 (let 3 (- l1 l0)))":              "0 local 0; num 3; local 2; local 0; sub; slide; sub; ret",
		"0 (+ 1 (+ 2 (+ 3 (let 4 l1))))":          "0 num 1; num 2; num 3; num 4; local 4; slide; add; add; add; ret",
		"0 (+ (+ (+ 1 2) 3) (let 4 l1))":          "0 num 1; num 2; add; num 3; add; num 4; local 2; slide; add; ret",
		"0 (+ 1 (let 2 (+ 3 (let 4 (- l1 l2)))))": "0 num 1; num 2; num 3; num 4; local 2; local 4; sub; slide; add; slide; add; ret",
		// In a later kid of a con or a closure.
		"0 (con 1 5 (let 6 l1))":                                "0 num 5; num 6; local 2; slide; con 1 2; ret",
		"0 (con 2 1 2 (let 3 l1))":                              "0 num 1; num 2; num 3; local 3; slide; con 2 3; ret",
		"0 (con 2 (let 1 l1) (let 2 l1) (let 3 l1))":            "0 num 1; local 1; slide; num 2; local 2; slide; num 3; local 3; slide; con 2 3; ret",
		"0 (clos 1 1 2 (let 3 (+ l1 l0))) 3 f2":                 "0 num 1; num 2; num 3; local 3; local 0; add; slide; clos 1 3; ret | 3 free 2; ret",
		"0 (let 7 (clos 1 l1 (let 8 (- l2 l1)))) 2 f1":          "0 num 7; local 1; num 8; local 3; local 1; sub; slide; clos 1 2; slide; ret | 2 free 1; ret",
		"0 (let 7 (con 2 l1 (let l1 l2) (let 8 (- l1 l2))))":    "0 num 7; local 1; local 1; local 3; slide; num 8; local 1; local 4; sub; slide; con 2 3; slide; ret",
		"0 (con 1 1 (con 1 2 (con 1 3 (let 4 (con 1 l0 l1)))))": "0 num 1; num 2; num 3; num 4; local 0; local 4; con 1 2; slide; con 1 2; con 1 2; con 1 2; ret",
		// In an application.
		"0 (app (clos 1) (let 2 l1)) 0 l0":                             "0 clos 1 0; num 2; local 2; slide; call; ret | 0 local 0; ret",
		"0 (app (let (clos 1) l1) 2) 0 l0":                             "0 clos 1 0; local 1; slide; num 2; call; ret | 0 local 0; ret",
		"0 (app (clos 1) 3) 0 (- 9 (let l0 (- l1 (let 4 (- l2 l1)))))": "0 clos 1 0; num 3; call; ret | 0 num 9; local 0; local 2; num 4; local 4; local 2; sub; slide; sub; slide; sub; ret",
		// In ways, and in what they are chosen by, which stands there no more.
		"0 (if 1 (let 2 l1) (let 3 l1))":                      "0 num 1; zero 6; num 2; local 1; slide; jump 9; num 3; local 1; slide; ret",
		"0 (if 0 (let 2 l1) (let 3 l1))":                      "0 num 0; zero 6; num 2; local 1; slide; jump 9; num 3; local 1; slide; ret",
		"0 (+ 5 (if 0 (let 2 l1) (let 3 l1)))":                "0 num 5; num 0; zero 7; num 2; local 2; slide; jump 10; num 3; local 2; slide; add; ret",
		"0 (+ (if 0 4 5) (let 3 l1))":                         "0 num 0; zero 4; num 4; jump 5; num 5; num 3; local 2; slide; add; ret",
		"0 (if (let 1 l1) l0 (+ l0 (let 2 l1)))":              "0 num 1; local 1; slide; zero 6; local 0; jump 11; local 0; num 2; local 2; slide; add; ret",
		"0 (+ 6 (if (let 0 l1) 1 2))":                         "0 num 6; num 0; local 2; slide; zero 7; num 1; jump 8; num 2; add; ret",
		"0 (let 1 (iscon 1 l1 (let 2 (+ l1 l2)) (let 3 l2)))": "0 num 1; local 1; iscon 1 9; num 2; local 1; local 2; add; slide; jump 12; num 3; local 2; slide; slide; ret",
		"0 (+ 4 (isnum 1 (let 1 l1) (let 2 l1) (let 3 l1)))":  "0 num 4; num 1; local 2; slide; isnum 1 9; num 2; local 2; slide; jump 12; num 3; local 2; slide; add; ret",
		// A let within a let's first and second kid.
		"0 (let (let 1 l1) l1)":                                       "0 num 1; local 1; slide; local 1; slide; ret",
		"0 (let (let 1 (let 2 (- l1 l2))) l1)":                        "0 num 1; num 2; local 1; local 2; sub; slide; slide; local 1; slide; ret",
		"0 (let 1 (let 2 (+ l1 l2)))":                                 "0 num 1; num 2; local 1; local 2; add; slide; slide; ret",
		"0 (let 1 (let (let l1 l2) (- l2 l1)))":                       "0 num 1; local 1; local 2; slide; local 2; local 1; sub; slide; slide; ret",
		"0 (let (+ 1 (let 2 l1)) (+ l1 (let 3 l2)))":                  "0 num 1; num 2; local 2; slide; add; local 1; num 3; local 3; slide; add; slide; ret",
		"0 (let 1 (+ l1 (let 2 (+ l2 (let 3 (con 2 l0 l1 l2 l3))))))": "0 num 1; local 1; num 2; local 3; num 3; local 0; local 1; local 3; local 5; con 2 4; slide; add; slide; add; slide; ret",
		"0 (+ 1 (let (+ 2 (let 3 l1)) (+ l1 (let l1 (- l1 l2)))))":    "0 num 1; num 2; num 3; local 3; slide; add; local 2; local 2; local 2; local 4; sub; slide; add; slide; add; ret",
		// In what is made of one.
		"0 (put (let 1 l1))":               "0 num 1; local 1; slide; put; ret",
		"0 (field 1 (let (con 1 1 2) l1))": "0 num 1; num 2; con 1 2; local 1; slide; field 1; ret",
		"0 (+ 1 (put (let 2 l1)))":         "0 num 1; num 2; local 2; slide; put; add; ret",
		// What never comes counts as a value as well.
		"0 (+ fail (let 1 l1))": "0 fail; num 1; local 2; slide; add; ret",
		"0 (let fail l1)":       "0 fail; local 1; slide; ret",
	})
}

// Each block is begun anew, with its argument alone.
func TestGenBlocksBySelf(t *testing.T) {
	checkMadeTo(t, map[string]string{
		"0 (let 1 (let 2 (app (clos 1 l2) l1))) 1 (let f0 (- l1 l0)) 0 (+ 1 (let 2 l1))": "0 num 1; num 2; local 2; clos 1 1; local 1; call; slide; slide; ret | 1 free 0; local 1; local 0; sub; slide; ret | 0 num 1; num 2; local 2; slide; add; ret",
		"0 1 0 2 0 3":                          "0 num 1; ret | 0 num 2; ret | 0 num 3; ret",
		"0 (if 1 2 3) 0 (if 1 2 3)":            "0 num 1; zero 4; num 2; jump 5; num 3; ret | 0 num 1; zero 4; num 2; jump 5; num 3; ret",
		"0 1 2 (clos 1 self f1) 1 (clos 2 f0)": "0 num 1; ret | 2 self; free 1; clos 1 2; ret | 1 free 0; clos 2 1; ret",
		"0 1 5 2":                              "0 num 1; ret | 5 num 2; ret",
	})
}

func noFuns(t *testing.T, what string, list []impl.Block) {
	t.Helper()
	if made, ok := impl.Gen(list); ok || len(made) != 0 {
		t.Errorf("%s: Gen(%s) = %s, %v", what, shown(blocksText(list)), shown(funsText(made)), ok)
	}
}

func TestGenOfNoBlocks(t *testing.T) {
	noFuns(t, "nothing", nil)
	noFuns(t, "no block", []impl.Block{})
	noFuns(t, "room alone", make([]impl.Block, 0, 4))
	noFuns(t, "a block that is zero", make([]impl.Block, 1))
	noFuns(t, "blocks that are zero", make([]impl.Block, 3))
	for _, s := range []string{
		"1 5", "-1 5", "0 f0", "0 self", "0 l1", "0 l-1", "0 (let l1 1)", "0 (let 1 l2)", "0 (+ (let 1 l1) l1)", "0 (clos 0)", "0 (clos 1)", "0 (clos -1)", "0 (clos 1 2) 0 1", "0 (clos 1) 1 f0", "0 1 -1 2", "0 1 1 f1", "0 1 1 f-1", "0 1 0 (clos 2)",
		"0 (put)", "0 (put 1 2)", "0 (app 1)", "0 (app 1 2 3)", "0 (let 1)", "0 (let 1 2 3)", "0 (if 1 2)", "0 (if 1 2 3 4)", "0 (+ 1)", "0 (+ 1 2 3)", "0 (field 0)", "0 (field 0 1 2)", "0 (field -1 1)", "0 (con -1)", "0 (iscon -1 1 2 3)", "0 (iscon 0 1 2)", "0 (iscon 0 1 2 3 4)", "0 (isnum 0 1 2)", "0 (isnum 0 1 2 3 4)",
		"0 1 0 2 0 (+ 1 l1)", "0 (if 1 2 (+ 1 (put l4)))",
	} {
		noFuns(t, "what is not BlocksOk", blocks(t, s))
		checkGen(t, blocks(t, s))
	}
	for _, x := range []impl.Ir{
		inum(1073741824), inum(-1073741825), inum(math.MaxInt), inum(math.MinInt), inop(impl.IrIsNum, 1073741824, inum(1), inum(1), inum(1)), inop(impl.IrSelf, 1), inop(impl.IrPut, 1, inum(1)), inop(impl.IrLet, 1, inum(1), inum(1)), inop(impl.IrIf, 1, inum(1), inum(1), inum(1)), inop(impl.IrFail, 1), iop(0), iop(20), iop(-1), iop(math.MaxInt), iop(math.MinInt), iop(impl.IrNum, inum(1)), iop(impl.IrFail, inum(1)), ilocal(math.MaxInt), inop(impl.IrClos, math.MaxInt), inop(impl.IrCon, math.MinInt),
	} {
		noFuns(t, "a wrong body", bodies(x))
		noFuns(t, "a wrong body behind another one", bodies(inum(1), x))
		noFuns(t, "within", bodies(inum(1), iop(impl.IrLet, inum(1), iop(impl.IrAdd, inum(1), x))))
	}
}

func TestGenHowManyBlocks(t *testing.T) {
	for count := range impl.MaxBlocks + 5 {
		fits := 1 <= count && count <= impl.MaxBlocks
		plain := bodies(slices.Repeat([]impl.Ir{inum(1)}, count)...)
		var chain []impl.Block
		for i := range count {
			chain = append(chain, impl.Block{Body: inop(impl.IrClos, min(i+1, count-1))})
		}
		if count == 1 {
			chain[0].Body = inum(1)
		}
		for _, list := range [][]impl.Block{plain, chain} {
			if made, ok := checkGen(t, list); ok != fits || len(made) != count*truth(fits) || ok && impl.Places(made) != 2*count {
				t.Errorf("%d blocks: %v, %d functions", count, ok, len(made))
			}
		}
	}
	noFuns(t, "far too many", bodies(slices.Repeat([]impl.Ir{inum(1)}, 100000)...))
}

// askGen asks whether there is something made, of blocks that are right all the same.
func askGen(t *testing.T, what string, list []impl.Block, fits bool) {
	t.Helper()
	if !impl.BlocksOk(list) {
		t.Errorf("%s: %s is not right", what, shown(blocksText(list)))
	}
	if _, ok := checkGen(t, list); ok != fits {
		t.Errorf("%s: Gen(%s) is %v", what, shown(blocksText(list)), ok)
	}
}

// wheresOf are blocks in which x stands at all sorts of places, those that are never come to among them.
func wheresOf(x impl.Ir) [][]impl.Block {
	return [][]impl.Block{
		bodies(x), bodies(inum(1), x), bodies(inum(1), x, inum(2)), bodies(x, inum(1)), bodies(iop(impl.IrPut, x)), bodies(iop(impl.IrAdd, inum(1), x)), bodies(iop(impl.IrLet, x, inum(1))), bodies(iop(impl.IrLet, inum(1), x)),
		bodies(iop(impl.IrIf, x, inum(1), inum(1))), bodies(iop(impl.IrIf, inum(0), x, inum(1))), bodies(iop(impl.IrIf, inum(1), inum(1), x)), bodies(iop(impl.IrAdd, iop(impl.IrFail), x)), bodies(inop(impl.IrIsCon, 0, inum(1), inum(1), x)), bodies(inop(impl.IrCon, 1, inum(1), x)),
	}
}

// Tags and fields of blocks may be greater than those of functions.
func TestGenTagsAndFields(t *testing.T) {
	for n, fits := range map[int]bool{0: true, 1: true, 18: true, 19: true, 20: false, 21: false, 60: false, 3000: false, 1073741823: false} {
		for _, x := range []impl.Ir{
			inop(impl.IrCon, n), inop(impl.IrCon, n, inum(1)), inop(impl.IrCon, n, slices.Repeat([]impl.Ir{inum(1)}, 20)...), inop(impl.IrField, n, inum(1)), inop(impl.IrIsCon, n, inum(1), inum(2), inum(3)),
		} {
			for _, list := range wheresOf(x) {
				askGen(t, "a tag or a field", list, fits)
			}
		}
	}
	for _, n := range []int{leastWord, -1, 0, 19, 20, 21, 3000, greatestWord} {
		for _, list := range wheresOf(inop(impl.IrIsNum, n, inum(n), inum(n), inum(n))) {
			askGen(t, "a word", list, true)
		}
	}
}

func TestGenHowManyKids(t *testing.T) {
	for count := range 24 {
		for _, kid := range []impl.Ir{inum(1), ilocal(0), iop(impl.IrLet, inum(1), ilocal(0)), iop(impl.IrIf, inum(0), inum(1), inum(2))} {
			kids := slices.Repeat([]impl.Ir{kid}, count)
			for _, list := range wheresOf(inop(impl.IrCon, 19, kids...)) {
				askGen(t, "kids of a con", list, count <= 20)
			}
			list := []impl.Block{{Body: inop(impl.IrClos, 1, kids...)}, {Free: count, Body: inum(1)}}
			askGen(t, "as many as are kept", list, count <= 20)
			if count > 0 {
				list[1].Body = ifree(count - 1)
				askGen(t, "the last one that is kept", list, count <= 20)
			}
		}
		for _, number := range []int{1, 2, impl.MaxBlocks - 1} {
			list := bodies(slices.Repeat([]impl.Ir{inum(1)}, impl.MaxBlocks)...)
			list[number].Free = count
			askGen(t, "kept, but by no closure", list, count <= 20)
		}
	}
	for _, free := range []int{100, 4000, 1 << 31, math.MaxInt} {
		askGen(t, "far too much is kept", []impl.Block{{Body: inum(1)}, {Free: free, Body: inum(1)}}, false)
	}
	for _, count := range []int{100, impl.MaxIr - 1} {
		askGen(t, "far too many kids", bodies(inop(impl.IrCon, 1, slices.Repeat([]impl.Ir{inum(1)}, count)...)), false)
	}
}

// bodiesOfPlaces are bodies of that many places, BcRet not among them, each of another sort; count is at least 20.
func bodiesOfPlaces(count int) map[string]impl.Ir {
	grown := func(x impl.Ir, more int, about func(impl.Ir) impl.Ir) impl.Ir {
		for range (count - placesIn(x)) / more {
			x = about(x)
		}
		for placesIn(x) < count {
			x = iop(impl.IrPut, x)
		}
		return x
	}
	wide := func(x impl.Ir) impl.Ir {
		return inop(impl.IrCon, 1, append(slices.Repeat([]impl.Ir{inum(1)}, 18), x)...)
	}
	return map[string]impl.Ir{
		"puts":     grown(inum(1), 1, func(x impl.Ir) impl.Ir { return iop(impl.IrPut, x) }),
		"sums":     grown(ilocal(0), 2, func(x impl.Ir) impl.Ir { return iop(impl.IrAdd, inum(1), x) }),
		"lets":     grown(ilocal(0), 2, func(x impl.Ir) impl.Ir { return iop(impl.IrLet, inum(1), x) }),
		"ways":     grown(inum(0), 4, func(x impl.Ir) impl.Ir { return iop(impl.IrIf, inum(1), x, inum(1)) }),
		"choices":  grown(inum(0), 4, func(x impl.Ir) impl.Ir { return inop(impl.IrIsNum, 3, x, inum(1), inum(2)) }),
		"last way": grown(inum(0), 4, func(x impl.Ir) impl.Ir { return inop(impl.IrIsCon, 3, inum(1), inum(2), x) }),
		"cons":     grown(inum(0), 19, wide),
	}
}

func TestGenMostPlaces(t *testing.T) {
	for _, places := range []int{40, impl.MaxPlaces - 1, impl.MaxPlaces, impl.MaxPlaces + 1, impl.MaxPlaces + 2, impl.MaxPlaces + 500} {
		fits := places <= impl.MaxPlaces
		for what, x := range bodiesOfPlaces(places - 1) {
			list := bodies(x)
			askGen(t, what, list, fits)
			if made, ok := impl.Gen(list); ok && (len(made[0].List) != places || impl.Places(made) != places) {
				t.Errorf("%s: %d places, not %d", what, impl.Places(made), places)
			}
			askGen(t, what+" of the last block", bodies(inum(1), ilocal(0), x), fits)
		}
	}
	full := bodiesOfPlaces(impl.MaxPlaces - 1)["puts"]
	list := bodies(slices.Repeat([]impl.Ir{full}, impl.MaxBlocks)...)
	if made, ok := impl.Gen(list); !ok || impl.Places(made) != 180000 {
		t.Error("all functions of the most places:", ok, impl.Places(made))
	}
	list[impl.MaxBlocks-1].Body = iop(impl.IrPut, full)
	noFuns(t, "the last one has a place too many", list)
	most := slices.Repeat([]impl.Ir{inum(1)}, 1333)
	x := inum(1)
	for _, kid := range most {
		x = iop(impl.IrIf, kid, x, kid)
	}
	if impl.IrSize(x) != 4000 {
		t.Fatal("not the most nodes:", impl.IrSize(x))
	}
	noFuns(t, "the most nodes", bodies(slices.Repeat([]impl.Ir{x}, impl.MaxBlocks)...))
}

// farLocal has a let behind that many other values, in as few places as there can be: cons take the most at once.
func farLocal(others int) impl.Ir {
	x := iop(impl.IrLet, inum(1), ilocal(1))
	for others > 0 {
		count := min(others, impl.MaxKids-1)
		x = inop(impl.IrCon, 1, append(slices.Repeat([]impl.Ir{inum(0)}, count), x)...)
		others -= count
	}
	return x
}

// greatestLocal is the last N of a BcLocal in it.
func greatestLocal(f impl.Fun) int {
	greatest := -1
	for _, o := range f.List {
		if o.Code == impl.BcLocal {
			greatest = max(greatest, o.N)
		}
	}
	return greatest
}

// A local can't stand at place 2999 of the stack in a function of MaxPlaces places: what stands ahead of it needs places
// as well, and is taken again. The farthest one is here, and one more is a place too many.
func TestGenFarthestLocal(t *testing.T) {
	for others, places := range map[int]int{0: 4, 1: 6, 19: 24, 20: 26, 2845: 2999, 2846: 3000, 2847: 3001, 2900: 3057} {
		list := bodies(farLocal(others))
		askGen(t, "a far local", list, places <= impl.MaxPlaces)
		made, ok := impl.Gen(list)
		if ok && (impl.Places(made) != places || greatestLocal(made[0]) != others+1) {
			t.Errorf("behind %d values: %d places, local %d", others, impl.Places(made), greatestLocal(made[0]))
		}
	}
	for lets, fits := range map[int]bool{1: true, 60: true, 1498: true, 1499: true, 1500: false, 1999: false} {
		x := ilocal(lets)
		for range lets {
			x = iop(impl.IrLet, inum(1), x)
		}
		askGen(t, "lets within lets", bodies(x), fits)
		if made, ok := impl.Gen(bodies(x)); ok && (impl.Places(made) != 2*lets+2 || greatestLocal(made[0]) != lets) {
			t.Errorf("%d lets: %d places, local %d", lets, impl.Places(made), greatestLocal(made[0]))
		}
	}
}

// A local at the last place ahead of BcRet, which is the last one that a function may have.
func TestGenLocalAtLastPlace(t *testing.T) {
	for places, fits := range map[int]bool{impl.MaxPlaces - 1: true, impl.MaxPlaces: true, impl.MaxPlaces + 1: false} {
		second := inum(1)
		for range places - 6 {
			second = iop(impl.IrPut, second)
		}
		list := bodies(inum(1), iop(impl.IrIf, inum(0), second, ilocal(0)))
		askGen(t, "a local at the end", list, fits)
		if made, ok := impl.Gen(list); ok && made[1].List[places-2] != op(impl.BcLocal) {
			t.Errorf("%d places: %v", places, made[1].List[places-3:])
		}
	}
}

// What has itself as a kid has no end; what is made of it is to end at the limits.
func TestGenEnds(t *testing.T) {
	kids := make([]impl.Ir, 2)
	kids[0], kids[1] = iop(impl.IrAdd, kids...), iop(impl.IrAdd, kids...)
	kids[0].Kids, kids[1].Kids = kids, kids
	noEnd := [][]impl.Block{bodies(kids[0]), bodies(inum(1), iop(impl.IrLet, inum(1), kids[1]))}
	twice, deep := inum(1), inum(1)
	for range 60 {
		twice = iop(impl.IrAdd, twice, twice)
	}
	for range 300000 {
		deep = iop(impl.IrPut, deep)
	}
	for _, list := range append(noEnd, bodies(twice), bodies(deep), bodies(iop(impl.IrCon, slices.Repeat([]impl.Ir{inum(1)}, 3000000)...))) {
		if made, ok := impl.Gen(list); ok || len(made) != 0 {
			t.Error("far too great, and something is made of it:", ok, len(made))
		}
	}
}

func TestPlaces(t *testing.T) {
	for s, want := range map[string]int{
		"0": 0, "5": 0, "-1": 0, "0 | 0": 0, "0 ret": 1, "0 num 1; ret": 2, "0 ret | 0": 1, "0 | 0 ret": 1, "0 ret | 0 ret": 2, "0 num 1; num 2; add; ret | 3 free 1; ret": 6, "0 ret | 0 ret | 0 ret; ret; ret": 5, "0 none; none": 2, "0 num 1": 1, "9 self | 8 free 70; jump -4": 3,
	} {
		if got := impl.Places(funs(t, s)); got != want {
			t.Errorf("Places(%s) = %d, not %d", s, got, want)
		}
	}
	full := fun(0, slices.Repeat([]impl.Op{ret()}, impl.MaxPlaces)...)
	for count, list := range map[int][]impl.Fun{
		0: nil, 1: {fun(0, ret())}, impl.MaxPlaces: {full}, impl.MaxBlocks * impl.MaxPlaces: slices.Repeat([]impl.Fun{full}, impl.MaxBlocks), 1000 * impl.MaxPlaces: slices.Repeat([]impl.Fun{full}, 1000), 3 * 100000: slices.Repeat([]impl.Fun{fun(math.MinInt, ret(), ret(), op(math.MaxInt))}, 100000),
	} {
		if got := impl.Places(list); got != count {
			t.Errorf("Places = %d, not %d", got, count)
		}
	}
	for _, list := range [][]impl.Fun{{}, make([]impl.Fun, 0, 9), make([]impl.Fun, 7), {fun(0, make([]impl.Op, 0, 9)...)}} {
		if impl.Places(list) != 0 {
			t.Errorf("Places(%v) = %d", list, impl.Places(list))
		}
	}
}

func TestPlacesOfMany(t *testing.T) {
	m := dataMaker{seed: 140}
	for range 2000 {
		list := m.funs()
		for range m.pick(3) {
			list = m.twistFuns(list)
		}
		var all []impl.Op
		for _, f := range list {
			all = append(all, f.List...)
		}
		if got := impl.Places(list); got != len(all) {
			t.Fatalf("Places(%s) = %d, not %d", shown(funsText(list)), got, len(all))
		}
	}
}

// everyIr is each right one of a few sorts, of that many nodes, in a block that keeps one.
func everyIr(nodes, locals int, each func(impl.Ir)) {
	if nodes == 1 {
		for _, x := range []impl.Ir{inum(0), inum(2), ifree(0), iop(impl.IrSelf), iop(impl.IrFail), inop(impl.IrCon, 3)} {
			each(x)
		}
		for n := range locals {
			each(ilocal(n))
		}
		return
	}
	everyIr(nodes-1, locals, func(kid impl.Ir) {
		for _, x := range []impl.Ir{iop(impl.IrPut), inop(impl.IrField, 1), inop(impl.IrClos, 1), inop(impl.IrCon, 2)} {
			each(inop(x.Op, x.N, kid))
		}
	})
	for left := 1; left < nodes-1; left++ {
		everyIr(left, locals, func(first impl.Ir) {
			everyIr(nodes-1-left, locals, func(second impl.Ir) {
				for _, x := range []impl.Ir{iop(impl.IrApp), iop(impl.IrSub), inop(impl.IrCon, 1)} {
					each(inop(x.Op, x.N, first, second))
				}
			})
			everyIr(nodes-1-left, locals+1, func(second impl.Ir) {
				each(iop(impl.IrLet, first, second))
			})
		})
	}
	everyThree(nodes-1, locals, each)
}

func everyThree(nodes, locals int, each func(impl.Ir)) {
	for left := 1; left < nodes-1; left++ {
		for middle := 1; left+middle < nodes; middle++ {
			everyIr(left, locals, func(first impl.Ir) {
				everyIr(middle, locals, func(second impl.Ir) {
					everyIr(nodes-left-middle, locals, func(third impl.Ir) {
						for _, x := range []impl.Ir{iop(impl.IrIf), inop(impl.IrIsCon, 3), inop(impl.IrIsNum, 2)} {
							each(inop(x.Op, x.N, first, second, third))
						}
					})
				})
			})
		}
	}
}

func TestGenSmallBlocks(t *testing.T) {
	count := 0
	codes := [3]int{}
	for nodes := 1; nodes <= 5; nodes++ {
		everyIr(nodes, 1, func(x impl.Ir) {
			list := []impl.Block{{Body: iop(impl.IrApp, inop(impl.IrClos, 1, inum(5)), inum(6))}, {Free: 1, Body: x}}
			made, ok := checkGen(t, list)
			if !ok {
				t.Fatalf("Gen(%s) is nothing", blocksText(list))
			}
			codes[checkGenDoes(t, list, made, 300)]++
			count++
		})
	}
	if count < 50000 || codes[0] < 10000 || codes[2] < 10000 {
		t.Error("of some there are too few:", count, codes)
	}
}

// irMaker makes right Irs of one of blocks that keep as told.
type irMaker struct {
	*dataMaker
	frees  []int
	number int
}

func (m irMaker) leaf(locals int) impl.Ir {
	switch m.pick(7) {
	case 0:
		if m.frees[m.number] > 0 {
			return ifree(m.pick(m.frees[m.number]))
		}
	case 1:
		if m.number > 0 {
			return iop(impl.IrSelf)
		}
	case 2:
		return inop(impl.IrCon, m.pick(3))
	case 3:
		if m.pick(6) == 0 {
			return iop(impl.IrFail)
		}
	case 4:
		return inum(m.pick(5))
	}
	return ilocal(m.pick(locals))
}

func (m irMaker) kids(count, deep, locals int) []impl.Ir {
	var kids []impl.Ir
	for range count {
		kids = append(kids, m.ir(deep-1, locals))
	}
	return kids
}

func (m irMaker) ir(deep, locals int) impl.Ir {
	if deep == 0 || m.pick(8) == 0 {
		return m.leaf(locals)
	}
	switch m.pick(12) {
	case 0, 1, 2:
		return iop(impl.IrLet, m.ir(deep-1, locals), m.ir(deep-1, locals+1))
	case 3:
		return iop(impl.IrAdd+m.pick(5), m.kids(2, deep, locals)...)
	case 4:
		return iop(impl.IrIf, m.kids(3, deep, locals)...)
	case 5:
		return inop(impl.IrIsCon, m.pick(3), m.kids(3, deep, locals)...)
	case 6:
		return inop(impl.IrIsNum, m.pick(5), m.kids(3, deep, locals)...)
	case 7:
		return inop(impl.IrCon, m.pick(3), m.kids(m.pick(5), deep, locals)...)
	case 8:
		if len(m.frees) > 1 {
			number := 1 + m.pick(len(m.frees)-1)
			return inop(impl.IrClos, number, m.kids(m.frees[number], deep, locals)...)
		}
	case 9:
		if len(m.frees) > 1 {
			number := 1 + m.pick(len(m.frees)-1)
			return iop(impl.IrApp, inop(impl.IrClos, number, m.kids(m.frees[number], deep, locals)...), m.ir(deep-1, locals))
		}
	case 10:
		return inop(impl.IrField, m.pick(2), m.ir(deep-1, locals))
	}
	return iop(impl.IrPut, m.ir(deep-1, locals))
}

// blocks are right ones, which may run without end.
func (m *dataMaker) blocks(deep int) []impl.Block {
	frees := make([]int, 1+m.pick(4))
	for i := range frees[1:] {
		frees[i+1] = m.pick(4)
	}
	var list []impl.Block
	for i, free := range frees {
		list = append(list, impl.Block{Free: free, Body: irMaker{m, frees, i}.ir(deep, 1)})
	}
	return list
}

// What is made of blocks is right, and does what they do.
func TestGenMadeBlocks(t *testing.T) {
	m := dataMaker{seed: 14}
	codes := [3]int{}
	used := map[int]int{}
	far := 0
	for range 4000 {
		list := m.blocks(2 + m.pick(4))
		if !impl.BlocksOk(list) {
			t.Fatalf("no right blocks: %s", shown(blocksText(list)))
		}
		made, ok := checkGen(t, list)
		if !ok {
			t.Fatalf("Gen(%s) is nothing", shown(blocksText(list)))
		}
		codes[checkGenDoes(t, list, made, 5000)]++
		for _, f := range made {
			far += truth(greatestLocal(f) > 3)
			for _, o := range f.List {
				used[o.Code]++
			}
		}
	}
	for _, code := range allCodes() {
		if used[code] < 300 {
			t.Errorf("of %s there are too few: %d", codeWords()[code], used[code])
		}
	}
	if codes[0] < 500 || codes[1] < 10 || codes[2] < 500 || far < 300 {
		t.Error("of some there are too few:", codes, far)
	}
}

func TestGenTwistedBlocks(t *testing.T) {
	m := dataMaker{seed: 141}
	count := map[bool]int{}
	right := 0
	for range 4000 {
		list := m.blocks(2 + m.pick(3))
		for range 1 + m.pick(3) {
			list = m.twistBlocks(list)
			nodes := nodesIn(list)
			if node := nodes[m.pick(len(nodes))]; node.Op == impl.IrCon || node.Op == impl.IrIsCon || node.Op == impl.IrField {
				node.N = []int{0, 18, 19, 20, 21, 1073741823}[m.pick(6)]
			}
			_, ok := checkGen(t, list)
			count[ok]++
			right += truth(!ok && impl.BlocksOk(list))
		}
	}
	if count[true] < 1000 || count[false] < 2000 || right < 200 {
		t.Error("of some there are too few:", count, right)
	}
}

func TestGenOfClosed(t *testing.T) {
	made := 0
	see := func(c impl.Core) {
		if list, ok := impl.Close(c); ok {
			if funs, ok := checkGen(t, list); ok {
				checkGenDoes(t, list, funs, 5000)
				made++
			}
		}
	}
	for parts := 1; parts <= 4; parts++ {
		everyRunning(parts, nil, see)
	}
	m := dataMaker{seed: 142}
	for range 500 {
		see(m.closing(2+m.pick(4), nil))
		see(m.running(3+m.pick(4), []string{"int", "list", "fun"}[m.pick(3)], nil))
	}
	if made < 2500 {
		t.Error("too few are made:", made)
	}
}

func TestGenPrograms(t *testing.T) {
	for _, s := range append(fewPrograms(),
		"(define (map f l) (if (pair? l) (cons (f (car l)) (map f (cdr l))) l)) (define (add n) (lambda (x) (+ n x))) (map (add 3) (quote (1 2 3)))",
		"(define (even n) (letrec ((odd (lambda (m) (if m (even (- m 1)) 0)))) (if n (odd (- n 1)) 1))) (cons (even 10) (even 7))",
		"(define (fib n) (if (< n 2) n (+ (fib (- n 1)) (fib (- n 2))))) (put (fib 8))",
		"(put 1) (put 2) 3", "((lambda (x y z) (cons z (cons y x))) 1 2 3)",
	) {
		c, _, code := impl.Expand(s)
		list, ok := impl.Close(c)
		if code != impl.ExDone || !ok {
			t.Fatalf("%q is told %d, %v", s, code, ok)
		}
		made, ok := checkGen(t, list)
		if !ok {
			t.Fatalf("nothing is made of %q", s)
		}
		checkGenDoes(t, list, made, 5000)
	}
}

// A core that keeps more than MaxKids names in a function is closed, but nothing is made of it.
func TestGenOfMuchKept(t *testing.T) {
	for count := 18; count <= 23; count++ {
		var names []string
		for i := range count {
			names = append(names, "a"+strconv.Itoa(i))
		}
		c := cfun("x", nameBush(names))
		for i, name := range names {
			c = clet(name, cnum(i), c)
		}
		list, ok := impl.Close(c)
		if !ok || list[1].Free != count {
			t.Fatal("not closed:", ok)
		}
		askGen(t, "names that are kept", list, count <= impl.MaxKids)
	}
}

func TestGenIsNew(t *testing.T) {
	for _, s := range []string{
		"0 1", "0 (let 1 (+ l1 (let 2 (if l1 l2 l0))))", "0 (clos 1 1 2) 2 (iscon 1 f0 f1 l0) 0 (app self l0)", "0 (con 1 1 2) 0 (con 1 1 2) 0 (con 1 1 2)", "0 (isnum 3 (put 3) fail (field 0 (con 0))) 0 self",
	} {
		list := blocks(t, s)
		want, _ := genOf(list)
		for range 3 {
			made, ok := impl.Gen(list)
			if !ok || !equalFuns(made, want) {
				t.Fatalf("Gen(%s) = %s after one was written into", s, funsText(made))
			}
			var places []*int
			for i := range made {
				places = append(places, &made[i].Free)
				all := made[i].List[:cap(made[i].List)]
				for j := range all {
					places = append(places, &all[j].Code, &all[j].N, &all[j].M)
				}
			}
			if !allApart(places) {
				t.Errorf("lists of what is made of %s share memory", s)
			}
			for i := range made[:cap(made)] {
				made[:cap(made)][i] = fun(-99)
			}
		}
		if !equalBlocks(list, blocks(t, s)) {
			t.Errorf("%s was written into", s)
		}
	}
}

func TestGenWritesNothing(t *testing.T) {
	m := dataMaker{seed: 143}
	for range 800 {
		plain := m.blocks(2 + m.pick(3))
		for range m.pick(2) {
			plain = m.twistBlocks(plain)
		}
		list := make([]impl.Block, 0, len(plain)+2)
		for _, b := range plain {
			list = append(list, impl.Block{Free: b.Free, Body: roomyIr(b.Body)})
		}
		_ = append(list, impl.Block{Free: 5, Body: inum(5)}, impl.Block{Free: 6})
		wide := widenedBlocks(list)
		made, ok := impl.Gen(list)
		if !reflect.DeepEqual(widenedBlocks(list), wide) {
			t.Fatal("blocks were written into:", shown(wide))
		}
		if want, wantOk := genOf(plain); ok != wantOk || !equalFuns(made, want) {
			t.Fatalf("Gen(%s) is another one with room behind", shown(blocksText(plain)))
		}
		text := funsText(made)
		for _, node := range nodesIn(list) {
			node.Op, node.N = 55, 66
		}
		if funsText(made) != text {
			t.Fatalf("%s became %s when its blocks were written into", shown(text), shown(funsText(made)))
		}
		room := roomyFuns(made)
		wideFuns := widenedFuns(room)
		if impl.Places(room) != impl.Places(made) || !reflect.DeepEqual(widenedFuns(room), wideFuns) {
			t.Fatal("functions were written into, or room is counted:", shown(wideFuns))
		}
	}
}

// Blocks may share what they are made of, as nothing is written into them.
func TestGenShared(t *testing.T) {
	x := iop(impl.IrLet, inum(1), iop(impl.IrAdd, ilocal(1), iop(impl.IrIf, inum(0), ilocal(0), ilocal(1))))
	kids := []impl.Ir{x, x, x}
	list := bodies(inop(impl.IrCon, 1, kids...), inop(impl.IrCon, 2, kids[:2]...), x, iop(impl.IrPut, kids[:1]...))
	made, ok := checkGen(t, list)
	if !ok {
		t.Fatal("nothing is made of what is shared")
	}
	checkGenDoes(t, list, made, 5000)
}

// Nothing is kept from one call to another, and calls beside each other do not meet.
func TestGenKeepsNothing(t *testing.T) {
	m := dataMaker{seed: 144}
	lists := [][]impl.Block{nil, bodies(inum(1)), bodies(inop(impl.IrCon, 20))}
	for range 40 {
		list := m.blocks(3)
		lists = append(lists, list, m.twistBlocks(list))
	}
	wants := make([][]impl.Fun, len(lists))
	rights := make([]bool, len(lists))
	for i, list := range lists {
		wants[i], rights[i] = genOf(list)
	}
	var all sync.WaitGroup
	for range 4 {
		all.Go(func() {
			for range 20 {
				for i, list := range lists {
					if made, ok := impl.Gen(list); ok != rights[i] || !equalFuns(made, wants[i]) || impl.Places(made) != impl.Places(wants[i]) {
						t.Errorf("Gen(%s) = %s, %v", shown(blocksText(list)), shown(funsText(made)), ok)
					}
				}
			}
		})
	}
	all.Wait()
}

// The most nodes, one within another, do not make it slow.
func TestGenIsNotSlow(t *testing.T) {
	lets := ilocal(0)
	for range 1490 {
		lets = iop(impl.IrLet, ilocal(0), lets)
	}
	list := bodies(slices.Repeat([]impl.Ir{lets}, impl.MaxBlocks)...)
	for range 30 {
		if made, ok := impl.Gen(list); !ok || impl.Places(made) != 60*2982 {
			t.Fatal("many lets", ok, impl.Places(made))
		}
	}
}

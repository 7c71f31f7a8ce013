package tests

import (
	"math"
	"reflect"
	"slices"
	"strconv"
	"strings"
	"sync"
	"testing"

	"loop.example/g00396/impl"
)

func inum(n int) impl.Ir   { return impl.Ir{Op: impl.IrNum, N: n} }
func ilocal(n int) impl.Ir { return impl.Ir{Op: impl.IrLocal, N: n} }
func ifree(n int) impl.Ir  { return impl.Ir{Op: impl.IrFree, N: n} }

func iop(op int, kids ...impl.Ir) impl.Ir {
	return impl.Ir{Op: op, Kids: kids}
}

// inop is with an N.
func inop(op, n int, kids ...impl.Ir) impl.Ir {
	return impl.Ir{Op: op, N: n, Kids: kids}
}

func bodies(list ...impl.Ir) []impl.Block {
	var blocks []impl.Block
	for _, x := range list {
		blocks = append(blocks, impl.Block{Body: x})
	}
	return blocks
}

// irWords are the words of this file for Ops by their number, empty where there is none.
func irWords() []string {
	return []string{"", "", "", "", "self", "clos", "app", "let", "if", "+", "-", "*", "<", "=", "con", "put", "field", "iscon", "isnum", "fail"}
}

func hasNumber(op int) bool {
	return slices.Contains([]int{impl.IrClos, impl.IrCon, impl.IrField, impl.IrIsCon, impl.IrIsNum}, op)
}

// irArity is how many kids an Op has, -1 of Ops that are none, -2 where that hangs on more.
func irArity(op int) int {
	switch op {
	case impl.IrNum, impl.IrLocal, impl.IrFree, impl.IrSelf, impl.IrFail:
		return 0
	case impl.IrPut, impl.IrField:
		return 1
	case impl.IrApp, impl.IrLet, impl.IrAdd, impl.IrSub, impl.IrMul, impl.IrLess, impl.IrSame:
		return 2
	case impl.IrIf, impl.IrIsCon, impl.IrIsNum:
		return 3
	case impl.IrClos, impl.IrCon:
		return -2
	}
	return -1
}

func irOfDat(t *testing.T, d impl.Dat) impl.Ir {
	t.Helper()
	if d.Op == impl.DtNum {
		return inum(d.N)
	}
	if d.Op == impl.DtSym {
		if op := slices.Index(irWords(), d.S); op > 0 {
			return iop(op)
		}
		n, err := strconv.Atoi(d.S[1:])
		if err != nil {
			t.Fatalf("%q is no place", d.S)
		}
		return inop(map[byte]int{'l': impl.IrLocal, 'f': impl.IrFree}[d.S[0]], n)
	}
	x := impl.Ir{Op: slices.Index(irWords(), d.Kids[0].S)}
	rest := d.Kids[1:]
	if hasNumber(x.Op) {
		x.N = rest[0].N
		rest = rest[1:]
	}
	for _, kid := range rest {
		x.Kids = append(x.Kids, irOfDat(t, kid))
	}
	return x
}

// ir is what is told by s, right or not: ints, l and f with the number of a local or a free, self, fail, and lists.
func ir(t *testing.T, s string) impl.Ir {
	t.Helper()
	list, bad := impl.ReadAll(s)
	if bad != -1 || len(list) != 1 {
		t.Fatalf("%q is no ir: %d", s, bad)
	}
	return irOfDat(t, list[0])
}

// blocks are told by how many each keeps and its body, one behind the other.
func blocks(t *testing.T, s string) []impl.Block {
	t.Helper()
	list, bad := impl.ReadAll(s)
	if bad != -1 || len(list)%2 != 0 {
		t.Fatalf("%q are no blocks: %d", s, bad)
	}
	var made []impl.Block
	for i := 0; i < len(list); i += 2 {
		made = append(made, impl.Block{Free: list[i].N, Body: irOfDat(t, list[i+1])})
	}
	return made
}

func irText(x impl.Ir) string {
	switch {
	case x.Op == impl.IrNum:
		return strconv.Itoa(x.N)
	case x.Op == impl.IrLocal:
		return "l" + strconv.Itoa(x.N)
	case x.Op == impl.IrFree:
		return "f" + strconv.Itoa(x.N)
	case x.Op == impl.IrSelf || x.Op == impl.IrFail:
		return irWords()[x.Op]
	}
	text := "?"
	if irArity(x.Op) != -1 {
		text = irWords()[x.Op]
	}
	if hasNumber(x.Op) {
		text += " " + strconv.Itoa(x.N)
	}
	for _, kid := range x.Kids {
		text += " " + irText(kid)
	}
	return "(" + text + ")"
}

func blocksText(list []impl.Block) string {
	var texts []string
	for _, b := range list {
		texts = append(texts, strconv.Itoa(b.Free), irText(b.Body))
	}
	return strings.Join(texts, " ")
}

// wholeIr is x with nil for lists that are empty, as reflect tells them apart.
func wholeIr(x impl.Ir) impl.Ir {
	var kids []impl.Ir
	for _, kid := range x.Kids {
		kids = append(kids, wholeIr(kid))
	}
	x.Kids = kids
	return x
}

func wholeBlocks(list []impl.Block) []impl.Block {
	var whole []impl.Block
	for _, b := range list {
		whole = append(whole, impl.Block{Free: b.Free, Body: wholeIr(b.Body)})
	}
	return whole
}

func equalBlocks(a, b []impl.Block) bool {
	return reflect.DeepEqual(wholeBlocks(a), wholeBlocks(b))
}

func irSizeOf(x impl.Ir) int {
	size := 1
	for _, kid := range x.Kids {
		size += irSizeOf(kid)
	}
	return size
}

// rightIr: the second one knows which locals there are by a list of them.
func rightIr(x impl.Ir, list []impl.Block, number int, locals []int) bool {
	arity := irArity(x.Op)
	word := leastWord <= x.N && x.N <= greatestWord
	right := x.N == 0
	switch x.Op {
	case impl.IrNum, impl.IrIsNum:
		right = word
	case impl.IrLocal:
		right = slices.Contains(locals, x.N)
	case impl.IrFree:
		right = x.N >= 0 && list[number].Free > x.N
	case impl.IrSelf:
		right = right && number > 0
	case impl.IrClos:
		if right = x.N > 0 && x.N <= len(list)-1; right {
			arity = list[x.N].Free
		}
	case impl.IrCon:
		right, arity = word && x.N >= 0, len(x.Kids)
	case impl.IrField, impl.IrIsCon:
		right = word && x.N >= 0
	}
	if !right || arity != len(x.Kids) {
		return false
	}
	for i, kid := range x.Kids {
		seen := slices.Clone(locals)
		if x.Op == impl.IrLet && i > 0 {
			seen = append(seen, len(locals))
		}
		if !rightIr(kid, list, number, seen) {
			return false
		}
	}
	return true
}

func rightBlocks(list []impl.Block) bool {
	if len(list) == 0 || len(list) > 60 || list[0].Free != 0 {
		return false
	}
	for i, b := range list {
		if b.Free < 0 || irSizeOf(b.Body) > 4000 || !rightIr(b.Body, list, i, []int{0}) {
			return false
		}
	}
	return true
}

func checkBlocks(t *testing.T, list []impl.Block) bool {
	t.Helper()
	right := rightBlocks(list)
	if impl.BlocksOk(list) != right {
		t.Fatalf("BlocksOk(%s) = %v", shown(list), !right)
	}
	for _, b := range list {
		if got, want := impl.IrSize(b.Body), irSizeOf(b.Body); got != want {
			t.Fatalf("IrSize(%s) = %d, not %d", shown(b.Body), got, want)
		}
	}
	return right
}

// The second one below looks for the names that are free in a function ahead of closing it, counts functions ahead of
// meeting them, and hands on what each name is as a map.

func freeIn(c impl.Core, about []string) []string {
	var names []string
	if c.Op == impl.CoVar && !slices.Contains(about, c.S) {
		names = append(names, c.S)
	}
	for i, kid := range c.Kids {
		for _, name := range freeIn(kid, namesBoundIn(c, i, about)) {
			if !slices.Contains(names, name) {
				names = append(names, name)
			}
		}
	}
	return names
}

func functionsIn(c impl.Core) int {
	count := truth(c.Op == impl.CoFun || c.Op == impl.CoRec)
	for _, kid := range c.Kids {
		count += functionsIn(kid)
	}
	return count
}

type secondClose struct {
	made map[int]impl.Block
}

func (s *secondClose) function(self, arg string, e impl.Core, places map[string]impl.Ir, number int) impl.Ir {
	x := impl.Ir{Op: impl.IrClos, N: number}
	inner := map[string]impl.Ir{}
	for i, name := range freeIn(e, []string{self, arg}) {
		x.Kids = append(x.Kids, places[name])
		inner[name] = ifree(i)
	}
	inner[self] = iop(impl.IrSelf)
	inner[arg] = ilocal(0)
	s.made[number] = impl.Block{Free: len(x.Kids), Body: s.of(e, inner, 1, number)}
	return x
}

// of is told the number of the last function ahead of c.
func (s *secondClose) of(c impl.Core, places map[string]impl.Ir, locals, last int) impl.Ir {
	if c.Op == impl.CoFun {
		return s.function("", c.S, c.Kids[0], places, last+1)
	}
	if c.Op == impl.CoVar {
		return places[c.S]
	}
	var kids []impl.Ir
	for i, kid := range c.Kids {
		switch {
		case c.Op == impl.CoRec && i == 0:
			kids = append(kids, s.function(c.S, c.T, kid, places, last+1))
			last++
		case (c.Op == impl.CoRec || c.Op == impl.CoLet) && i == 1:
			with := map[string]impl.Ir{}
			for name, place := range places {
				with[name] = place
			}
			with[c.S] = ilocal(locals)
			kids = append(kids, s.of(kid, with, locals+1, last))
		default:
			kids = append(kids, s.of(kid, places, locals, last))
		}
		last += functionsIn(kid)
	}
	return irOver(c, kids)
}

func irOver(c impl.Core, kids []impl.Ir) impl.Ir {
	switch c.Op {
	case impl.CoNum:
		return inum(c.N)
	case impl.CoApp:
		return iop(impl.IrApp, kids...)
	case impl.CoLet, impl.CoRec:
		return iop(impl.IrLet, kids...)
	case impl.CoIf:
		return iop(impl.IrIf, kids...)
	case impl.CoNil:
		return inop(impl.IrCon, 0)
	case impl.CoCons:
		return inop(impl.IrCon, 1, kids...)
	case impl.CoCar:
		return inop(impl.IrField, 0, kids...)
	case impl.CoCdr:
		return inop(impl.IrField, 1, kids...)
	case impl.CoPair:
		return inop(impl.IrIsCon, 1, kids[0], inum(1), inum(0))
	case impl.CoPut:
		return iop(impl.IrPut, kids...)
	}
	return iop(c.Op-impl.CoAdd+impl.IrAdd, kids...)
}

func closedOf(c impl.Core) []impl.Block {
	s := secondClose{made: map[int]impl.Block{}}
	s.made[0] = impl.Block{Body: s.of(c, map[string]impl.Ir{}, 1, 0)}
	var list []impl.Block
	for i := range len(s.made) {
		list = append(list, s.made[i])
	}
	return list
}

func closeOf(c impl.Core) ([]impl.Block, bool) {
	if !rightCore(c) {
		return nil, false
	}
	list := closedOf(c)
	if !rightBlocks(list) {
		return nil, false
	}
	return list, true
}

func checkClose(t *testing.T, c impl.Core) ([]impl.Block, bool) {
	t.Helper()
	got, ok := impl.Close(c)
	want, wantOk := closeOf(c)
	if ok != wantOk || !equalBlocks(got, want) {
		t.Fatalf("Close(%s) = %s, %v, not %s, %v", shown(coreText(c)), shown(blocksText(got)), ok, shown(blocksText(want)), wantOk)
	}
	if ok && !impl.BlocksOk(got) {
		t.Fatalf("what %s is closed to is not right: %s", shown(coreText(c)), shown(blocksText(got)))
	}
	return got, ok
}

// irRun runs blocks, so that a place that is another one than the name's shows in what comes out.
type irRun struct {
	list []impl.Block
	left int
	code int
	out  []int
}

type irThing struct {
	kind, n int
	kids    []*irThing
}

// irFrame is a function that is called: itself, and its locals.
type irFrame struct {
	self   *irThing
	locals []*irThing
}

func (r *irRun) end(code int) *irThing {
	if r.code == 0 {
		r.code = code
	}
	return &irThing{}
}

func (r *irRun) of(x impl.Ir, in irFrame) *irThing {
	if r.left--; r.left < 0 {
		return r.end(impl.EvFuel)
	}
	switch x.Op {
	case impl.IrNum:
		return &irThing{kind: impl.VlInt, n: x.N}
	case impl.IrLocal:
		return in.locals[x.N]
	case impl.IrFree:
		return in.self.kids[x.N]
	case impl.IrSelf:
		return in.self
	case impl.IrFail:
		return r.end(impl.EvStuck)
	}
	kids := x.Kids
	switch x.Op {
	case impl.IrLet, impl.IrIf, impl.IrIsCon, impl.IrIsNum:
		kids = x.Kids[:1]
	}
	var things []*irThing
	for _, kid := range kids {
		things = append(things, r.of(kid, in))
		if r.code != 0 {
			return things[0]
		}
	}
	return r.ofKids(x, things, in)
}

func (r *irRun) ofKids(x impl.Ir, kids []*irThing, in irFrame) *irThing {
	first := &irThing{}
	if len(kids) > 0 {
		first = kids[0]
	}
	allInts := !slices.ContainsFunc(kids, func(kid *irThing) bool { return kid.kind != impl.VlInt })
	switch {
	case x.Op == impl.IrClos:
		return &irThing{kind: impl.VlFun, n: x.N, kids: kids}
	case x.Op == impl.IrCon:
		return &irThing{kind: impl.VlPair, n: x.N, kids: kids}
	case x.Op == impl.IrApp && first.kind == impl.VlFun:
		return r.of(r.list[first.n].Body, irFrame{first, []*irThing{kids[1]}})
	case x.Op == impl.IrLet:
		return r.of(x.Kids[1], irFrame{in.self, append(slices.Clone(in.locals), first)})
	case x.Op == impl.IrIf:
		return r.of(x.Kids[1+truth(first.kind == impl.VlInt && first.n == 0)], in)
	case x.Op == impl.IrIsCon:
		return r.of(x.Kids[1+truth(first.kind != impl.VlPair || first.n != x.N)], in)
	case x.Op == impl.IrIsNum:
		return r.of(x.Kids[1+truth(first.kind != impl.VlInt || first.n != x.N)], in)
	case x.Op == impl.IrField && first.kind == impl.VlPair && x.N < len(first.kids):
		return first.kids[x.N]
	case x.Op == impl.IrPut && allInts:
		r.out = append(r.out, first.n)
		return first
	case allInts && impl.IrAdd <= x.Op && x.Op <= impl.IrSame:
		a, b := first.n, kids[1].n
		sums := []int{roundOf(a + b), roundOf(a - b), roundOf(a * b), truth(a < b), truth(a == b)}
		return &irThing{kind: impl.VlInt, n: sums[x.Op-impl.IrAdd]}
	}
	return r.end(impl.EvStuck)
}

func irThingText(v *irThing) string {
	switch {
	case v.kind == impl.VlInt:
		return strconv.Itoa(v.n)
	case v.kind == impl.VlPair && v.n == 0 && len(v.kids) == 0:
		return "()"
	case v.kind == impl.VlPair && v.n == 1 && len(v.kids) == 2:
		return "(" + irThingText(v.kids[0]) + " . " + irThingText(v.kids[1]) + ")"
	}
	return "fun"
}

// checkClosedMeans asks that blocks do what the core means, which is what they are for.
func checkClosedMeans(t *testing.T, c impl.Core, list []impl.Block) int {
	t.Helper()
	want := impl.Eval(c, impl.MaxFuel)
	run := irRun{list: list, left: 30000}
	v := run.of(list[0].Body, irFrame{&irThing{}, []*irThing{{kind: impl.VlInt}}})
	most := min(len(run.out), len(want.Out))
	alike := slices.Equal(run.out[:most], want.Out[:most])
	if want.Code != impl.EvFuel {
		alike = alike && run.code == want.Code && len(run.out) == len(want.Out)
	}
	if want.Code == impl.EvDone {
		alike = alike && irThingText(v) == valueText(want.Value)
	}
	if !alike {
		t.Fatalf("%s is %s, its blocks %s tell %v, code %d", shown(coreText(c)), shown(resultText(want)), shown(blocksText(list)), run.out, run.code)
	}
	return want.Code
}

func TestCloseConstants(t *testing.T) {
	ops := []int{impl.IrNum, impl.IrLocal, impl.IrFree, impl.IrSelf, impl.IrClos, impl.IrApp, impl.IrLet, impl.IrIf, impl.IrAdd, impl.IrSub, impl.IrMul, impl.IrLess, impl.IrSame, impl.IrCon, impl.IrPut, impl.IrField, impl.IrIsCon, impl.IrIsNum, impl.IrFail}
	for i, op := range ops {
		if op != i+1 {
			t.Errorf("the Op of number %d is %d", i+1, op)
		}
	}
	if len(ops) != 19 || impl.MaxBlocks != 60 || impl.MaxIr != 4000 {
		t.Error(len(ops), impl.MaxBlocks, impl.MaxIr)
	}
}

// checkClosedTo asks, core by core, for the blocks that are told.
func checkClosedTo(t *testing.T, rows map[string]string) {
	t.Helper()
	for in, told := range rows {
		c := core(t, in)
		got, ok := impl.Close(c)
		if want := blocks(t, told); !ok || !equalBlocks(got, want) {
			t.Errorf("Close(%s) = %s, %v, not %s", in, blocksText(got), ok, told)
		}
		if list, ok := checkClose(t, c); ok {
			checkClosedMeans(t, c, list)
		}
	}
}

func TestCloseEachOp(t *testing.T) {
	checkClosedTo(t, map[string]string{
		"0": "0 0", "7": "0 7", "-1073741824": "0 -1073741824", "1073741823": "0 1073741823",
		"()":                                    "0 (con 0)",
		"(fun x x)":                             "0 (clos 1) 0 l0",
		"(fun x 1)":                             "0 (clos 1) 0 1",
		"(app 1 2)":                             "0 (app 1 2)",
		"(let x 1 x)":                           "0 (let 1 l1)",
		"(let x 1 2)":                           "0 (let 1 2)",
		"(rec f n n f)":                         "0 (let (clos 1) l1) 0 l0",
		"(rec f n f 5)":                         "0 (let (clos 1) 5) 0 self",
		"(rec f n 1 2)":                         "0 (let (clos 1) 2) 0 1",
		"(if 1 2 3)":                            "0 (if 1 2 3)",
		"(+ 1 2)":                               "0 (+ 1 2)",
		"(- 1 2)":                               "0 (- 1 2)",
		"(* 1 2)":                               "0 (* 1 2)",
		"(< 1 2)":                               "0 (< 1 2)",
		"(= 1 2)":                               "0 (= 1 2)",
		"(cons 1 2)":                            "0 (con 1 1 2)",
		"(cons () ())":                          "0 (con 1 (con 0) (con 0))",
		"(car 1)":                               "0 (field 0 1)",
		"(cdr 1)":                               "0 (field 1 1)",
		"(pair? 5)":                             "0 (iscon 1 5 1 0)",
		"(put 1)":                               "0 (put 1)",
		"(pair? (car 5))":                       "0 (iscon 1 (field 0 5) 1 0)",
		"(car (cdr (cons 1 (pair? (put ())))))": "0 (field 0 (field 1 (con 1 1 (iscon 1 (put (con 0)) 1 0))))",
		"(if (< 1 2) (+ (* 2 3) 4) (- 5 (= 6 7)))":                       "0 (if (< 1 2) (+ (* 2 3) 4) (- 5 (= 6 7)))",
		"(app (app (fun x (fun y (cons x y))) 1) 2)":                     "0 (app (app (clos 1) 1) 2) 0 (clos 2 l0) 1 (con 1 f0 l0)",
		"(rec f n (if n (* n (app f (- n 1))) 1) (app f 5))":             "0 (let (clos 1) (app l1 5)) 0 (if l0 (* l0 (app self (- l0 1))) 1)",
		"(let a 4 (app (fun x (fun y (+ x (* a y)))) a))":                "0 (let 4 (app (clos 1 l1) l1)) 1 (clos 2 l0 f0) 2 (+ f0 (* f1 l0))",
		"(rec f n (app f n) (pair? f))":                                  "0 (let (clos 1) (iscon 1 l1 1 0)) 0 (app self l0)",
		"(fun x (cons (car x) (cons (cdr x) (cons (pair? x) (put x)))))": "0 (clos 1) 0 (con 1 (field 0 l0) (con 1 (field 1 l0) (con 1 (iscon 1 l0 1 0) (put l0))))",
	})
}

// Blocks stand in the order in which functions are met: one ahead of those in it, and these ahead of those behind it.
func TestCloseOrderOfBlocks(t *testing.T) {
	checkClosedTo(t, map[string]string{
		"(cons (fun x 1) (fun x 2))":                                  "0 (con 1 (clos 1) (clos 2)) 0 1 0 2",
		"(cons (fun x (fun y 1)) (fun x 2))":                          "0 (con 1 (clos 1) (clos 3)) 0 (clos 2) 0 1 0 2",
		"(cons (fun x (cons (fun y 1) (fun y 2))) (fun x (fun y 3)))": "0 (con 1 (clos 1) (clos 4)) 0 (con 1 (clos 2) (clos 3)) 0 1 0 2 0 (clos 5) 0 3",
		"(fun a (fun b (fun c 1)))":                                   "0 (clos 1) 0 (clos 2) 0 (clos 3) 0 1",
		"(app (fun x 1) (app (fun x 2) (fun x 3)))":                   "0 (app (clos 1) (app (clos 2) (clos 3))) 0 1 0 2 0 3",
		"(app (app (fun x 1) (fun x 2)) (fun x 3))":                   "0 (app (app (clos 1) (clos 2)) (clos 3)) 0 1 0 2 0 3",
		"(if (fun x 1) (fun x 2) (fun x 3))":                          "0 (if (clos 1) (clos 2) (clos 3)) 0 1 0 2 0 3",
		"(let f (fun x 1) (fun x 2))":                                 "0 (let (clos 1) (clos 2)) 0 1 0 2",
		"(let f (fun x (fun y 1)) (fun x 2))":                         "0 (let (clos 1) (clos 3)) 0 (clos 2) 0 1 0 2",
		"(rec f n 1 (fun x 2))":                                       "0 (let (clos 1) (clos 2)) 0 1 0 2",
		"(rec f n (fun x 1) (fun x 2))":                               "0 (let (clos 1) (clos 3)) 0 (clos 2) 0 1 0 2",
		"(rec f n (rec g m 1 2) (rec h k 3 4))":                       "0 (let (clos 1) (let (clos 3) 4)) 0 (let (clos 2) 2) 0 1 0 3",
		"(cons (rec f n 1 (fun x 2)) (rec g n 3 (fun x 4)))":          "0 (con 1 (let (clos 1) (clos 2)) (let (clos 3) (clos 4))) 0 1 0 2 0 3 0 4",
		"(pair? (put (car (cdr (fun x (fun y 1))))))":                 "0 (iscon 1 (put (field 0 (field 1 (clos 1)))) 1 0) 0 (clos 2) 0 1",
	})
}

// What is kept stands in the order in which names are first met from the left, each once, whatever is bound first.
func TestCloseOrderOfKept(t *testing.T) {
	checkClosedTo(t, map[string]string{
		"(let a 1 (fun x a))":                             "0 (let 1 (clos 1 l1)) 1 f0",
		"(let a 1 (fun x (cons a a)))":                    "0 (let 1 (clos 1 l1)) 1 (con 1 f0 f0)",
		"(let a 1 (let b 2 (fun x (cons a b))))":          "0 (let 1 (let 2 (clos 1 l1 l2))) 2 (con 1 f0 f1)",
		"(let a 1 (let b 2 (fun x (cons b a))))":          "0 (let 1 (let 2 (clos 1 l2 l1))) 2 (con 1 f0 f1)",
		"(let a 1 (let b 2 (fun x b)))":                   "0 (let 1 (let 2 (clos 1 l2))) 1 f0",
		"(let a 1 (let b 2 (fun x (cons b (cons a b)))))": "0 (let 1 (let 2 (clos 1 l2 l1))) 2 (con 1 f0 (con 1 f1 f0))",
		"(let a 1 (let b 2 (let c 3 (fun x (cons (cons c (cons x a)) (cons a (cons b c)))))))": "0 (let 1 (let 2 (let 3 (clos 1 l3 l1 l2)))) 3 (con 1 (con 1 f0 (con 1 l0 f1)) (con 1 f1 (con 1 f2 f0)))",
		"(let a 1 (let b 2 (fun x (app b a))))":                                                "0 (let 1 (let 2 (clos 1 l2 l1))) 2 (app f0 f1)",
		"(let a 1 (let b 2 (let c 3 (fun x (if c a b)))))":                                     "0 (let 1 (let 2 (let 3 (clos 1 l3 l1 l2)))) 3 (if f0 f1 f2)",
		"(let a 1 (let b 2 (fun x (let y b a))))":                                              "0 (let 1 (let 2 (clos 1 l2 l1))) 2 (let f0 f1)",
		"(let a 1 (let b 2 (fun x (rec f n b a))))":                                            "0 (let 1 (let 2 (clos 1 l2 l1))) 2 (let (clos 2 f0) f1) 1 f0",
		"(let a 1 (let b 2 (fun x (cons (fun y b) a))))":                                       "0 (let 1 (let 2 (clos 1 l2 l1))) 2 (con 1 (clos 2 f0) f1) 1 f0",
		"(let a 1 (let b 2 (fun x (cons a (fun y b)))))":                                       "0 (let 1 (let 2 (clos 1 l1 l2))) 2 (con 1 f0 (clos 2 f1)) 1 f0",
		"(let a 1 (let b 2 (fun x (cons (fun y (cons b a)) (cons a b)))))":                     "0 (let 1 (let 2 (clos 1 l2 l1))) 2 (con 1 (clos 2 f0 f1) (con 1 f1 f0)) 2 (con 1 f0 f1)",
		"(let a 1 (let b 2 (fun x (cons (cons a b) (fun y (cons b a))))))":                     "0 (let 1 (let 2 (clos 1 l1 l2))) 2 (con 1 (con 1 f0 f1) (clos 2 f1 f0)) 2 (con 1 f0 f1)",
		"(let a 1 (cons (fun x a) (fun y (cons y a))))":                                        "0 (let 1 (con 1 (clos 1 l1) (clos 2 l1))) 1 f0 1 (con 1 l0 f0)",
		"(let a 1 (let b 2 (rec f n (cons b (app f a)) (app f b))))":                           "0 (let 1 (let 2 (let (clos 1 l2 l1) (app l3 l2)))) 2 (con 1 f0 (app self f1))",
	})
}

// A name that is bound anew is the one that is bound about it last, in a function and out of it.
func TestCloseBoundAnew(t *testing.T) {
	checkClosedTo(t, map[string]string{
		"(fun x (fun x x))":                                       "0 (clos 1) 0 (clos 2) 0 l0",
		"(let x 1 (fun x x))":                                     "0 (let 1 (clos 1)) 0 l0",
		"(let x 1 (let x 2 (fun y x)))":                           "0 (let 1 (let 2 (clos 1 l2))) 1 f0",
		"(let x 1 (let x x (cons x x)))":                          "0 (let 1 (let l1 (con 1 l2 l2)))",
		"(let x 1 (fun y (let x x x)))":                           "0 (let 1 (clos 1 l1)) 1 (let f0 l1)",
		"(let x 1 (fun y (cons (let x 2 x) x)))":                  "0 (let 1 (clos 1 l1)) 1 (con 1 (let 2 l1) f0)",
		"(let x 1 (fun y (cons x (let x 2 x))))":                  "0 (let 1 (clos 1 l1)) 1 (con 1 f0 (let 2 l1))",
		"(let x 1 (fun y (cons (fun x x) x)))":                    "0 (let 1 (clos 1 l1)) 1 (con 1 (clos 2) f0) 0 l0",
		"(fun x (cons x (app (fun x (cons x x)) x)))":             "0 (clos 1) 0 (con 1 l0 (app (clos 2) l0)) 0 (con 1 l0 l0)",
		"(fun x (let x 1 (fun y x)))":                             "0 (clos 1) 0 (let 1 (clos 2 l1)) 1 f0",
		"(fun x (cons (let x 1 (fun y x)) (fun y x)))":            "0 (clos 1) 0 (con 1 (let 1 (clos 2 l1)) (clos 3 l0)) 1 f0 1 f0",
		"(let x 1 (fun y (let z x (fun w (cons x (cons y z))))))": "0 (let 1 (clos 1 l1)) 1 (let f0 (clos 2 f0 l0 l1)) 3 (con 1 f0 (con 1 f1 f2))",
		"(let x 1 (fun y (let x (cons x y) (fun z x))))":          "0 (let 1 (clos 1 l1)) 1 (let (con 1 f0 l0) (clos 2 l1)) 1 f0",
		"(let f 1 (rec f n (app f n) f))":                         "0 (let 1 (let (clos 1) l2)) 0 (app self l0)",
		"(let n 1 (rec f n (app f n) (app f n)))":                 "0 (let 1 (let (clos 1) (app l2 l1))) 0 (app self l0)",
		"(rec f n (rec f n (app f n) (app f n)) (app f 1))":       "0 (let (clos 1) (app l1 1)) 0 (let (clos 2) (app l1 l0)) 0 (app self l0)",
		"(rec f n (let f n f) f)":                                 "0 (let (clos 1) l1) 0 (let l0 l1)",
		"(rec f n (fun f (app f n)) f)":                           "0 (let (clos 1) l1) 0 (clos 2 l0) 1 (app l0 f0)",
		"(rec f n (fun n (app f n)) f)":                           "0 (let (clos 1) l1) 0 (clos 2 self) 1 (app f0 l0)",
	})
}

// What is kept of a function in a function is told where its closure is made: a local, a free or the function itself.
func TestCloseKeptWhereMade(t *testing.T) {
	checkClosedTo(t, map[string]string{
		"(let a 1 (fun x (fun y (fun z (cons a (cons x (cons y z)))))))":             "0 (let 1 (clos 1 l1)) 1 (clos 2 f0 l0) 2 (clos 3 f0 f1 l0) 3 (con 1 f0 (con 1 f1 (con 1 f2 l0)))",
		"(let a 1 (fun x (fun y (fun z (cons z (cons y (cons x a)))))))":             "0 (let 1 (clos 1 l1)) 1 (clos 2 l0 f0) 2 (clos 3 l0 f0 f1) 3 (con 1 l0 (con 1 f0 (con 1 f1 f2)))",
		"(let a 1 (fun x (fun y a)))":                                                "0 (let 1 (clos 1 l1)) 1 (clos 2 f0) 1 f0",
		"(fun x (let a (cons x x) (let b a (fun y (cons b (cons x a))))))":           "0 (clos 1) 0 (let (con 1 l0 l0) (let l1 (clos 2 l2 l0 l1))) 3 (con 1 f0 (con 1 f1 f2))",
		"(let a 1 (let b 2 (fun x (let c 3 (fun y (cons c (cons b (cons x a))))))))": "0 (let 1 (let 2 (clos 1 l2 l1))) 2 (let 3 (clos 2 l1 f0 l0 f1)) 4 (con 1 f0 (con 1 f1 (con 1 f2 f3)))",
		"(rec f n (fun m (app f m)) f)":                                              "0 (let (clos 1) l1) 0 (clos 2 self) 1 (app f0 l0)",
		"(rec f n (fun m (fun k (app f (cons m (cons n k))))) (app f 1))":            "0 (let (clos 1) (app l1 1)) 0 (clos 2 self l0) 2 (clos 3 f0 l0 f1) 3 (app f0 (con 1 f1 (con 1 f2 l0)))",
		"(rec f n (rec g m (app f (app g (cons n m))) (app g n)) (app f 2))":         "0 (let (clos 1) (app l1 2)) 0 (let (clos 2 self l0) (app l1 l0)) 2 (app f0 (app self (con 1 f1 l0)))",
		"(rec f n (rec g m (fun k (cons g (cons f (cons m k)))) g) f)":               "0 (let (clos 1) l1) 0 (let (clos 2 self) l1) 1 (clos 3 self f0 l0) 3 (con 1 f0 (con 1 f1 (con 1 f2 l0)))",
		"(rec f n 1 (fun x (app f x)))":                                              "0 (let (clos 1) (clos 2 l1)) 0 1 1 (app f0 l0)",
		"(rec f n 1 (rec g m (app f m) (cons f g)))":                                 "0 (let (clos 1) (let (clos 2 l1) (con 1 l1 l2))) 0 1 1 (app f0 l0)",
		"(fun x (rec f n (cons x (app f n)) (app f x)))":                             "0 (clos 1) 0 (let (clos 2 l0) (app l1 l0)) 1 (con 1 f0 (app self l0))",
		"(fun x (rec f n (fun m (cons f (cons m (cons x n)))) (app f x)))":           "0 (clos 1) 0 (let (clos 2 l0) (app l1 l0)) 1 (clos 3 self f0 l0) 3 (con 1 f0 (con 1 l0 (con 1 f1 f2)))",
	})
}

// The argument is bound in a CoRec's function, within its own name.
func TestCloseRecOfItsName(t *testing.T) {
	checkClosedTo(t, map[string]string{
		"(rec f f f f)":                              "0 (let (clos 1) l1) 0 l0",
		"(rec f f (app f f) (app f 1))":              "0 (let (clos 1) (app l1 1)) 0 (app l0 l0)",
		"(rec f f (fun x (cons f x)) f)":             "0 (let (clos 1) l1) 0 (clos 2 l0) 1 (con 1 f0 l0)",
		"(let f 1 (rec f f (cons f f) f))":           "0 (let 1 (let (clos 1) l2)) 0 (con 1 l0 l0)",
		"(rec f n (rec n n (cons n f) n) f)":         "0 (let (clos 1) l1) 0 (let (clos 2 self) l1) 1 (con 1 l0 f0)",
		"(rec f n (rec n f (app n f) (cons n f)) f)": "0 (let (clos 1) l1) 0 (let (clos 2) (con 1 l1 self)) 0 (app self l0)",
	})
}

// The next local is behind those that are bound about it in the same block, not behind all that ever were.
func TestCloseLocals(t *testing.T) {
	checkClosedTo(t, map[string]string{
		"(let x (let y 1 y) x)":                                     "0 (let (let 1 l1) l1)",
		"(let x (let y 1 y) (let z 2 (cons x z)))":                  "0 (let (let 1 l1) (let 2 (con 1 l1 l2)))",
		"(let x 1 (let y (let z x z) (cons y x)))":                  "0 (let 1 (let (let l1 l2) (con 1 l2 l1)))",
		"(cons (let x 1 x) (let y 2 y))":                            "0 (con 1 (let 1 l1) (let 2 l1))",
		"(let a 1 (cons (let x a x) (let y a (cons y a))))":         "0 (let 1 (con 1 (let l1 l2) (let l1 (con 1 l2 l1))))",
		"(let a 1 (let b 2 (let c 3 (cons a (cons b c)))))":         "0 (let 1 (let 2 (let 3 (con 1 l1 (con 1 l2 l3)))))",
		"(fun x (let a x (let b a (cons x (cons a b)))))":           "0 (clos 1) 0 (let l0 (let l1 (con 1 l0 (con 1 l1 l2))))",
		"(let a 1 (fun x (let b x (cons a b))))":                    "0 (let 1 (clos 1 l1)) 1 (let l0 (con 1 f0 l1))",
		"(rec f n (let a n (app f a)) (let b f (app b f)))":         "0 (let (clos 1) (let l1 (app l2 l1))) 0 (let l0 (app self l1))",
		"(let a 1 (rec f n n (let b 2 (cons a (cons f b)))))":       "0 (let 1 (let (clos 1) (let 2 (con 1 l1 (con 1 l2 l3))))) 0 l0",
		"(if (let a 1 a) (let b 2 b) (let c 3 (let d 4 d)))":        "0 (if (let 1 l1) (let 2 l1) (let 3 (let 4 l2)))",
		"(pair? (let a 1 (let b 2 b)))":                             "0 (iscon 1 (let 1 (let 2 l2)) 1 0)",
		"(let a (rec f n (let b n b) (app f 1)) (let c a (+ c a)))": "0 (let (let (clos 1) (app l1 1)) (let l1 (+ l2 l1))) 0 (let l0 l1)",
	})
}

// Names of a core may be any texts that are not empty.
func TestCloseOddNames(t *testing.T) {
	for _, s := range []string{" ", "(", "0", "_", "...", "\x00", "\xff", "self", strings.Repeat("x", 5000)} {
		list, ok := checkClose(t, clet(s, cnum(1), cfun("x", cop(impl.CoCons, cvar(s), cvar("x")))))
		if !ok || blocksText(list) != "0 (let 1 (clos 1 l1)) 1 (con 1 f0 l0)" {
			t.Errorf("the name %s: %s", shown(s), blocksText(list))
		}
		checkClose(t, crec(s, s, cvar(s), cvar(s)))
		checkClose(t, crec(s, "n", cfun("y", cvar(s)), cvar(s)))
	}
}

func noBlocks(t *testing.T, what string, c impl.Core) {
	t.Helper()
	if list, ok := impl.Close(c); ok || len(list) != 0 {
		t.Errorf("%s: Close(%s) = %s, %v", what, shown(coreText(c)), shown(blocksText(list)), ok)
	}
}

func TestCloseWrongCores(t *testing.T) {
	for what, c := range wrongParts() {
		noBlocks(t, what, c)
		for _, about := range aboutCore() {
			noBlocks(t, what+" within", about(c))
		}
	}
	for _, s := range []string{"x", "(let x x 1)", "(fun x y)", "(cons (fun x x) x)", "(rec f n n n)", "(if 1 2 x)", "(rec f n x 1)", "(fun x (fun y z))", "(app (let f 1 f) f)"} {
		noBlocks(t, "a name that nothing binds", core(t, s))
	}
	inPut := func(c impl.Core) impl.Core { return cop(impl.CoPut, c) }
	noBlocks(t, "too large", bushOf(impl.MaxCore+1))
	noBlocks(t, "too deep", deepCore(inPut, impl.MaxCoreDeep, cnum(1)))
	if list, ok := impl.Close(deepCore(inPut, 300000, cnum(1))); ok || len(list) != 0 {
		t.Error("far too deep", ok)
	}
	kids := make([]impl.Core, 2)
	kids[0], kids[1] = impl.Core{Op: impl.CoAdd, Kids: kids}, impl.Core{Op: impl.CoAdd, Kids: kids}
	if list, ok := impl.Close(kids[0]); ok || len(list) != 0 {
		t.Error("a core without end", ok)
	}
	for _, c := range []impl.Core{bushOf(impl.MaxCore), deepCore(inPut, impl.MaxCoreDeep-1, cnum(1))} {
		if _, ok := checkClose(t, c); !ok {
			t.Error("the largest and the deepest core", shown(coreText(c)))
		}
	}
}

func TestCloseMostBlocks(t *testing.T) {
	for what, about := range map[string]func(impl.Core) impl.Core{
		"within each other":           func(c impl.Core) impl.Core { return cfun("x", c) },
		"within each other, and kept": func(c impl.Core) impl.Core { return cfun("x", cop(impl.CoCons, cvar("a"), c)) },
		"beside each other":           func(c impl.Core) impl.Core { return cop(impl.CoCons, cfun("x", cvar("a")), c) },
		"beside each other, behind":   func(c impl.Core) impl.Core { return cop(impl.CoCons, c, cfun("x", cvar("a"))) },
		"a rec in a rec":              func(c impl.Core) impl.Core { return crec("f", "n", c, cvar("f")) },
		"a rec behind a rec":          func(c impl.Core) impl.Core { return crec("f", "n", cvar("a"), c) },
		"let":                         func(c impl.Core) impl.Core { return clet("x", cfun("y", cvar("a")), c) },
	} {
		for functions := impl.MaxBlocks - 3; functions <= impl.MaxBlocks+2; functions++ {
			c := clet("a", cnum(1), deepCore(about, functions, cvar("a")))
			list, ok := checkClose(t, c)
			if fits := functions+1 <= impl.MaxBlocks; ok != fits || ok && len(list) != functions+1 {
				t.Errorf("%s: %d functions: %v, %d blocks", what, functions, ok, len(list))
			}
		}
	}
	for functions, fits := range map[int]bool{impl.MaxBlocks - 2: true, impl.MaxBlocks - 1: true, impl.MaxBlocks: false, 700: false} {
		if list, ok := checkClose(t, funBush(functions)); ok != fits || ok && len(list) != functions+1 {
			t.Errorf("%d functions: %v, %d blocks", functions, ok, len(list))
		}
	}
}

// funBush has that many functions, few of them within each other.
func funBush(functions int) impl.Core {
	switch functions {
	case 0:
		return cnum(1)
	case 1:
		return cfun("x", cvar("x"))
	}
	return cop(impl.CoCons, funBush(functions/2), funBush(functions-functions/2))
}

// pairBush is closed to more nodes than it has parts: 5 * leaves - 1 of 3 * leaves - 1.
func pairBush(leaves int) impl.Core {
	if leaves == 1 {
		return cop(impl.CoPair, cnum(1))
	}
	return cop(impl.CoCons, pairBush(leaves/2), pairBush(leaves-leaves/2))
}

// inPuts adds that many nodes.
func inPuts(count int, c impl.Core) impl.Core {
	return deepCore(func(c impl.Core) impl.Core { return cop(impl.CoPut, c) }, count, c)
}

func TestCloseMostNodes(t *testing.T) {
	keepTwo := cfun("y", cop(impl.CoCons, cvar("a"), cvar("b")))
	for what, made := range map[string]func(puts int) impl.Core{
		"the program":    func(puts int) impl.Core { return inPuts(puts, pairBush(790)) },
		"a function":     func(puts int) impl.Core { return cfun("x", inPuts(puts, pairBush(790))) },
		"a rec":          func(puts int) impl.Core { return crec("f", "n", inPuts(puts, pairBush(790)), cvar("f")) },
		"within another": func(puts int) impl.Core { return cfun("x", cfun("y", inPuts(puts, pairBush(790)))) },
		"with what kept": func(puts int) impl.Core {
			return clet("a", cnum(1), clet("b", cnum(2), cop(impl.CoCons, keepTwo, inPuts(puts, pairBush(790)))))
		},
		"in what is kept": func(puts int) impl.Core {
			return cfun("a", cfun("b", cop(impl.CoCons, inPuts(puts, pairBush(790)), keepTwo)))
		},
	} {
		most := 0
		for _, b := range closedOf(made(0)) {
			most = max(most, irSizeOf(b.Body))
		}
		for _, size := range []int{impl.MaxIr - 1, impl.MaxIr, impl.MaxIr + 1, impl.MaxIr + 2} {
			c := made(size - most)
			if !rightCore(c) {
				t.Fatalf("%s: no right core of %d puts", what, size-most)
			}
			list, ok := checkClose(t, c)
			if ok != (size <= impl.MaxIr) {
				t.Errorf("%s: %d nodes: %v", what, size, ok)
			}
			if ok && !slices.ContainsFunc(list, func(b impl.Block) bool { return impl.IrSize(b.Body) == size }) {
				t.Errorf("%s: no block of %d nodes", what, size)
			}
		}
	}
}

// Blocks are counted each by itself: all of them together may be far more.
func TestCloseNodesOfEach(t *testing.T) {
	few := cfun("z", cvar("a0"))
	for i := range 60 {
		few = cfun("z", cop(impl.CoCons, cvar("a"+strconv.Itoa(i%20)), few.Kids[0]))
	}
	for range 50 {
		few = cfun("z", few)
	}
	for i := range 20 {
		few = clet("a"+strconv.Itoa(i), cnum(1), few)
	}
	list, ok := checkClose(t, few)
	if !ok || len(list) != 52 || list[51].Free != 20 || len(list[50].Body.Kids) != 20 {
		t.Error("what is kept over and over", ok, len(list))
	}
	two := cop(impl.CoCons, cfun("x", pairBush(480)), cfun("x", pairBush(480)))
	if list, ok := checkClose(t, two); !ok || irSizeOf(list[1].Body)+irSizeOf(list[2].Body) <= impl.MaxIr {
		t.Error("two great blocks", ok)
	}
}

func TestIrSizeTable(t *testing.T) {
	for s, want := range map[string]int{
		"1": 1, "l0": 1, "f3": 1, "self": 1, "fail": 1, "(clos 1)": 1, "(clos 1 l0 f0 self)": 4, "(app 1 2)": 3, "(let 1 l1)": 3, "(if 1 2 3)": 4, "(+ 1 2)": 3, "(- 1 2)": 3, "(* 1 2)": 3, "(< 1 2)": 3, "(= 1 2)": 3, "(con 0)": 1, "(con 1 1 2)": 3, "(con 9 1 2 3 4 5)": 6, "(put 1)": 2, "(field 0 1)": 2, "(iscon 1 5 1 0)": 4, "(isnum 5 l0 1 fail)": 4,
		"(let (if 1 (put 2) (con 0)) (app (clos 1 l0) (+ l1 l1)))": 12,
	} {
		if got := impl.IrSize(ir(t, s)); got != want {
			t.Errorf("IrSize(%s) = %d, not %d", s, got, want)
		}
	}
	if impl.IrSize(impl.Ir{}) != 1 || impl.IrSize(iop(-1, iop(20), iop(99, inum(1)))) != 4 || impl.IrSize(impl.Ir{Op: impl.IrNum, Kids: []impl.Ir{inum(1)}}) != 2 || impl.IrSize(iop(impl.IrPut)) != 1 {
		t.Error("IrSize of what is none")
	}
	deep := inum(1)
	for range 300000 {
		deep = iop(impl.IrPut, deep)
	}
	if impl.IrSize(deep) != 300001 || impl.IrSize(iop(impl.IrCon, slices.Repeat([]impl.Ir{inum(1)}, 300000)...)) != 300001 {
		t.Error("IrSize of what is deep or wide")
	}
}

func TestBlocksOkTakes(t *testing.T) {
	for _, s := range []string{
		"0 0", "0 l0", "0 fail", "0 (con 0)", "0 (con 0 1)", "0 (con 1)", "0 (con 1 2 3)", "0 (con 5 1 2 3 4 5 6 7)", "0 (app 1 2)", "0 (let 1 l1)", "0 (let 1 l0)", "0 (let l0 l1)", "0 (let 1 (let 2 (con 1 l0 l1 l2)))", "0 (let (let 1 l1) l1)", "0 (if 1 2 3)", "0 (+ 1 2)", "0 (- 1 2)", "0 (* 1 2)", "0 (< 1 2)", "0 (= 1 2)", "0 (put 1)", "0 (field 0 1)", "0 (field 7 1)", "0 (iscon 0 1 2 3)", "0 (iscon 9 fail l0 fail)", "0 (isnum 0 1 2 3)", "0 (isnum -5 1 2 3)",
		"0 1 0 self", "0 1 1 f0", "0 1 0 l0", "0 1 3 (con 1 f0 f1 f2 l0 self)", "0 (clos 1) 0 1", "0 (clos 1 5) 1 f0", "0 (clos 1 l0 7) 2 f1", "0 (clos 2 l0) 0 1 1 f0", "0 1 0 (clos 1)", "0 1 1 (clos 1 self)", "0 (clos 1) 0 (clos 2 self) 1 (clos 1)", "0 1 0 (let 1 (let 2 l2)) 0 l0", "0 1 2 1", "0 1 1000000 1", "0 (clos 1 (clos 1 fail)) 1 f0", "0 (let (clos 1 l0) (app l1 (iscon 1 l1 l1 (isnum 4 l1 fail (put l1))))) 1 (app self f0)",
	} {
		list := blocks(t, s)
		if !impl.BlocksOk(list) {
			t.Errorf("BlocksOk(%s) = false", s)
		}
		checkBlocks(t, list)
	}
}

func TestBlocksOkRefuses(t *testing.T) {
	for _, s := range []string{
		"", "0 self", "0 (let 1 self)", "0 f0", "0 l1", "0 (let l1 1)", "0 (let 1 l2)", "0 (con 1 (let 1 l1) l1)", "0 (let (let 1 l2) l1)", "0 (let (let 1 1) l2)", "0 (if (let 1 2) l1 3)", "0 (iscon 0 1 l1 2)", "0 (isnum 0 1 2 l1)", "1 1", "-1 1", "1 f0", "1 (clos 1) 0 1",
		"0 1 0 f0", "0 1 1 f1", "0 1 2 (con 1 f0 f1 f2)", "0 1 0 l1", "0 (let 1 2) 0 l1", "0 1 0 (let 1 l2)", "0 1 -1 1", "0 1 0 1 -1 1", "0 (clos 0)", "0 (clos 1)", "0 (clos -1)", "0 (clos 2) 0 1", "0 (clos 0) 0 1", "0 1 0 (clos 0)", "0 (clos 1) 1 1", "0 (clos 1 5) 0 1", "0 (clos 1 5 6) 1 1", "0 (clos 1 5) 2 1", "0 (clos 1 5) 1 1 0 f0", "0 (clos 1 l1) 1 1", "0 (clos 1 f0) 1 1", "0 (clos 1 self) 1 1", "0 1 1 (clos 1 f1)",
		"0 (app 1)", "0 (app 1 2 3)", "0 (let 1)", "0 (let 1 2 3)", "0 (if 1 2)", "0 (if 1 2 3 4)", "0 (+ 1)", "0 (- 1 2 3)", "0 (*)", "0 (< 1)", "0 (= 1 2 3)", "0 (put)", "0 (put 1 2)", "0 (field 0)", "0 (field 0 1 2)", "0 (iscon 1 2)", "0 (iscon 1 2 3)", "0 (iscon 1 2 3 4 5)", "0 (isnum 1 2 3)", "0 (isnum 1 2 3 4 5)", "0 (fail 1)", "0 1 0 (self 1)",
		"0 (field -1 1)", "0 (con -1)", "0 (iscon -1 1 2 3)", "0 (con 1 2 (con 3 (put self)))", "0 1 0 1 0 1 0 (put)",
	} {
		list := blocks(t, s)
		if impl.BlocksOk(list) {
			t.Errorf("BlocksOk(%s) = true", s)
		}
		checkBlocks(t, list)
	}
	for _, list := range [][]impl.Block{nil, {}, make([]impl.Block, 1), make([]impl.Block, 2), make([]impl.Block, 0, 5)} {
		if impl.BlocksOk(list) {
			t.Error("BlocksOk of no block, or of one that is none")
		}
	}
}

// rightOf is a node of that Op, right in block 1 of two, which keeps one.
func rightOf(op int) impl.Ir {
	x := iop(op, slices.Repeat([]impl.Ir{inum(1)}, max(irArity(op), 0))...)
	if op == impl.IrClos {
		return inop(op, 1, inum(1))
	}
	return x
}

// aboutIr stands for each place at which a node may stand in block 1 of two, which keeps one.
func aboutIr() []func(impl.Ir) []impl.Block {
	in := func(x impl.Ir) []impl.Block { return []impl.Block{{Body: inum(1)}, {Free: 1, Body: x}} }
	places := []func(impl.Ir) []impl.Block{in}
	for op := impl.IrNum; op <= impl.IrFail; op++ {
		for at := range rightOf(op).Kids {
			places = append(places, func(x impl.Ir) []impl.Block {
				about := rightOf(op)
				about.Kids[at] = x
				return in(about)
			})
		}
	}
	return append(places, func(x impl.Ir) []impl.Block { return in(inop(impl.IrCon, 3, inum(1), inum(2), iop(impl.IrPut, x))) })
}

func TestBlocksOkEachPlace(t *testing.T) {
	for i, about := range aboutIr() {
		for op := -2; op < 25; op++ {
			right := irArity(op) != -1
			if list := about(rightOf(op)); impl.BlocksOk(list) != right {
				t.Errorf("place %d: BlocksOk(%s) = %v", i, blocksText(list), !right)
			}
			for kids := range 5 {
				for _, n := range []int{-1, 0, 1, 2, 3, math.MinInt, math.MaxInt} {
					checkBlocks(t, about(inop(op, n, slices.Repeat([]impl.Ir{ilocal(0)}, kids)...)))
				}
			}
		}
		for _, op := range []int{0, -1, 20, 21, 99, math.MinInt, math.MaxInt} {
			if impl.BlocksOk(about(iop(op))) || impl.BlocksOk(about(inop(op, 1, inum(1), inum(1)))) {
				t.Errorf("place %d: an Op that is none, %d", i, op)
			}
		}
	}
}

// A number stands only where one is told.
func TestBlocksOkNumbers(t *testing.T) {
	for _, n := range manyInts() {
		word := leastWord <= n && n <= greatestWord
		for op := impl.IrNum; op <= impl.IrFail; op++ {
			x := rightOf(op)
			x.N = n
			right := n == 0
			switch op {
			case impl.IrNum, impl.IrIsNum:
				right = word
			case impl.IrCon, impl.IrField, impl.IrIsCon:
				right = 0 <= n && n <= 1073741823
			case impl.IrClos:
				right = n == 1
			}
			if list := []impl.Block{{Body: inum(1)}, {Free: 1, Body: x}}; impl.BlocksOk(list) != right {
				t.Errorf("Op %d of %d is right: %v", op, n, !right)
			}
		}
		if list := []impl.Block{{Free: n, Body: inum(1)}}; impl.BlocksOk(list) != (n == 0) {
			t.Errorf("block 0 keeps %d: %v", n, n != 0)
		}
		if list := []impl.Block{{Body: inum(1)}, {Free: n, Body: inum(1)}}; impl.BlocksOk(list) != (n >= 0) {
			t.Errorf("block 1 keeps %d: %v", n, n < 0)
		}
	}
	for _, row := range []struct {
		x     impl.Ir
		right bool
	}{
		{inum(leastWord), true}, {inum(leastWord - 1), false}, {inum(greatestWord), true}, {inum(greatestWord + 1), false},
		{inop(impl.IrIsNum, leastWord, inum(1), inum(1), inum(1)), true}, {inop(impl.IrIsNum, leastWord-1, inum(1), inum(1), inum(1)), false}, {inop(impl.IrIsNum, greatestWord, inum(1), inum(1), inum(1)), true}, {inop(impl.IrIsNum, greatestWord+1, inum(1), inum(1), inum(1)), false},
		{inop(impl.IrIsCon, 0, inum(1), inum(1), inum(1)), true}, {inop(impl.IrIsCon, -1, inum(1), inum(1), inum(1)), false}, {inop(impl.IrIsCon, 1073741823, inum(1), inum(1), inum(1)), true}, {inop(impl.IrIsCon, 1073741824, inum(1), inum(1), inum(1)), false},
		{inop(impl.IrCon, 0), true}, {inop(impl.IrCon, -1), false}, {inop(impl.IrCon, 1073741823), true}, {inop(impl.IrCon, 1073741824), false},
		{inop(impl.IrField, 0, inum(1)), true}, {inop(impl.IrField, -1, inum(1)), false}, {inop(impl.IrField, 1073741823, inum(1)), true}, {inop(impl.IrField, 1073741824, inum(1)), false},
	} {
		if impl.BlocksOk(bodies(row.x)) != row.right {
			t.Errorf("BlocksOk(%s) = %v", irText(row.x), !row.right)
		}
	}
}

// The last local, free and block that there is is right, one more is not.
func TestBlocksOkLastOnes(t *testing.T) {
	for lets := range 30 {
		for n := -1; n < lets+3; n++ {
			x := ilocal(n)
			for range lets {
				x = iop(impl.IrLet, inum(1), x)
			}
			for _, list := range [][]impl.Block{bodies(x), bodies(inum(1), x), bodies(iop(impl.IrLet, inum(1), inum(2)), iop(impl.IrLet, x, inum(1)))} {
				if impl.BlocksOk(list) != (0 <= n && n <= lets) {
					t.Errorf("local %d of %d lets: %v", n, lets, impl.BlocksOk(list))
				}
			}
		}
	}
	for free := range 5 {
		for n := -1; n < 7; n++ {
			list := []impl.Block{{Body: inum(1)}, {Free: 9, Body: inum(1)}, {Free: free, Body: ifree(n)}, {Free: 9, Body: inum(1)}}
			if impl.BlocksOk(list) != (0 <= n && n < free) {
				t.Errorf("free %d of %d: %v", n, free, impl.BlocksOk(list))
			}
		}
		for kids := range 7 {
			list := []impl.Block{{Body: inop(impl.IrClos, 2, slices.Repeat([]impl.Ir{ilocal(0)}, kids)...)}, {Free: kids, Body: inum(1)}, {Free: free, Body: inum(1)}}
			if impl.BlocksOk(list) != (kids == free) {
				t.Errorf("%d of %d are kept: %v", kids, free, impl.BlocksOk(list))
			}
		}
	}
	for count := 1; count <= impl.MaxBlocks; count++ {
		for _, n := range []int{-1, 0, 1, count - 1, count, count + 1} {
			for _, at := range []int{0, count - 1} {
				list := bodies(slices.Repeat([]impl.Ir{inum(1)}, count)...)
				list[at].Body = inop(impl.IrClos, n)
				if impl.BlocksOk(list) != (1 <= n && n < count) {
					t.Errorf("block %d of %d: %v", n, count, impl.BlocksOk(list))
				}
			}
		}
	}
}

func TestBlocksOkLimits(t *testing.T) {
	for count := range impl.MaxBlocks + 5 {
		if list := bodies(slices.Repeat([]impl.Ir{inum(1)}, count)...); impl.BlocksOk(list) != (1 <= count && count <= impl.MaxBlocks) {
			t.Errorf("%d blocks: %v", count, impl.BlocksOk(list))
		}
	}
	if impl.BlocksOk(bodies(slices.Repeat([]impl.Ir{inum(1)}, 100000)...)) {
		t.Error("far too many blocks are right")
	}
	for _, size := range []int{10, impl.MaxIr - 1, impl.MaxIr, impl.MaxIr + 1, impl.MaxIr + 2, 10 * impl.MaxIr} {
		deep, lets := inum(1), inum(1)
		for range size - 1 {
			deep = iop(impl.IrPut, deep)
		}
		for range size / 2 {
			lets = iop(impl.IrLet, inum(1), lets)
		}
		if size%2 == 0 {
			lets = iop(impl.IrPut, lets.Kids[1])
		}
		wide := iop(impl.IrCon, slices.Repeat([]impl.Ir{inum(1)}, size-1)...)
		half := iop(impl.IrCon, slices.Repeat([]impl.Ir{inum(1)}, size/2)...)
		both := iop(impl.IrAdd, half, iop(impl.IrCon, slices.Repeat([]impl.Ir{inum(1)}, size-size/2-3)...))
		for i, x := range []impl.Ir{deep, wide, both, lets} {
			if impl.IrSize(x) != size {
				t.Fatalf("way %d: IrSize of %d is %d", i, size, impl.IrSize(x))
			}
			for _, list := range [][]impl.Block{bodies(x), bodies(inum(1), x), bodies(inum(1), x, inum(1)), bodies(x, x, x)} {
				if impl.BlocksOk(list) != (size <= impl.MaxIr) {
					t.Errorf("way %d: a block of %d nodes: %v", i, size, impl.BlocksOk(list))
				}
			}
		}
	}
	full := bodies(slices.Repeat([]impl.Ir{iop(impl.IrCon, slices.Repeat([]impl.Ir{inum(1)}, impl.MaxIr-1)...)}, impl.MaxBlocks)...)
	if !impl.BlocksOk(full) {
		t.Error("all blocks of the most nodes are not right")
	}
	full[impl.MaxBlocks-1].Body.Kids = append(slices.Clone(full[0].Body.Kids), inum(1))
	if impl.BlocksOk(full) {
		t.Error("the last block has a node too many, and is right")
	}
}

// What has itself as a kid has no end; what looks at it is to end at the limits.
func TestBlocksOkEnds(t *testing.T) {
	kids := make([]impl.Ir, 2)
	kids[0], kids[1] = iop(impl.IrAdd, kids...), iop(impl.IrAdd, kids...)
	kids[0].Kids, kids[1].Kids = kids, kids
	if impl.BlocksOk(bodies(kids[0])) || impl.BlocksOk(bodies(inum(1), iop(impl.IrLet, inum(1), kids[1]))) {
		t.Error("a block without end is right")
	}
	twice := inum(1)
	for range 60 {
		twice = iop(impl.IrAdd, twice, twice)
	}
	deep := inum(1)
	for range 300000 {
		deep = iop(impl.IrPut, deep)
	}
	if impl.BlocksOk(bodies(twice)) || impl.BlocksOk(bodies(deep)) || impl.BlocksOk(bodies(iop(impl.IrCon, slices.Repeat([]impl.Ir{inum(1)}, 3000000)...))) {
		t.Error("a block that is far too great is right")
	}
}

func TestCloseSmallCores(t *testing.T) {
	count, functions := 0, 0
	for parts := 1; parts <= 4; parts++ {
		everyRunning(parts, nil, func(c impl.Core) {
			list, ok := checkClose(t, c)
			if !ok {
				t.Fatalf("Close(%s) is nothing", coreText(c))
			}
			checkClosedMeans(t, c, list)
			count++
		})
	}
	for parts := 4; parts <= 6; parts++ {
		everyCore(parts, func(c impl.Core) {
			if list, ok := checkClose(t, c); ok {
				functions += truth(len(list) > 2)
			}
		})
	}
	if count < 2000 || functions < 2000 {
		t.Error("too few are closed:", count, functions)
	}
}

// closing makes a core of many functions within each other, whose names are bound far about them and anew.
func (m *dataMaker) closing(deep int, about []string) impl.Core {
	if deep == 0 {
		return m.coreLeaf(about)
	}
	name := string(rune('a' + m.pick(7)))
	with := append(slices.Clone(about), name)
	of := func(about []string) impl.Core { return m.closing(deep-1, about) }
	switch m.pick(8) {
	case 0, 1:
		return cfun(name, of(with))
	case 2:
		return clet(name, of(about), of(with))
	case 3:
		other := string(rune('a' + m.pick(7)))
		return crec(name, other, of(append(with, other)), of(with))
	case 4:
		return cop(impl.CoApp, of(about), of(about))
	}
	return cop(impl.CoCons, of(about), of(about))
}

func TestCloseMadeCores(t *testing.T) {
	m := dataMaker{seed: 12}
	kept, selves, wrong, far := 0, 0, 0, 0
	codes := [3]int{}
	see := func(c impl.Core) {
		list, ok := checkClose(t, c)
		if !ok {
			wrong++
			return
		}
		codes[checkClosedMeans(t, c, list)]++
		for _, b := range list {
			text := irText(b.Body)
			kept += truth(b.Free > 1)
			selves += truth(strings.Contains(text, "self"))
			far += truth(strings.Contains(text, "self") && strings.Contains(text, "(clos"))
		}
	}
	for range 1500 {
		see(m.core(2+m.pick(5), []string{"a", "b"}[:m.pick(2)]))
	}
	for range 1500 {
		c := m.closing(3+m.pick(4), []string{"a", "b", "c", "d", "e"})
		for _, name := range []string{"e", "d", "c", "b", "a"} {
			c = clet(name, cnum(m.pick(100)), c)
		}
		see(c)
	}
	for range 500 {
		c := m.running(3+m.pick(4), []string{"int", "list", "fun"}[m.pick(3)], nil)
		see(c)
		for range 2 {
			c = m.twistCore(c)
			see(c)
		}
	}
	if kept < 500 || selves < 300 || far < 50 || wrong < 100 || codes[0] < 300 || codes[1] < 20 || codes[2] < 300 {
		t.Error("of some there are too few:", kept, selves, far, wrong, codes)
	}
}

func TestClosePrograms(t *testing.T) {
	for _, s := range append(fewPrograms(),
		"(define (map f l) (if (pair? l) (cons (f (car l)) (map f (cdr l))) l)) (define (add n) (lambda (x) (+ n x))) (map (add 3) (quote (1 2 3)))",
		"(define (even n) (letrec ((odd (lambda (m) (if m (even (- m 1)) 0)))) (if n (odd (- n 1)) 1))) (cons (even 10) (even 7))",
		"(def-syntax or2 (syntax-rules () ((_ a b) (let ((t a)) (if t t b))))) (let ((t 5)) ((lambda (f) (f 1)) (lambda (x) (or2 0 (+ t x)))))",
		"(put 1) (put 2) 3", "((lambda (x y z) (cons z (cons y x))) 1 2 3)",
	) {
		c, _, code := impl.Expand(s)
		list, ok := checkClose(t, c)
		if code != impl.ExDone || !ok {
			t.Fatalf("%q is told %d, %v", s, code, ok)
		}
		checkClosedMeans(t, c, list)
	}
	m := programMaker{dataMaker: dataMaker{seed: 120}, givenToo: true}
	for range 300 {
		if c, _, code := impl.Expand(m.program()); code == impl.ExDone {
			if list, ok := checkClose(t, c); ok {
				checkClosedMeans(t, c, list)
			}
		}
	}
}

// What is alike is closed to the same blocks: names become places.
func TestCloseOfAlikeIsTheSame(t *testing.T) {
	m := dataMaker{seed: 121}
	for range 1500 {
		c := m.closing(2+m.pick(4), nil)
		a, okA := impl.Close(c)
		b, okB := impl.Close(renamedCore(c, nil, new(int)))
		if okA != okB || !equalBlocks(a, b) {
			t.Fatalf("by other names %s is %s, not %s", coreText(c), shown(blocksText(b)), shown(blocksText(a)))
		}
	}
}

// irsIn are the places of all nodes of x, which may be written to.
func irsIn(x *impl.Ir) []*impl.Ir {
	list := []*impl.Ir{x}
	for i := range x.Kids {
		list = append(list, irsIn(&x.Kids[i])...)
	}
	return list
}

func nodesIn(list []impl.Block) []*impl.Ir {
	var nodes []*impl.Ir
	for i := range list {
		nodes = append(nodes, irsIn(&list[i].Body)...)
	}
	return nodes
}

// twistBlocks is list with one thing in it that is another one, which may be no right one.
func (m *dataMaker) twistBlocks(list []impl.Block) []impl.Block {
	list = wholeBlocks(list)
	nodes := nodesIn(list)
	node := nodes[m.pick(len(nodes))]
	leaves := []impl.Ir{inum(1), ilocal(m.pick(3)), ifree(m.pick(3)), iop(impl.IrSelf), iop(impl.IrFail), inop(impl.IrClos, m.pick(4))}
	switch m.pick(8) {
	case 0:
		node.Op = m.pick(22)
	case 1, 2:
		node.N += m.pick(3) - 1
	case 3:
		node.N = []int{0, 1, 2, -1, leastWord, leastWord - 1, greatestWord, greatestWord + 1}[m.pick(8)]
	case 4:
		node.Kids = append(node.Kids, leaves[m.pick(len(leaves))])
	case 5:
		node.Kids = node.Kids[:m.pick(len(node.Kids)+1)]
	case 6:
		*node = leaves[m.pick(len(leaves))]
	case 7:
		list[m.pick(len(list))].Free += m.pick(3) - 1
	}
	return list
}

func TestBlocksOkTwisted(t *testing.T) {
	m := dataMaker{seed: 122}
	count := map[bool]int{}
	for range 3000 {
		list, ok := impl.Close(m.closing(2+m.pick(3), nil))
		if !ok {
			continue
		}
		for range 1 + m.pick(3) {
			list = m.twistBlocks(list)
			count[checkBlocks(t, list)]++
		}
	}
	if count[true] < 500 || count[false] < 1000 {
		t.Error("of some there are too few:", count)
	}
}

func TestCloseIsNew(t *testing.T) {
	for _, text := range []string{
		"1", "()", "(let a 1 (let b 2 (fun x (cons a (cons b a)))))", "(rec f n (fun m (cons f (cons m n))) (cons (app f 1) (pair? f)))", "(let a 1 (cons (fun x a) (cons (fun y a) (fun z (fun w (cons a z))))))", "(if (pair? 1) (car 2) (let x (cdr 3) (put x)))", "(let a 1 (let b 2 (let c 3 (let d 4 (let e 5 (fun x (fun y (cons a (cons b (cons c (cons d e)))))))))))",
	} {
		c := core(t, text)
		want, _ := closeOf(c)
		for range 3 {
			list, _ := impl.Close(c)
			if !equalBlocks(list, want) {
				t.Fatalf("Close(%s) = %s after one was written into", text, blocksText(list))
			}
			var places []*int
			for _, node := range nodesIn(list) {
				places = append(places, &node.N)
			}
			for i := range list {
				places = append(places, &list[i].Free)
			}
			if !allApart(places) {
				t.Errorf("lists of what %s is closed to share memory", text)
			}
			for _, node := range nodesIn(list) {
				spare := node.Kids[:cap(node.Kids)][len(node.Kids):]
				for i := range spare {
					spare[i] = inum(77)
				}
			}
			if slices.ContainsFunc(nodesIn(list), func(node *impl.Ir) bool { return node.N == 77 }) {
				t.Errorf("lists of what %s is closed to share the room behind them", text)
			}
			for i := range list[:cap(list)] {
				list[:cap(list)][i] = impl.Block{Free: -99}
			}
		}
		if !equalCores(c, core(t, text)) {
			t.Errorf("%s was written into", text)
		}
	}
}

func roomyIr(x impl.Ir) impl.Ir {
	kids := make([]impl.Ir, 0, len(x.Kids)+2)
	for _, kid := range x.Kids {
		kids = append(kids, roomyIr(kid))
	}
	_ = append(kids, inum(88), inum(99))
	x.Kids = kids
	return x
}

func widenedIr(x impl.Ir) impl.Ir {
	var kids []impl.Ir
	for _, kid := range x.Kids[:cap(x.Kids)] {
		kids = append(kids, widenedIr(kid))
	}
	x.Kids = kids
	return x
}

func widenedBlocks(list []impl.Block) []impl.Block {
	var wide []impl.Block
	for _, b := range list[:cap(list)] {
		wide = append(wide, impl.Block{Free: b.Free, Body: widenedIr(b.Body)})
	}
	return wide
}

func TestCloseWritesNothing(t *testing.T) {
	m := dataMaker{seed: 123}
	for range 400 {
		c := roomyCore(m.closing(2+m.pick(3), nil))
		want := widenedCore(c)
		made, ok := impl.Close(c)
		if !equalCores(widenedCore(c), want) {
			t.Fatal("a core was written into:", shown(want))
		}
		if !ok {
			continue
		}
		text := blocksText(made)
		for _, part := range partsOf(&c) {
			part.N, part.S, part.T = 55, "spoilt", "spoilt"
		}
		if blocksText(made) != text {
			t.Fatalf("%s became %s when its core was written into", text, blocksText(made))
		}
		list := make([]impl.Block, 0, len(made)+2)
		for _, b := range m.twistBlocks(made) {
			list = append(list, impl.Block{Free: b.Free, Body: roomyIr(b.Body)})
		}
		_ = append(list, impl.Block{Free: 5, Body: inum(5)}, impl.Block{Free: 6})
		wide := widenedBlocks(list)
		impl.BlocksOk(list)
		impl.IrSize(list[0].Body)
		if !reflect.DeepEqual(widenedBlocks(list), wide) {
			t.Fatal("blocks were written into:", shown(wide))
		}
	}
}

// Nothing is kept from one call to another, and calls beside each other do not meet.
func TestCloseKeepsNothing(t *testing.T) {
	texts := []string{"1", "x", "(fun x x)", "(let a 1 (fun x a))", "(let a 1 (let b 2 (fun x (fun y (cons b (cons a x))))))", "(rec f n (fun m (app f m)) f)", "(fun x y)", "(cons (fun x x) (cons (fun y y) (fun z z)))"}
	cores := make([]impl.Core, len(texts))
	wants := make([][]impl.Block, len(texts))
	for i, text := range texts {
		cores[i] = core(t, text)
		wants[i], _ = closeOf(cores[i])
	}
	var all sync.WaitGroup
	for range 4 {
		all.Go(func() {
			for range 30 {
				for i, c := range cores {
					if got, ok := impl.Close(c); ok != (wants[i] != nil) || !equalBlocks(got, wants[i]) || impl.BlocksOk(got) != ok {
						t.Errorf("Close(%s) = %s, %v", texts[i], blocksText(got), ok)
					}
				}
			}
		})
	}
	all.Wait()
}

// nameBush has each of those names once, few parts within each other.
func nameBush(names []string) impl.Core {
	if len(names) == 1 {
		return cvar(names[0])
	}
	half := len(names) / 2
	return cop(impl.CoCons, nameBush(names[:half]), nameBush(names[half:]))
}

// Many functions that all keep much do not make it slow, though they are too many.
func TestCloseIsNotSlow(t *testing.T) {
	var names []string
	for i := range 50 {
		names = append(names, "a"+strconv.Itoa(i))
	}
	for functions, fits := range map[int]bool{impl.MaxBlocks - 1: true, 85: false} {
		c := deepCore(func(c impl.Core) impl.Core { return cfun("x", c) }, functions, nameBush(slices.Repeat(names, 10)))
		for i, name := range names {
			c = clet(name, cnum(i), c)
		}
		if !impl.CoreOk(c) {
			t.Fatal("no right core", sizeOf(c), deepnessOf(c))
		}
		for range 200 {
			if list, ok := impl.Close(c); ok != fits || ok && list[functions].Free != len(names) {
				t.Fatal("many functions", functions, ok)
			}
		}
	}
}

package tests

import (
	"math"
	"reflect"
	"slices"
	"strconv"
	"strings"
	"sync"
	"testing"

	"loop.example/g00396/impl"
)

func op(code int, numbers ...int) impl.Op {
	o := impl.Op{Code: code}
	if len(numbers) > 0 {
		o.N = numbers[0]
	}
	if len(numbers) > 1 {
		o.M = numbers[1]
	}
	return o
}

func ret() impl.Op { return op(impl.BcRet) }

func fun(free int, list ...impl.Op) impl.Fun {
	return impl.Fun{Free: free, List: list}
}

// codeWords are the names of this file for Codes by their number, the first one of none.
func codeWords() []string {
	return strings.Fields("none num local free self clos call ret con field iscon isnum add sub mul less same put zero jump slide fail")
}

// allCodes are those that there are.
func allCodes() []int {
	var codes []int
	for code := range codeWords() {
		codes = append(codes, code)
	}
	return codes[1:]
}

func isCode(code int) bool { return 1 <= code && code <= 21 }

func opOfText(t *testing.T, s string) impl.Op {
	t.Helper()
	words := strings.Fields(s)
	o := impl.Op{Code: slices.Index(codeWords(), words[0])}
	for i, place := range []*int{&o.N, &o.M} {
		if len(words) < i+2 {
			continue
		}
		n, err := strconv.Atoi(words[i+1])
		if err != nil {
			t.Fatalf("%q is no op", s)
		}
		*place = n
	}
	if o.Code < 0 || len(words) > 3 {
		t.Fatalf("%q is no op", s)
	}
	return o
}

// funs are told by how many each keeps and its ops, right or not, with ; between; functions with | between. An op has an N
// and an M, or 0 where none is told.
func funs(t *testing.T, s string) []impl.Fun {
	t.Helper()
	var list []impl.Fun
	for _, text := range strings.Split(s, "|") {
		head, rest, _ := strings.Cut(strings.TrimSpace(text), " ")
		free, err := strconv.Atoi(head)
		if err != nil {
			t.Fatalf("%q is no function", text)
		}
		f := impl.Fun{Free: free}
		for _, part := range strings.Split(rest, ";") {
			if strings.TrimSpace(part) != "" {
				f.List = append(f.List, opOfText(t, part))
			}
		}
		list = append(list, f)
	}
	return list
}

// span is of numbers from least to most, both too.
type span struct {
	least, most int
}

func (s span) has(n int) bool { return s.least <= n && n <= s.most }

// The second one below does not look at an Op by itself: it tells of each Code which numbers may stand there, and asks
// whether those that do are among them.

func spansOf(list []impl.Fun, number int, o impl.Op) (span, span, bool) {
	none, all := span{0, 0}, span{leastWord, greatestWord}
	places := span{0, len(list[number].List) - 1}
	switch o.Code {
	case impl.BcNum:
		return all, none, true
	case impl.BcLocal:
		return span{0, 2999}, none, true
	case impl.BcFree:
		return span{0, list[number].Free - 1}, none, true
	case impl.BcSelf:
		return none, none, number > 0
	case impl.BcClos:
		kept := span{1, 0}
		for i, f := range list {
			if i > 0 && i == o.N {
				kept = span{f.Free, f.Free}
			}
		}
		return span{1, len(list) - 1}, kept, true
	case impl.BcCon:
		return span{0, 19}, span{0, 20}, true
	case impl.BcField:
		return span{0, 19}, none, true
	case impl.BcIsCon:
		return span{0, 19}, places, true
	case impl.BcIsNum:
		return all, places, true
	case impl.BcZero, impl.BcJump:
		return places, none, true
	}
	return none, none, isCode(o.Code)
}

func rightFun(list []impl.Fun, number int) bool {
	f := list[number]
	if len(f.List) == 0 || len(f.List) > 3000 || f.Free < 0 || f.Free > 20 {
		return false
	}
	for _, o := range f.List {
		first, second, may := spansOf(list, number, o)
		if !may || !first.has(o.N) || !second.has(o.M) {
			return false
		}
	}
	last := f.List[len(f.List)-1].Code
	return slices.Contains([]int{impl.BcRet, impl.BcJump, impl.BcFail}, last)
}

func rightFuns(list []impl.Fun) bool {
	if len(list) == 0 || len(list) > 60 || list[0].Free != 0 {
		return false
	}
	for i := range list {
		if !rightFun(list, i) {
			return false
		}
	}
	return true
}

func opTextOf(o impl.Op) string {
	if !isCode(o.Code) {
		return ""
	}
	return codeWords()[o.Code] + " " + strconv.Itoa(o.N) + " " + strconv.Itoa(o.M)
}

// checkFuns holds both against the second ones; where they are right each op must be named, by its own name (P13).
func checkFuns(t *testing.T, list []impl.Fun) bool {
	t.Helper()
	right := rightFuns(list)
	if impl.FunsOk(list) != right {
		t.Fatalf("FunsOk(%s) = %v", shown(list), !right)
	}
	for _, f := range list {
		for _, o := range f.List {
			text := impl.OpText(o)
			if want := opTextOf(o); text != want {
				t.Fatalf("OpText(%v) = %q, not %q", o, text, want)
			}
			if right && (text == "" || opOfText(t, text) != o) {
				t.Fatalf("what is right is not named: %v is %q", o, text)
			}
		}
	}
	return right
}

// askFuns asks for an answer that is told beside it, of the second one, too.
func askFuns(t *testing.T, what string, list []impl.Fun, right bool) {
	t.Helper()
	if got, second := impl.FunsOk(list), rightFuns(list); got != right || second != right {
		t.Errorf("%s: FunsOk(%s) = %v, the second one %v", what, shown(list), got, second)
	}
}

func TestCodeConstants(t *testing.T) {
	codes := []int{impl.BcNum, impl.BcLocal, impl.BcFree, impl.BcSelf, impl.BcClos, impl.BcCall, impl.BcRet, impl.BcCon, impl.BcField, impl.BcIsCon, impl.BcIsNum, impl.BcAdd, impl.BcSub, impl.BcMul, impl.BcLess, impl.BcSame, impl.BcPut, impl.BcZero, impl.BcJump, impl.BcSlide, impl.BcFail}
	for i, code := range codes {
		if code != i+1 {
			t.Errorf("the Code of number %d is %d", i+1, code)
		}
	}
	if len(codes) != 21 || len(allCodes()) != 21 || impl.MaxPlaces != 3000 || impl.MaxKids != 20 {
		t.Error(len(codes), len(allCodes()), impl.MaxPlaces, impl.MaxKids)
	}
}

func TestOpTextEachCode(t *testing.T) {
	for _, row := range []struct {
		o    impl.Op
		want string
	}{
		{op(impl.BcNum, 5), "num 5 0"}, {op(impl.BcLocal, 2), "local 2 0"}, {op(impl.BcFree, 1), "free 1 0"}, {op(impl.BcSelf), "self 0 0"}, {op(impl.BcClos, 3, 4), "clos 3 4"}, {op(impl.BcCall), "call 0 0"}, {op(impl.BcRet), "ret 0 0"},
		{op(impl.BcCon, 1, 2), "con 1 2"}, {op(impl.BcField, 7), "field 7 0"}, {op(impl.BcIsCon, 2, 7), "iscon 2 7"}, {op(impl.BcIsNum, -8, 9), "isnum -8 9"},
		{op(impl.BcAdd), "add 0 0"}, {op(impl.BcSub), "sub 0 0"}, {op(impl.BcMul), "mul 0 0"}, {op(impl.BcLess), "less 0 0"}, {op(impl.BcSame), "same 0 0"}, {op(impl.BcPut), "put 0 0"},
		{op(impl.BcZero, 12), "zero 12 0"}, {op(impl.BcJump, 2999), "jump 2999 0"}, {op(impl.BcSlide), "slide 0 0"}, {op(impl.BcFail), "fail 0 0"},
		{op(impl.BcNum, leastWord), "num -1073741824 0"}, {op(impl.BcNum, greatestWord), "num 1073741823 0"},
		// What an op is named hangs on its Code alone, whatever its numbers are.
		{op(impl.BcNum, 1073741824, -1), "num 1073741824 -1"}, {op(impl.BcAdd, 1, 2), "add 1 2"}, {op(impl.BcFail, -3, 20), "fail -3 20"}, {op(impl.BcSelf, math.MinInt, math.MaxInt), "self -9223372036854775808 9223372036854775807"}, {op(impl.BcRet, 10, 100), "ret 10 100"},
	} {
		if got := impl.OpText(row.o); got != row.want {
			t.Errorf("OpText(%v) = %q, not %q", row.o, got, row.want)
		}
	}
}

func TestOpTextOfNoCode(t *testing.T) {
	if impl.OpText(impl.Op{}) != "" {
		t.Errorf("OpText of the zero value is %q", impl.OpText(impl.Op{}))
	}
	for _, code := range append(manyInts(), impl.BcFail+1, impl.BcNum-1, 256+impl.BcNum, 1<<32+impl.BcNum) {
		for _, o := range []impl.Op{op(code), op(code, 1, 2), op(code, -1, math.MaxInt)} {
			got := impl.OpText(o)
			if (got == "") == isCode(code) || got != opTextOf(o) {
				t.Fatalf("OpText(%v) = %q", o, got)
			}
		}
	}
}

func TestOpTextOfMany(t *testing.T) {
	for i, n := range manyInts() {
		for _, code := range append(allCodes(), 0, 22) {
			for _, o := range []impl.Op{op(code, n), op(code, 0, n), op(code, n, i)} {
				text := impl.OpText(o)
				if text != opTextOf(o) {
					t.Fatalf("OpText(%v) = %q", o, text)
				}
				if text != "" && opOfText(t, text) != o {
					t.Fatalf("%v is told by %q as another op", o, text)
				}
			}
		}
	}
}

func TestFunsOkTakes(t *testing.T) {
	for _, s := range []string{
		"0 ret", "0 fail", "0 jump 0", "0 num 5; ret", "0 local 0; ret", "0 local 7; ret", "0 call; ret", "0 con 0 0; ret", "0 con 1 2; ret", "0 con 19 20; ret", "0 field 0; ret", "0 field 19; ret", "0 iscon 0 0; ret", "0 iscon 1 1; ret", "0 iscon 19 2; num 1; ret", "0 isnum 5 0; ret", "0 isnum -5 1; ret",
		"0 add; ret", "0 sub; ret", "0 mul; ret", "0 less; ret", "0 same; ret", "0 put; ret", "0 slide; ret", "0 zero 0; ret", "0 zero 1; ret", "0 jump 1; ret", "0 ret; ret", "0 fail; ret", "0 num 1; fail", "0 num 1; jump 0", "0 ret; jump 1",
		"0 ret | 0 ret", "0 ret | 0 self; ret", "0 ret | 1 free 0; ret", "0 ret | 20 free 0; free 19; ret", "0 ret | 3 ret", "0 clos 1 0; ret | 0 ret", "0 clos 1 2; ret | 2 free 1; ret", "0 clos 2 1; ret | 5 ret | 1 ret", "0 ret | 1 clos 1 1; ret", "0 ret | 1 clos 2 0; self; ret | 0 clos 1 1; ret", "0 clos 2 20; clos 1 0; ret | 0 ret | 20 ret",
		"0 num 1; zero 4; num 2; jump 5; num 3; ret", "0 num 1; iscon 1 4; num 1; jump 5; num 0; ret", "0 num 5; num 2; local 1; slide; ret",
		"0 clos 1 0; num 5; call; ret | 0 local 0; zero 9; local 0; self; local 0; num -1; add; call; mul; ret",
	} {
		askFuns(t, s, funs(t, s), true)
		checkFuns(t, funs(t, s))
	}
}

func TestFunsOkRefuses(t *testing.T) {
	for _, s := range []string{
		"0", "1 ret", "-1 ret", "0 num 5", "0 ret; num 5", "0 none; ret", "0 none", "0 free 0; ret", "0 self; ret", "0 ret; self", "0 self; ret | 0 ret", "1 free 0; ret", "0 clos 1 0; ret", "0 clos 0 0; ret", "0 clos -1 0; ret",
		"0 local -1; ret", "0 local 3000; ret", "0 con -1 0; ret", "0 con 20 0; ret", "0 con 0 -1; ret", "0 con 0 21; ret", "0 field -1; ret", "0 field 20; ret", "0 iscon -1 0; ret", "0 iscon 20 0; ret", "0 iscon 0 -1; ret", "0 iscon 0 2; ret", "0 isnum 0 -1; ret", "0 isnum 0 2; ret", "0 isnum 1073741824 0; ret", "0 isnum -1073741825 0; ret", "0 num 1073741824; ret", "0 num -1073741825; ret",
		"0 zero -1; ret", "0 zero 2; ret", "0 jump -1; ret", "0 jump 2; ret", "0 jump 1", "0 jump -1", "0 ret; jump 2",
		"0 num 1 1; ret", "0 local 0 1; ret", "0 call 1; ret", "0 call 0 1; ret", "0 field 0 1; ret", "0 add 1; ret", "0 sub 1; ret", "0 mul 0 1; ret", "0 less 1; ret", "0 same 0 1; ret", "0 put 1; ret", "0 slide 0 1; ret", "0 zero 0 1; ret", "0 jump 0 1; ret", "0 fail 1; ret", "0 fail 0 1; ret", "0 ret 1", "0 ret 0 1", "0 jump 0 -1", "0 fail -1",
		"0 ret | 0", "0 | 0 ret", "1 ret | 0 ret", "0 ret | -1 ret", "0 ret | 21 ret", "0 ret | 0 num 1", "0 num 1 | 0 ret", "0 ret | 0 none; ret", "0 ret | 0 free 0; ret", "0 ret | 1 free 1; ret", "0 ret | 1 free -1; ret", "0 ret | 1 free 0 1; ret", "0 ret | 0 self 1; ret", "0 ret | 0 self 0 1; ret", "0 ret | 1 ret | 0 free 0; ret",
		"0 clos 0 0; ret | 0 ret", "0 ret | 0 clos 0 0; ret", "0 clos 2 0; ret | 0 ret", "0 clos -1 0; ret | 0 ret", "0 clos 1 1; ret | 0 ret", "0 clos 1 -1; ret | 0 ret", "0 clos 1 0; ret | 1 ret", "0 clos 1 2; ret | 1 ret", "0 clos 2 5; ret | 5 ret | 1 ret", "0 ret | 1 clos 1 0; ret", "0 clos 1 21; ret | 21 ret", "0 clos 1 -1; ret | -1 ret",
		"0 num 1; num 2; ret | 0 jump 2; ret", "0 ret | 0 num 1; num 2; zero 4; ret", "0 ret | 0 num 1; ret | 0 isnum 0 3; num 1; ret",
	} {
		askFuns(t, s, funs(t, s), false)
		checkFuns(t, funs(t, s))
	}
	for _, list := range [][]impl.Fun{nil, {}, make([]impl.Fun, 1), make([]impl.Fun, 2), make([]impl.Fun, 0, 5)} {
		askFuns(t, "no function, or one that has no place", list, false)
	}
}

func TestFunsOkHowMany(t *testing.T) {
	for count := range impl.MaxBlocks + 5 {
		askFuns(t, "functions", slices.Repeat([]impl.Fun{fun(0, ret())}, count), 1 <= count && count <= 60)
	}
	if impl.FunsOk(slices.Repeat([]impl.Fun{fun(0, ret())}, 100000)) {
		t.Error("far too many functions are right")
	}
	for _, count := range []int{2, 30, impl.MaxBlocks} {
		for wrong := range count {
			list := slices.Repeat([]impl.Fun{fun(0, ret())}, count)
			list[wrong] = fun(0, op(impl.BcFree), ret())
			askFuns(t, "one of them is wrong", list, false)
			list[wrong] = fun(0, op(impl.BcSelf), ret())
			askFuns(t, "one of them has itself", list, wrong > 0)
		}
	}
}

func TestFunsOkFree(t *testing.T) {
	for _, row := range []struct {
		free  int
		right bool
	}{
		{math.MinInt, false}, {-21, false}, {-20, false}, {-1, false}, {0, true}, {1, true}, {19, true}, {20, true}, {21, false}, {60, false}, {1 << 32, false}, {math.MaxInt, false},
	} {
		f := fun(row.free, ret())
		askFuns(t, "the first one", []impl.Fun{f}, row.free == 0)
		askFuns(t, "the first one of two", []impl.Fun{f, fun(0, ret())}, row.free == 0)
		askFuns(t, "the second one", []impl.Fun{fun(0, ret()), f}, row.right)
		askFuns(t, "the second one of three", []impl.Fun{fun(0, ret()), f, fun(3, ret())}, row.right)
		askFuns(t, "the last one", append(slices.Repeat([]impl.Fun{fun(0, ret())}, impl.MaxBlocks-1), f), row.right)
	}
	for _, n := range manyInts() {
		if impl.FunsOk([]impl.Fun{fun(n, ret())}) != (n == 0) || impl.FunsOk([]impl.Fun{fun(0, ret()), fun(n, ret())}) != (0 <= n && n <= 20) {
			t.Fatalf("Free %d", n)
		}
	}
}

func TestFunsOkPlaces(t *testing.T) {
	for _, count := range []int{0, 1, 2, 10, impl.MaxPlaces - 1, impl.MaxPlaces, impl.MaxPlaces + 1, impl.MaxPlaces + 2, 10 * impl.MaxPlaces} {
		right := 1 <= count && count <= 3000
		for _, end := range []impl.Op{ret(), op(impl.BcFail), op(impl.BcJump)} {
			places := slices.Repeat([]impl.Op{op(impl.BcNum, 7)}, count)
			if count > 0 {
				places[count-1] = end
			}
			askFuns(t, "places", []impl.Fun{fun(0, places...)}, right)
			askFuns(t, "places of the second one", []impl.Fun{fun(0, ret()), fun(2, places...)}, right)
			askFuns(t, "places of the last one", []impl.Fun{fun(0, ret()), fun(0, ret()), fun(20, places...)}, right)
			askFuns(t, "places of one among others", []impl.Fun{fun(0, ret()), fun(0, places...), fun(0, ret())}, right)
		}
	}
	full := slices.Repeat([]impl.Op{ret()}, impl.MaxPlaces)
	all := slices.Repeat([]impl.Fun{fun(0, full...)}, impl.MaxBlocks)
	if !impl.FunsOk(all) {
		t.Error("all functions of the most places are not right")
	}
	all[impl.MaxBlocks-1].List = append(slices.Clone(full), ret())
	if impl.FunsOk(all) {
		t.Error("the last function has a place too many, and is right")
	}
	if impl.FunsOk([]impl.Fun{fun(0, slices.Repeat([]impl.Op{ret()}, 3000000)...)}) {
		t.Error("a function of far too many places is right")
	}
}

// A wrong op is found wherever it stands, but for the last place, which must be an end.
func TestFunsOkEachPlace(t *testing.T) {
	for _, count := range []int{1, 2, 3, 50, impl.MaxPlaces} {
		for _, at := range []int{0, 1, count / 2, count - 2, count - 1} {
			if at < 0 || at >= count {
				continue
			}
			for _, row := range []struct {
				o    impl.Op
				last bool
			}{
				{op(impl.BcRet), true}, {op(impl.BcJump, at), true}, {op(impl.BcFail), true}, {op(impl.BcNum, 3), false}, {op(impl.BcAdd), false},
			} {
				places := slices.Repeat([]impl.Op{ret()}, count)
				places[at] = row.o
				right := row.last || at < count-1
				askFuns(t, "a right one", []impl.Fun{fun(0, places...)}, right)
				places[at].M = 1
				askFuns(t, "a wrong one", []impl.Fun{fun(0, places...)}, false)
				askFuns(t, "a wrong one behind", []impl.Fun{fun(0, ret()), fun(0, places...)}, false)
			}
		}
	}
}

// rightOp is right in function 1 of two, which keeps one.
func rightOp(code int) impl.Op {
	if code == impl.BcClos {
		return op(code, 1, 1)
	}
	return op(code)
}

func twoFuns(places ...impl.Op) []impl.Fun {
	return []impl.Fun{fun(0, ret()), fun(1, places...)}
}

func TestFunsOkLastPlace(t *testing.T) {
	for code := -2; code < 30; code++ {
		isLast := code == impl.BcRet || code == impl.BcJump || code == impl.BcFail
		askFuns(t, "the only place", twoFuns(rightOp(code)), isLast)
		askFuns(t, "the last place", twoFuns(ret(), rightOp(code)), isLast)
		askFuns(t, "the last one of many", twoFuns(ret(), ret(), op(impl.BcJump, 1), rightOp(code)), isLast)
		askFuns(t, "not the last place", twoFuns(rightOp(code), ret()), isCode(code))
		askFuns(t, "between others", twoFuns(op(impl.BcNum, 5), rightOp(code), op(impl.BcAdd), ret()), isCode(code))
		askFuns(t, "ahead of a jump", twoFuns(rightOp(code), op(impl.BcJump)), isCode(code))
		askFuns(t, "ahead of a fail", twoFuns(rightOp(code), op(impl.BcFail)), isCode(code))
	}
}

func TestFunsOkNoCode(t *testing.T) {
	for _, code := range append(manyInts(), -1, 0, 22, 23, 256+impl.BcRet, 1<<32+impl.BcRet) {
		for _, list := range [][]impl.Fun{twoFuns(rightOp(code), ret()), twoFuns(ret(), rightOp(code), ret())} {
			if impl.FunsOk(list) != isCode(code) {
				t.Fatalf("FunsOk(%v) = %v", list, !isCode(code))
			}
		}
		if !isCode(code) && (impl.FunsOk([]impl.Fun{fun(0, op(code))}) || impl.FunsOk([]impl.Fun{fun(0, op(code), ret())}) || impl.FunsOk(twoFuns(op(code, 1, 1), ret()))) {
			t.Fatalf("Code %d is none, and right", code)
		}
	}
}

// Numbers stand only where they are told, of each Code by itself: here in function 1 of two, which keeps one, of three
// places.
func TestFunsOkNumbers(t *testing.T) {
	for _, n := range manyInts() {
		word, tag, place := leastWord <= n && n <= greatestWord, 0 <= n && n < 20, 0 <= n && n < 3
		for _, code := range allCodes() {
			rightN, rightM := n == 0, n == 0
			switch code {
			case impl.BcNum:
				rightN = word
			case impl.BcLocal:
				rightN = 0 <= n && n < 3000
			case impl.BcClos:
				rightN, rightM = n == 1, n == 1
			case impl.BcCon:
				rightN, rightM = tag, tag || n == 20
			case impl.BcField:
				rightN = tag
			case impl.BcIsCon:
				rightN, rightM = tag, place
			case impl.BcIsNum:
				rightN, rightM = word, place
			case impl.BcZero, impl.BcJump:
				rightN = place
			}
			first, second := rightOp(code), rightOp(code)
			first.N, second.M = n, n
			for i, o := range []impl.Op{first, second} {
				right := []bool{rightN, rightM}[i]
				for _, list := range [][]impl.Fun{twoFuns(o, ret(), ret()), twoFuns(ret(), o, ret())} {
					if impl.FunsOk(list) != right {
						t.Fatalf("FunsOk(%v) = %v", list, !right)
					}
				}
			}
		}
	}
}

func TestFunsOkWords(t *testing.T) {
	for _, row := range []struct {
		n     int
		right bool
	}{
		{leastWord, true}, {leastWord + 1, true}, {-1, true}, {0, true}, {greatestWord - 1, true}, {greatestWord, true},
		{leastWord - 1, false}, {greatestWord + 1, false}, {-wordSpan, false}, {wordSpan, false}, {1 << 32, false}, {math.MinInt, false}, {math.MaxInt, false},
	} {
		for _, o := range []impl.Op{op(impl.BcNum, row.n), op(impl.BcIsNum, row.n, 1)} {
			askFuns(t, "a word", []impl.Fun{fun(0, o, ret())}, row.right)
			askFuns(t, "a word of the second one", twoFuns(ret(), o, ret()), row.right)
		}
	}
}

// Tags and fields are below MaxKids, but a con has up to MaxKids kids.
func TestFunsOkTagsAndFields(t *testing.T) {
	for _, row := range []struct {
		n              int
		right, rightAs bool
	}{
		{math.MinInt, false, false}, {-20, false, false}, {-1, false, false}, {0, true, true}, {1, true, true}, {18, true, true}, {19, true, true}, {20, false, true}, {21, false, false}, {3000, false, false}, {1 << 32, false, false}, {math.MaxInt, false, false},
	} {
		for _, o := range []impl.Op{op(impl.BcCon, row.n), op(impl.BcCon, row.n, 20), op(impl.BcField, row.n), op(impl.BcIsCon, row.n), op(impl.BcIsCon, row.n, 1)} {
			askFuns(t, "a tag or a field", []impl.Fun{fun(0, o, ret())}, row.right)
			askFuns(t, "a tag or a field of the second one", twoFuns(o, ret()), row.right)
		}
		for _, tag := range []int{0, 1, 19} {
			askFuns(t, "kids of a con", []impl.Fun{fun(0, op(impl.BcCon, tag, row.n), ret())}, row.rightAs)
			askFuns(t, "kids of a con of the second one", twoFuns(op(impl.BcCon, tag, row.n), ret()), row.rightAs)
		}
	}
}

func TestFunsOkLocals(t *testing.T) {
	for _, row := range []struct {
		n     int
		right bool
	}{
		{math.MinInt, false}, {-3000, false}, {-1, false}, {0, true}, {1, true}, {60, true}, {2998, true}, {2999, true}, {3000, false}, {3001, false}, {1 << 32, false}, {math.MaxInt, false},
	} {
		askFuns(t, "a local", []impl.Fun{fun(0, op(impl.BcLocal, row.n), ret())}, row.right)
		askFuns(t, "a local of the second one", twoFuns(ret(), op(impl.BcLocal, row.n), ret()), row.right)
	}
}

func TestFunsOkFrees(t *testing.T) {
	for free := range impl.MaxKids + 1 {
		for n := -2; n < impl.MaxKids+3; n++ {
			o := op(impl.BcFree, n)
			askFuns(t, "a free", []impl.Fun{fun(0, ret()), fun(20, ret()), fun(free, o, ret()), fun(20, ret())}, 0 <= n && n < free)
			askFuns(t, "a free of the first one", []impl.Fun{fun(0, o, ret()), fun(free, ret())}, false)
		}
		for _, n := range []int{math.MinInt, -1 << 32, 1 << 32, math.MaxInt} {
			askFuns(t, "a free far away", []impl.Fun{fun(0, ret()), fun(free, op(impl.BcFree, n), ret())}, false)
		}
	}
}

func TestFunsOkClosures(t *testing.T) {
	for _, count := range []int{1, 2, 3, 10, impl.MaxBlocks} {
		for _, n := range []int{math.MinInt, -1, 0, 1, 2, count - 1, count, count + 1, impl.MaxBlocks, 1 << 32, math.MaxInt} {
			for _, at := range []int{0, 1, count - 1} {
				if at >= count {
					continue
				}
				list := slices.Repeat([]impl.Fun{fun(0, ret())}, count)
				list[at] = fun(0, op(impl.BcClos, n), ret())
				askFuns(t, "a function that is", list, 1 <= n && n < count)
			}
		}
	}
	for free := range impl.MaxKids + 1 {
		for _, kept := range []int{math.MinInt, -1, 0, 1, 2, 3, free - 1, free, free + 1, 19, 20, 21, math.MaxInt} {
			o := op(impl.BcClos, 2, kept)
			for _, at := range []int{0, 1, 2, 3} {
				list := []impl.Fun{fun(0, ret()), fun(1, ret()), fun(free, ret()), fun(20, ret())}
				list[at].List = []impl.Op{o, ret()}
				askFuns(t, "as many as are kept", list, kept == free)
			}
		}
	}
}

func TestFunsOkJumps(t *testing.T) {
	for _, count := range []int{1, 2, 3, 17, impl.MaxPlaces} {
		for _, n := range []int{math.MinInt, -1, 0, 1, count / 2, count - 2, count - 1, count, count + 1, impl.MaxPlaces, 1 << 32, math.MaxInt} {
			for _, at := range []int{0, count / 2, count - 2, count - 1} {
				for _, o := range []impl.Op{op(impl.BcJump, n), op(impl.BcZero, n), op(impl.BcIsCon, 4, n), op(impl.BcIsNum, -4, n)} {
					if at < 0 {
						continue
					}
					places := slices.Repeat([]impl.Op{ret()}, count)
					places[at] = o
					right := 0 <= n && n < count && (at < count-1 || o.Code == impl.BcJump)
					askFuns(t, "a place", []impl.Fun{fun(0, places...)}, right)
					// A place of another function, which has more or fewer, is none of this one.
					askFuns(t, "a place of the second one", []impl.Fun{fun(0, ret()), fun(0, places...)}, right)
					askFuns(t, "a place of the first one", []impl.Fun{fun(0, places...), fun(0, slices.Repeat([]impl.Op{ret()}, 20)...)}, right)
				}
			}
		}
	}
}

func TestFunsOkSelf(t *testing.T) {
	places := []impl.Op{op(impl.BcNum, 1), op(impl.BcSelf), op(impl.BcSelf), ret()}
	askFuns(t, "alone", []impl.Fun{fun(0, places...)}, false)
	for count := 2; count <= impl.MaxBlocks; count++ {
		for at := range count {
			list := slices.Repeat([]impl.Fun{fun(0, ret())}, count)
			list[at].List = places
			askFuns(t, "itself", list, at != 0)
		}
	}
}

// everyOp is each Op with numbers from there on, so many of them.
func everyOp(codes []int, least, count int, each func(impl.Op)) {
	for _, code := range codes {
		for n := range count {
			for m := range count {
				each(op(code, least+n, least+m))
			}
		}
	}
}

// All small functions: two of two places each, of which one is any Op.
func TestFunsOkSmall(t *testing.T) {
	count := map[bool]int{}
	for free := -1; free <= 2; free++ {
		everyOp(append(allCodes(), -1, 0, 22), -2, 6, func(o impl.Op) {
			for _, list := range [][]impl.Fun{
				{fun(free, o)}, {fun(free, o, ret())}, {fun(0, ret(), o)}, {fun(0, o, ret()), fun(free, ret())}, {fun(0, ret()), fun(free, o)}, {fun(0, ret()), fun(free, o, ret())}, {fun(0, ret()), fun(free, op(impl.BcFail), o)}, {fun(0, ret(), ret()), fun(1, ret()), fun(free, o, op(impl.BcJump, 1))},
			} {
				count[checkFuns(t, list)]++
			}
		})
	}
	if count[true] < 200 || count[false] < 5000 {
		t.Error("of some there are too few:", count)
	}
}

// opFor makes a right op of function number, which has so many places.
func (m *dataMaker) opFor(frees []int, number, places int) impl.Op {
	words := []int{0, 1, -1, 70, leastWord, greatestWord, m.pick(1000)}
	word, place := words[m.pick(len(words))], m.pick(places)
	for {
		switch code := 1 + m.pick(21); code {
		case impl.BcNum:
			return op(code, word)
		case impl.BcLocal:
			return op(code, []int{0, 1, 2999, m.pick(3000)}[m.pick(4)])
		case impl.BcFree:
			if frees[number] > 0 {
				return op(code, m.pick(frees[number]))
			}
		case impl.BcSelf:
			if number > 0 {
				return op(code)
			}
		case impl.BcClos:
			if len(frees) > 1 {
				other := 1 + m.pick(len(frees)-1)
				return op(code, other, frees[other])
			}
		case impl.BcCon:
			return op(code, m.pick(20), m.pick(21))
		case impl.BcField:
			return op(code, m.pick(20))
		case impl.BcIsCon:
			return op(code, m.pick(20), place)
		case impl.BcIsNum:
			return op(code, word, place)
		case impl.BcZero, impl.BcJump:
			return op(code, place)
		default:
			return op(code)
		}
	}
}

func (m *dataMaker) funs() []impl.Fun {
	frees := make([]int, 1+m.pick(6))
	for i := range frees[1:] {
		frees[i+1] = []int{0, 1, 20, m.pick(21)}[m.pick(4)]
	}
	var list []impl.Fun
	for i, free := range frees {
		places := 1 + m.pick(12)
		f := impl.Fun{Free: free}
		for range places - 1 {
			f.List = append(f.List, m.opFor(frees, i, places))
		}
		end := []impl.Op{ret(), op(impl.BcFail), op(impl.BcJump, m.pick(places))}[m.pick(3)]
		f.List = append(f.List, end)
		list = append(list, f)
	}
	return list
}

func clonedFuns(list []impl.Fun) []impl.Fun {
	var other []impl.Fun
	for _, f := range list {
		other = append(other, fun(f.Free, slices.Clone(f.List)...))
	}
	return other
}

// twistFuns is list with one thing in it that is another one, which may be no right one.
func (m *dataMaker) twistFuns(list []impl.Fun) []impl.Fun {
	list = clonedFuns(list)
	number := m.pick(len(list))
	f := &list[number]
	if len(f.List) == 0 {
		f.List = []impl.Op{ret()}
	}
	o := &f.List[m.pick(len(f.List))]
	odd := []int{0, 1, 2, -1, 19, 20, 21, 2999, 3000, leastWord, leastWord - 1, greatestWord, greatestWord + 1}
	switch m.pick(10) {
	case 0:
		o.Code = m.pick(24)
	case 1, 2:
		o.N += m.pick(3) - 1
	case 3:
		o.M += m.pick(3) - 1
	case 4:
		o.N = odd[m.pick(len(odd))]
	case 5:
		o.M = odd[m.pick(len(odd))]
	case 6:
		f.Free += m.pick(3) - 1
	case 7:
		f.List = f.List[:m.pick(len(f.List)+1)]
	case 8:
		f.List = append(f.List, op(1+m.pick(21)))
	case 9:
		list = list[:number]
		if number == 0 {
			list = append(list, fun(0, ret()), fun(m.pick(3), op(impl.BcSelf), ret()))
		}
	}
	return list
}

// What is right is named, each Code and each way to be right among it.
func TestFunsRightAreNamed(t *testing.T) {
	m := dataMaker{seed: 13}
	named := map[string]int{}
	for range 3000 {
		list := m.funs()
		if !impl.FunsOk(list) {
			t.Fatalf("FunsOk(%s) = false", shown(list))
		}
		checkFuns(t, list)
		for _, f := range list {
			for _, o := range f.List {
				text := impl.OpText(o)
				if text == "" {
					t.Fatalf("%v is right, and has no name", o)
				}
				named[strings.Fields(text)[0]]++
			}
		}
	}
	for _, word := range codeWords()[1:] {
		if named[word] < 300 {
			t.Errorf("of %s there are too few: %d", word, named[word])
		}
	}
	if len(named) != 21 {
		t.Error("names:", named)
	}
}

func TestFunsOkTwisted(t *testing.T) {
	m := dataMaker{seed: 130}
	count := map[bool]int{}
	for range 8000 {
		list := m.funs()
		for range 1 + m.pick(4) {
			list = m.twistFuns(list)
			count[checkFuns(t, list)]++
		}
	}
	if count[true] < 1000 || count[false] < 5000 {
		t.Error("of some there are too few:", count)
	}
}

func roomyFuns(list []impl.Fun) []impl.Fun {
	room := make([]impl.Fun, 0, len(list)+2)
	for _, f := range list {
		places := append(make([]impl.Op, 0, len(f.List)+3), f.List...)
		_ = append(places, op(88, 88, 88), ret(), op(99))
		room = append(room, fun(f.Free, places...))
	}
	_ = append(room, fun(7, ret()), fun(-9))
	return room
}

func widenedFuns(list []impl.Fun) []impl.Fun {
	var wide []impl.Fun
	for _, f := range list[:cap(list)] {
		wide = append(wide, fun(f.Free, slices.Clone(f.List[:cap(f.List)])...))
	}
	return wide
}

// What stands in the room behind a list does not count, and is not written into.
func TestFunsOkWritesNothing(t *testing.T) {
	m := dataMaker{seed: 131}
	for range 1500 {
		plain := m.funs()
		for range m.pick(3) {
			plain = m.twistFuns(plain)
		}
		list := roomyFuns(plain)
		wide := widenedFuns(list)
		right := impl.FunsOk(list)
		for _, f := range list {
			for _, o := range f.List {
				impl.OpText(o)
			}
		}
		if !reflect.DeepEqual(widenedFuns(list), wide) {
			t.Fatal("functions were written into:", shown(wide))
		}
		if right != impl.FunsOk(plain) || right != rightFuns(plain) {
			t.Fatalf("FunsOk(%s) = %v, but not with room behind", shown(plain), !right)
		}
	}
}

// Functions may share their places, as nothing is written into them.
func TestFunsOkShared(t *testing.T) {
	places := []impl.Op{op(impl.BcSelf), op(impl.BcClos, 1, 2), op(impl.BcFree, 1), op(impl.BcJump, 3), ret()}
	for cut := range len(places) + 1 {
		askFuns(t, "shared places", []impl.Fun{fun(0, ret()), fun(2, places...), fun(2, places[:cut]...), fun(3, places...)}, cut > 3)
		askFuns(t, "shared with the first one", []impl.Fun{fun(0, places[:cut]...), fun(2, places...)}, false)
	}
}

// Nothing is kept from one call to another, and calls beside each other do not meet.
func TestFunsOkKeepsNothing(t *testing.T) {
	m := dataMaker{seed: 132}
	var lists [][]impl.Fun
	var rights []bool
	for range 60 {
		list := m.funs()
		lists = append(lists, list, m.twistFuns(m.twistFuns(list)), nil)
	}
	for _, list := range lists {
		rights = append(rights, rightFuns(list))
	}
	var all sync.WaitGroup
	for range 4 {
		all.Go(func() {
			for range 20 {
				for i, list := range lists {
					if impl.FunsOk(list) != rights[i] {
						t.Errorf("FunsOk(%s) = %v", shown(list), !rights[i])
					}
					for _, f := range list {
						for _, o := range f.List {
							if impl.OpText(o) != opTextOf(o) {
								t.Errorf("OpText(%v) = %q", o, impl.OpText(o))
							}
						}
					}
				}
			}
		})
	}
	all.Wait()
	list := twoFuns(op(impl.BcFree), ret())
	text := impl.OpText(list[1].List[0])
	list[1].List[0] = op(impl.BcFree, 1)
	if impl.FunsOk(list) || text != "free 0 0" {
		t.Error("what was handed in was kept")
	}
	list[1].List[0].N = 0
	if !impl.FunsOk(list) {
		t.Error("an answer was kept")
	}
}

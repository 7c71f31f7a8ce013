package tests

import (
	"bytes"
	"encoding/binary"
	"encoding/hex"
	"math"
	"reflect"
	"slices"
	"strings"
	"sync"
	"testing"

	"loop.example/g00396/impl"
)

const greatestNum = 2147483647

// The second one below knows numbers of bytes by the library. It cuts all of the bytes into numbers first, and asks then
// which functions they tell.

func bytesOfNum(n int) []byte {
	if n < 0 || n > greatestNum {
		return nil
	}
	return binary.AppendUvarint(nil, uint64(n))
}

func numOf(b []byte, at int) (int, int, bool) {
	if at < 0 || at >= len(b) {
		return 0, 0, false
	}
	n, count := binary.Uvarint(b[at:])
	if count < 1 || n > greatestNum || !bytes.Equal(bytesOfNum(int(n)), b[at:at+count]) {
		return 0, 0, false
	}
	return int(n), at + count, true
}

func numsOf(b []byte) ([]int, bool) {
	var nums []int
	for at := 0; at < len(b); {
		n, next, ok := numOf(b, at)
		if !ok {
			return nil, false
		}
		nums, at = append(nums, n), next
	}
	return nums, true
}

func bytesOfNums(nums ...int) []byte {
	var b []byte
	for _, n := range nums {
		b = append(b, bytesOfNum(n)...)
	}
	return b
}

// numsOfFuns are the numbers that tell functions, right or not.
func numsOfFuns(list []impl.Fun) []int {
	nums := []int{len(list)}
	for _, f := range list {
		nums = append(nums, f.Free, len(f.List))
		for _, o := range f.List {
			nums = append(nums, o.Code, o.N-leastWord, o.M)
		}
	}
	return nums
}

// funsOfNums are the functions that are told by numbers, if these are just as many as functions of so many places need.
func funsOfNums(nums []int) ([]impl.Fun, bool) {
	if len(nums) == 0 {
		return nil, false
	}
	count, nums := nums[0], nums[1:]
	var list []impl.Fun
	for len(list) < count {
		if len(nums) < 2 || nums[1] > (len(nums)-2)/3 {
			return nil, false
		}
		f, places := fun(nums[0]), nums[2:2+3*nums[1]]
		nums = nums[2+len(places):]
		for place := range slices.Chunk(places, 3) {
			f.List = append(f.List, op(place[0], place[1]+leastWord, place[2]))
		}
		list = append(list, f)
	}
	return list, len(nums) == 0
}

func bytesOfFuns(list []impl.Fun) []byte {
	if !rightFuns(list) {
		return nil
	}
	return bytesOfNums(numsOfFuns(list)...)
}

func funsOfBytes(b []byte) ([]impl.Fun, bool) {
	nums, ok := numsOf(b)
	if !ok {
		return nil, false
	}
	list, ok := funsOfNums(nums)
	if !ok || !rightFuns(list) {
		return nil, false
	}
	return list, true
}

// bytesOf are told as hex digits, with blanks where one likes.
func bytesOf(t *testing.T, s string) []byte {
	t.Helper()
	b, err := hex.DecodeString(strings.ReplaceAll(s, " ", ""))
	if err != nil {
		t.Fatalf("%q tells no bytes", s)
	}
	return b
}

func bytesText(b []byte) string { return hex.EncodeToString(b) }

func checkPutNum(t *testing.T, n int) {
	t.Helper()
	b, want := impl.PutNum(n), bytesOfNum(n)
	if !bytes.Equal(b, want) {
		t.Fatalf("PutNum(%d) = %x, not %x", n, b, want)
	}
	if len(want) == 0 {
		return
	}
	checkGetNum(t, b, 0)
	if got, next, ok := impl.GetNum(b, 0); got != n || next != len(b) || !ok {
		t.Fatalf("GetNum(%x, 0) = %d, %d, %v, not %d", b, got, next, ok, n)
	}
}

func checkGetNum(t *testing.T, b []byte, at int) bool {
	t.Helper()
	n, next, ok := impl.GetNum(b, at)
	wantN, wantNext, wantOk := numOf(b, at)
	if n != wantN || next != wantNext || ok != wantOk {
		t.Fatalf("GetNum(%s, %d) = %d, %d, %v, not %d, %d, %v", shown(bytesText(b)), at, n, next, ok, wantN, wantNext, wantOk)
	}
	return ok
}

// checkBytes holds FunsBytes against the second one, and reads again what is written (P16).
func checkBytes(t *testing.T, list []impl.Fun) []byte {
	t.Helper()
	b, want := impl.FunsBytes(list), bytesOfFuns(list)
	if !bytes.Equal(b, want) {
		t.Fatalf("FunsBytes(%s) = %s, not %s", shown(funsText(list)), shown(bytesText(b)), shown(bytesText(want)))
	}
	if len(b) > 0 != impl.FunsOk(list) {
		t.Fatalf("FunsBytes(%s) = %s", shown(funsText(list)), shown(bytesText(b)))
	}
	if len(b) > 0 {
		if read, ok := impl.FunsOf(b); !ok || !equalFuns(read, list) {
			t.Fatalf("%s is read as %s, %v", shown(funsText(list)), shown(funsText(read)), ok)
		}
	}
	return b
}

// checkFunsOf holds FunsOf against the second one, and writes again what is read.
func checkFunsOf(t *testing.T, b []byte) bool {
	t.Helper()
	list, ok := impl.FunsOf(b)
	want, wantOk := funsOfBytes(b)
	if ok != wantOk || !equalFuns(list, want) {
		t.Fatalf("FunsOf(%s) = %s, %v, not %s, %v", shown(bytesText(b)), shown(funsText(list)), ok, shown(funsText(want)), wantOk)
	}
	if ok && !bytes.Equal(impl.FunsBytes(list), b) {
		t.Fatalf("%s is read, and written as %s", shown(bytesText(b)), shown(bytesText(impl.FunsBytes(list))))
	}
	return ok
}

func noFunsOf(t *testing.T, what string, b []byte) {
	t.Helper()
	if list, ok := impl.FunsOf(b); ok || len(list) != 0 {
		t.Errorf("%s: FunsOf(%s) = %s, %v", what, shown(bytesText(b)), shown(funsText(list)), ok)
	}
	checkFunsOf(t, b)
}

func TestPutNumEdges(t *testing.T) {
	for n, want := range map[int]string{
		0: "00", 1: "01", 64: "40", 126: "7e", 127: "7f",
		128: "80 01", 129: "81 01", 255: "ff 01", 256: "80 02", 300: "ac 02", 16256: "80 7f", 16382: "fe 7f", 16383: "ff 7f",
		16384: "80 80 01", 16385: "81 80 01", 16512: "80 81 01", 2097151: "ff ff 7f",
		2097152: "80 80 80 01", 2097153: "81 80 80 01", 268435455: "ff ff ff 7f",
		268435456: "80 80 80 80 01", 268435457: "81 80 80 80 01", 1073741823: "ff ff ff ff 03", 1073741824: "80 80 80 80 04", 2147483646: "fe ff ff ff 07", 2147483647: "ff ff ff ff 07",
	} {
		if got := impl.PutNum(n); !bytes.Equal(got, bytesOf(t, want)) {
			t.Errorf("PutNum(%d) = %x, not %s", n, got, want)
		}
		checkPutNum(t, n)
	}
	for _, n := range []int{-1, -2, -127, -128, -129, leastWord, -greatestNum, -2147483648, -1 << 32, math.MinInt, math.MinInt + 1, 2147483648, 2147483649, 1<<32 - 1, 1 << 32, 1<<32 + 5, 1 << 35, 1<<35 + 1, math.MaxInt - 1, math.MaxInt} {
		if got := impl.PutNum(n); len(got) != 0 {
			t.Errorf("PutNum(%d) = %x", n, got)
		}
	}
}

func TestPutNumOfMany(t *testing.T) {
	for n := range 20000 {
		checkPutNum(t, n)
	}
	for _, n := range manyInts() {
		checkPutNum(t, n)
		checkPutNum(t, n&greatestNum)
	}
	for bit := range 7 * 5 {
		for near := -130; near <= 130; near++ {
			checkPutNum(t, 1<<bit+near)
		}
	}
}

// As many bytes as a number needs, and each bit of it where it belongs.
func TestPutNumShortest(t *testing.T) {
	least := 0
	for count := 1; count <= 5; count++ {
		end := 1 << (7 * count)
		for _, n := range []int{least, least + 1, end - 1} {
			if got := impl.PutNum(min(n, greatestNum)); len(got) != count {
				t.Errorf("PutNum(%d) = %x, not %d bytes", n, got, count)
			}
		}
		least = end
	}
	for bit := range 31 {
		b := impl.PutNum(1 << bit)
		for i, c := range b {
			want := 128
			if i == len(b)-1 {
				want = 1 << (bit % 7)
			}
			if int(c) != want {
				t.Errorf("PutNum(1<<%d) = %x", bit, b)
			}
		}
	}
}

func edgeNums() []int {
	return []int{0, 1, 127, 128, 129, 300, 16383, 16384, 2097151, 2097152, 268435455, 268435456, greatestWord, greatestWord + 1, greatestNum - 1, greatestNum}
}

func TestGetNumAtPlaces(t *testing.T) {
	for _, n := range edgeNums() {
		whole := bytesOfNum(n)
		for _, ahead := range []string{"", "00", "7f", "80", "ff", "01 80", "ff ff ff ff ff ff ff", "80 80 80 80 80 80 80 80 80 80 80"} {
			for _, behind := range []string{"", "00", "01", "07", "7f", "80", "ff", "80 00", "00 00 00 00 00 00", "ff ff ff ff ff ff"} {
				first := bytesOf(t, ahead)
				b := slices.Concat(first, whole, bytesOf(t, behind))
				got, next, ok := impl.GetNum(b, len(first))
				if got != n || next != len(first)+len(whole) || !ok {
					t.Errorf("GetNum(%x, %d) = %d, %d, %v, not %d", b, len(first), got, next, ok, n)
				}
				for at := -3; at < len(b)+4; at++ {
					checkGetNum(t, b, at)
				}
			}
		}
	}
}

// Numbers one behind the other are gone through from each one to the next one.
func TestGetNumOneByOne(t *testing.T) {
	nums := append(edgeNums(), edgeNums()...)
	slices.Reverse(nums[:9])
	b := bytesOfNums(nums...)
	at := 0
	for _, n := range nums {
		got, next, ok := impl.GetNum(b, at)
		if got != n || next != at+len(bytesOfNum(n)) || !ok {
			t.Fatalf("GetNum(%x, %d) = %d, %d, %v, not %d", b, at, got, next, ok, n)
		}
		at = next
	}
	if _, _, ok := impl.GetNum(b, at); ok || at != len(b) {
		t.Error("a number behind all:", at)
	}
}

func noNum(t *testing.T, what string, b []byte, at int) {
	t.Helper()
	if n, next, ok := impl.GetNum(b, at); n != 0 || next != 0 || ok {
		t.Errorf("%s: GetNum(%s, %d) = %d, %d, %v", what, shown(bytesText(b)), at, n, next, ok)
	}
	checkGetNum(t, b, at)
}

func TestGetNumOfNoPlace(t *testing.T) {
	for _, at := range []int{math.MinInt, math.MinInt + 1, -1 << 32, -4, -3, -2, -1, 3, 4, 5, 100, 1<<32 + 1, math.MaxInt - 1, math.MaxInt} {
		noNum(t, "no place", []byte{1, 2, 3}, at)
		noNum(t, "no place, with room behind", append(make([]byte, 0, 200), 1, 2, 3), at)
		noNum(t, "no place, and more in the last byte", []byte{1, 2, 131}, at)
	}
	for _, at := range []int{math.MinInt, -1, 0, 1, math.MaxInt} {
		noNum(t, "no byte", nil, at)
		noNum(t, "no byte", []byte{}, at)
		noNum(t, "room alone", make([]byte, 0, 9), at)
	}
}

func TestGetNumRefuses(t *testing.T) {
	for what, rows := range map[string][]string{
		"ends in the midst":    {"80", "81", "ff", "80 80", "ff ff", "80 80 80", "ff ff ff", "80 80 80 80", "ff ff ff ff", "80 80 80 80 80", "ff ff ff ff ff", "87 87 87 87 87"},
		"not the shortest":     {"80 00", "81 00", "ff 00", "80 80 00", "ff ff 00", "81 80 00", "80 81 00", "80 80 80 00", "ff ff ff 00", "80 80 80 80 00", "ff ff ff ff 00", "80 00 01", "ff 00 ff"},
		"too great by the 5th": {"80 80 80 80 08", "ff ff ff ff 08", "ff ff ff ff 0f", "80 80 80 80 10", "80 80 80 80 7f", "ff ff ff ff 7f", "80 80 80 80 40"},
		"too great by a 6th":   {"80 80 80 80 80 01", "ff ff ff ff 87 01", "ff ff ff ff ff 7f", "80 80 80 80 84 01", "81 80 80 80 80 01", "80 80 80 80 88 07"},
		"too long by a nought": {"80 80 80 80 80 00", "ff ff ff ff 87 00", "81 80 80 80 80 00", "80 80 80 80 81 00", "80 80 80 80 80 80 00", "ff ff ff ff ff ff 00"},
		"much too great":       {"80 80 80 80 80 80 01", "80 80 80 80 80 80 80 01", "80 80 80 80 80 80 80 80 01", "80 80 80 80 80 80 80 80 80 01", "80 80 80 80 80 80 80 80 80 02", "80 80 80 80 80 80 80 80 80 80 01", "81 80 80 80 80 80 80 80 80 80 80 80 01", "ff ff ff ff ff ff ff ff ff 01", "ff ff ff ff ff ff ff ff 7f"},
	} {
		for _, row := range rows {
			b := bytesOf(t, row)
			noNum(t, what, b, 0)
			noNum(t, what+", behind others", append([]byte{5, 128}, b...), 2)
			if what != "ends in the midst" {
				noNum(t, what+", with more behind", append(slices.Clone(b), 1, 0), 0)
			}
			room := append(make([]byte, 0, len(b)+3), b...)
			_ = append(room, 1, 1, 1)
			noNum(t, what+", with room behind", room, 0)
		}
	}
	for count := 1; count < 200; count++ {
		for _, last := range []byte{0, 1, 7, 127} {
			b := append(bytes.Repeat([]byte{128}, count), last)
			if count > 4 {
				noNum(t, "far too long", b, 0)
			}
			checkGetNum(t, b, 0)
		}
	}
}

func TestGetNumFifthByte(t *testing.T) {
	for c := range 256 {
		for _, ahead := range []string{"80 80 80 80", "ff ff ff ff", "81 80 80 80", "80 80 80 81"} {
			b := append(bytesOf(t, ahead), byte(c))
			if ok := checkGetNum(t, b, 0); ok != (1 <= c && c <= 7) {
				t.Errorf("GetNum(%x, 0) is %v", b, ok)
			}
			for sixth := range 256 {
				b := append(b, byte(sixth))
				if ok := checkGetNum(t, b, 0); ok != (1 <= c && c <= 7) {
					t.Errorf("GetNum(%x, 0) is %v", b, ok)
				}
			}
		}
	}
}

// All bytes of one and two, and all of six out of a few, at each place.
func TestGetNumSmall(t *testing.T) {
	count := map[bool]int{}
	for first := range 256 {
		count[checkGetNum(t, []byte{byte(first)}, 0)]++
		for second := range 256 {
			count[checkGetNum(t, []byte{byte(first), byte(second)}, 0)]++
		}
	}
	some := []byte{0, 1, 7, 8, 127, 128, 129, 255}
	b := make([]byte, 6)
	var fill func(at int)
	fill = func(at int) {
		for place := -1; at == len(b) && place <= len(b); place++ {
			count[checkGetNum(t, b, place)]++
		}
		for _, c := range some {
			if at < len(b) {
				b[at] = c
				fill(at + 1)
			}
		}
	}
	fill(0)
	if count[true] < 100000 || count[false] < 100000 {
		t.Error("of some there are too few:", count)
	}
}

func TestFunsBytesEachOp(t *testing.T) {
	const nought = 1073741824 // of an N that is 0
	for s, want := range map[string][]int{
		"0 num 5; ret":                                        {1, 0, 2, 1, nought + 5, 0, 7, nought, 0},
		"0 num -1; ret":                                       {1, 0, 2, 1, nought - 1, 0, 7, nought, 0},
		"0 num -1073741824; ret":                              {1, 0, 2, 1, 0, 0, 7, nought, 0},
		"0 num 1073741823; ret":                               {1, 0, 2, 1, 2147483647, 0, 7, nought, 0},
		"0 isnum -1073741824 1; fail":                         {1, 0, 2, 11, 0, 1, 21, nought, 0},
		"0 isnum 1073741823 0; fail":                          {1, 0, 2, 11, 2147483647, 0, 21, nought, 0},
		"0 local 2999; jump 1":                                {1, 0, 2, 2, nought + 2999, 0, 19, nought + 1, 0},
		"0 con 19 20; ret":                                    {1, 0, 2, 8, nought + 19, 20, 7, nought, 0},
		"0 field 3; iscon 4 1; zero 2; ret":                   {1, 0, 4, 9, nought + 3, 0, 10, nought + 4, 1, 18, nought + 2, 0, 7, nought, 0},
		"0 call; add; sub; mul; less; same; put; slide; fail": {1, 0, 9, 6, nought, 0, 12, nought, 0, 13, nought, 0, 14, nought, 0, 15, nought, 0, 16, nought, 0, 17, nought, 0, 20, nought, 0, 21, nought, 0},
		"0 clos 1 2; ret | 2 free 1; self; ret":               {2, 0, 2, 5, nought + 1, 2, 7, nought, 0, 2, 3, 3, nought + 1, 0, 4, nought, 0, 7, nought, 0},
		"0 ret | 20 ret | 3 fail":                             {3, 0, 1, 7, nought, 0, 20, 1, 7, nought, 0, 3, 1, 21, nought, 0},
	} {
		list := funs(t, s)
		b := checkBytes(t, list)
		if !bytes.Equal(b, bytesOfNums(want...)) {
			t.Errorf("FunsBytes(%s) = %x, not %v", s, b, want)
		}
		checkFunsOf(t, b)
	}
	for s, want := range map[string]string{
		"0 ret":         "01 00 01 07 80 80 80 80 04 00",
		"0 num -1; ret": "01 00 02 01 ff ff ff ff 03 00 07 80 80 80 80 04 00",
		"0 clos 1 1; ret | 1 isnum -1073741824 1; fail": "02 00 02 05 81 80 80 80 04 01 07 80 80 80 80 04 00 01 02 0b 00 01 15 80 80 80 80 04 00",
		"0 num 1073741823; jump 0":                      "01 00 02 01 ff ff ff ff 07 00 13 80 80 80 80 04 00",
	} {
		if b := impl.FunsBytes(funs(t, s)); !bytes.Equal(b, bytesOf(t, want)) {
			t.Errorf("FunsBytes(%s) = %x, not %s", s, b, want)
		}
		if list, ok := impl.FunsOf(bytesOf(t, want)); !ok || !equalFuns(list, funs(t, s)) {
			t.Errorf("FunsOf(%s) = %s, %v, not %s", want, funsText(list), ok, s)
		}
	}
}

func wrongFuns(t *testing.T) [][]impl.Fun {
	t.Helper()
	full := slices.Repeat([]impl.Op{ret()}, impl.MaxPlaces+1)
	lists := [][]impl.Fun{nil, {}, make([]impl.Fun, 1), make([]impl.Fun, 3), make([]impl.Fun, 0, 5), {fun(0, full...)}, {fun(0, ret()), fun(0, full...)}, slices.Repeat([]impl.Fun{fun(0, ret())}, impl.MaxBlocks+1)}
	for _, s := range []string{
		"0", "1 ret", "-1 ret", "0 num 5", "0 none; ret", "0 free 0; ret", "0 self; ret", "0 clos 0 0; ret", "0 clos 1 0; ret", "0 local -1; ret", "0 local 3000; ret", "0 con 20 0; ret", "0 con 0 21; ret", "0 con 0 -1; ret", "0 field 20; ret", "0 iscon 0 2; ret", "0 iscon -1 0; ret", "0 isnum 0 -1; ret",
		"0 num 1073741824; ret", "0 num -1073741825; ret", "0 isnum 1073741824 0; ret", "0 zero 2; ret", "0 jump 2; ret", "0 jump -1", "0 ret 1", "0 ret 0 1", "0 add 1; ret", "0 ret | 0", "0 | 0 ret", "0 ret | 21 ret", "0 ret | -1 ret", "0 ret | 1 free 1; ret", "0 ret | 0 num 1", "0 clos 1 1; ret | 0 ret", "0 clos 1 0; ret | 1 ret", "0 ret | 0 ret | 0 none; ret",
	} {
		lists = append(lists, funs(t, s))
	}
	return lists
}

func TestFunsBytesOfNoFuns(t *testing.T) {
	for _, list := range wrongFuns(t) {
		if b := checkBytes(t, list); len(b) != 0 {
			t.Errorf("FunsBytes(%s) = %s", shown(funsText(list)), shown(bytesText(b)))
		}
	}
	for _, code := range []int{0, 22, -1, 128 + impl.BcRet, 256 + impl.BcRet, 1<<32 + impl.BcRet, math.MinInt, math.MaxInt} {
		if b := checkBytes(t, []impl.Fun{fun(0, op(code), ret())}); len(b) != 0 {
			t.Errorf("FunsBytes of Code %d is %x", code, b)
		}
	}
	if len(impl.FunsBytes(slices.Repeat([]impl.Fun{fun(0, ret())}, 100000))) != 0 {
		t.Error("far too many functions are written")
	}
}

// Functions that are not FunsOk are not read, though their numbers are there.
func TestFunsOfNotFunsOk(t *testing.T) {
	read := 0
	for _, list := range wrongFuns(t) {
		nums := numsOfFuns(list)
		if slices.Min(nums) >= 0 && slices.Max(nums) <= greatestNum {
			noFunsOf(t, "what is not FunsOk", bytesOfNums(nums...))
			read++
		}
	}
	if read < 30 {
		t.Error("too few are not FunsOk:", read)
	}
	for _, nums := range [][]int{
		{0}, {0, 0}, {0, 0, 1, 7, 1073741824, 0}, {1}, {1, 0}, {1, 0, 0}, {1, 0, 1}, {1, 0, 1, 7}, {1, 0, 1, 7, 1073741824}, {2, 0, 1, 7, 1073741824, 0}, {1, 0, 2, 7, 1073741824, 0}, {1, 0, 1, 7, 1073741824, 0, 0},
		{1, 1, 1, 7, 1073741824, 0}, {1, greatestNum, 1, 7, 1073741824, 0}, {1, 0, 1, 0, 1073741824, 0}, {1, 0, 1, 22, 1073741824, 0}, {1, 0, 1, greatestNum, 1073741824, 0}, {1, 0, 1, 7, 0, 0}, {1, 0, 1, 7, 1073741825, 0}, {1, 0, 1, 7, greatestNum, 0}, {1, 0, 1, 7, 1073741824, 1}, {1, 0, 1, 7, 1073741824, greatestNum},
		{2, 0, 1, 7, 1073741824, 0, 21, 1, 7, 1073741824, 0}, {2, 0, 1, 7, 1073741824, 0, 0, 0}, {3, 0, 1, 7, 1073741824, 0, 0, 1, 7, 1073741824, 0},
	} {
		noFunsOf(t, "no functions", bytesOfNums(nums...))
	}
}

func TestFunsOfCounts(t *testing.T) {
	one := []int{0, 1, 7, 1073741824, 0}
	for _, count := range append(edgeNums(), 2, 3, 59, 60, 61, impl.MaxPlaces, impl.MaxPlaces+1) {
		for follow := range 4 {
			nums := append([]int{count}, slices.Repeat(one, follow)...)
			b := bytesOfNums(nums...)
			if ok := checkFunsOf(t, b); ok != (count == follow && count > 0) {
				t.Errorf("%d functions, of which %d follow: %v", count, follow, ok)
			}
			nums = append([]int{1, 0, count}, slices.Repeat(one[2:], follow)...)
			b = bytesOfNums(nums...)
			if ok := checkFunsOf(t, b); ok != (count == follow && count > 0) {
				t.Errorf("%d places, of which %d follow: %v", count, follow, ok)
			}
			nums = append([]int{2, 0, 1, 7, 1073741824, 0, 3, count}, slices.Repeat(one[2:], follow)...)
			checkFunsOf(t, bytesOfNums(nums...))
		}
	}
	for count := range impl.MaxBlocks + 5 {
		b := bytesOfNums(append([]int{count}, slices.Repeat(one, count)...)...)
		if ok := checkFunsOf(t, b); ok != (1 <= count && count <= 60) {
			t.Errorf("%d functions are read: %v", count, ok)
		}
	}
	for _, count := range []int{0, 1, 2, 127, 128, impl.MaxPlaces - 1, impl.MaxPlaces, impl.MaxPlaces + 1, 16384} {
		for _, ahead := range [][]int{{1, 0}, {2, 0, 1, 7, 1073741824, 0, 20}} {
			b := bytesOfNums(slices.Concat(ahead, []int{count}, slices.Repeat(one[2:], count))...)
			if ok := checkFunsOf(t, b); ok != (1 <= count && count <= 3000) {
				t.Errorf("%d places are read: %v", count, ok)
			}
		}
	}
}

// What ends too early, wherever that is, or has a byte too many is none.
func TestFunsOfTooFewAndTooMany(t *testing.T) {
	noFunsOf(t, "no byte", nil)
	noFunsOf(t, "no byte", []byte{})
	noFunsOf(t, "room alone", make([]byte, 0, 40))
	for c := range 256 {
		noFunsOf(t, "one byte", []byte{byte(c)})
	}
	for _, s := range []string{
		"0 ret", "0 num -1; ret", "0 clos 1 2; ret | 2 free 1; self; ret", "0 num 300; iscon 4 1; jump 0 | 20 free 19; zero 0; fail", "0 con 1 2; local 2999; isnum -1073741824 0; ret | 0 ret | 7 fail",
	} {
		b := impl.FunsBytes(funs(t, s))
		if !checkFunsOf(t, b) {
			t.Fatalf("%s is not read", s)
		}
		for cut := range b {
			noFunsOf(t, "cut at the end", b[:cut:cut])
			noFunsOf(t, "cut at the end, with room behind", b[:cut])
			if cut > 0 {
				noFunsOf(t, "cut at the beginning", b[cut:])
			}
			// Without a byte in its midst a number may be another one.
			checkFunsOf(t, slices.Concat(b[:cut], b[cut+1:]))
		}
		for c := range 256 {
			noFunsOf(t, "a byte too many", append(slices.Clone(b), byte(c)))
		}
		noFunsOf(t, "twice", append(slices.Clone(b), b...))
		noFunsOf(t, "much behind", append(slices.Clone(b), make([]byte, 5000)...))
	}
}

// longerNum is what is the same number, but not the shortest, by so many noughts.
func longerNum(n, more int) []byte {
	b := bytesOfNum(n)
	b[len(b)-1] |= 128
	return append(append(b, bytes.Repeat([]byte{128}, more-1)...), 0)
}

func TestFunsOfNotTheShortest(t *testing.T) {
	for _, s := range []string{"0 ret", "0 num -1; ret", "0 num -1073741824; ret", "0 clos 1 2; ret | 2 free 1; iscon 19 2; ret", "0 isnum 1073741823 0; fail | 20 jump 0"} {
		nums := numsOfFuns(funs(t, s))
		for i, n := range nums {
			for more := 1; more < 8; more++ {
				b := slices.Concat(bytesOfNums(nums[:i]...), longerNum(n, more), bytesOfNums(nums[i+1:]...))
				noFunsOf(t, "not the shortest", b)
			}
			for _, far := range []int{1 << 31, 1<<31 + n, 1<<32 + n, 1<<35 + n, 1<<42 + n} {
				b := slices.Concat(bytesOfNums(nums[:i]...), binary.AppendUvarint(nil, uint64(far)), bytesOfNums(nums[i+1:]...))
				noFunsOf(t, "beyond all numbers", b)
			}
			for _, other := range append(edgeNums(), n-1, n+1, n+2) {
				if other >= 0 {
					checkFunsOf(t, slices.Concat(bytesOfNums(nums[:i]...), bytesOfNum(other), bytesOfNums(nums[i+1:]...)))
				}
			}
		}
	}
}

// Each field is read as it was: an op of each Code, with each number that may stand there.
func TestBytesEachField(t *testing.T) {
	for _, code := range allCodes() {
		for n := -3; n < 25; n++ {
			for m := -1; m < 23; m++ {
				checkBytes(t, twoFuns(op(code, n, m), ret(), ret()))
			}
		}
	}
	for _, n := range manyInts() {
		for _, o := range []impl.Op{op(impl.BcNum, n), op(impl.BcIsNum, n, 1), op(impl.BcLocal, n), op(impl.BcNum, impl.Round(n)), op(impl.BcIsNum, impl.Round(n), 2), op(impl.BcLocal, n&4095), op(impl.BcJump, n), op(n)} {
			checkBytes(t, []impl.Fun{fun(0, o, op(impl.BcNum, 1), ret())})
		}
	}
	for free := -2; free < impl.MaxKids+3; free++ {
		checkBytes(t, []impl.Fun{fun(free, ret())})
		checkBytes(t, []impl.Fun{fun(0, ret()), fun(free, op(impl.BcFree, free-1), ret()), fun(20, ret())})
		checkBytes(t, []impl.Fun{fun(0, op(impl.BcClos, 1, free), ret()), fun(free, ret())})
	}
}

func TestBytesAtMost(t *testing.T) {
	places := slices.Repeat([]impl.Op{op(impl.BcNum, leastWord), op(impl.BcIsNum, greatestWord, impl.MaxPlaces-1), op(impl.BcLocal, impl.MaxPlaces-1)}, impl.MaxPlaces/3)
	places[impl.MaxPlaces-1] = op(impl.BcJump, impl.MaxPlaces-1)
	places[impl.MaxPlaces-2] = op(impl.BcZero, impl.MaxPlaces-1)
	list := slices.Repeat([]impl.Fun{fun(impl.MaxKids, places...)}, impl.MaxBlocks)
	list[0].Free = 0
	if b := checkBytes(t, list); len(b) == 0 {
		t.Error("the most functions of the most places are not written")
	}
	for _, count := range []int{1, 2, 127, 128, 129, impl.MaxPlaces - 1, impl.MaxPlaces} {
		for _, blocks := range []int{1, 2, impl.MaxBlocks} {
			f := fun(0, slices.Repeat([]impl.Op{ret()}, count)...)
			if b := checkBytes(t, slices.Repeat([]impl.Fun{f}, blocks)); len(b) == 0 {
				t.Errorf("%d functions of %d places are not written", blocks, count)
			}
		}
	}
}

// Functions are read as they were: made ones, and such as are verified.
func TestBytesOfMany(t *testing.T) {
	m := dataMaker{seed: 16}
	used := map[int]int{}
	below := 0
	for range 3000 {
		list := m.funs()
		if m.pick(3) == 0 {
			list, _ = m.verified()
		}
		b := checkBytes(t, list)
		if len(b) == 0 || !checkFunsOf(t, b) {
			t.Fatalf("FunsBytes(%s) is nothing", shown(funsText(list)))
		}
		for _, f := range list {
			for _, o := range f.List {
				used[o.Code]++
				below += truth(o.N < 0)
			}
		}
	}
	for _, code := range allCodes() {
		if used[code] < 300 {
			t.Errorf("of %s there are too few: %d", codeWords()[code], used[code])
		}
	}
	if below < 1000 {
		t.Error("too few are below 0:", below)
	}
}

// What is right has bytes of its own; what is wrong has none.
func TestBytesTwisted(t *testing.T) {
	m := dataMaker{seed: 160}
	count := map[bool]int{}
	known := map[string]string{}
	for range 6000 {
		list := m.funs()
		for range 1 + m.pick(3) {
			list = m.twistFuns(list)
			b := checkBytes(t, list)
			count[len(b) > 0]++
			if len(b) == 0 {
				continue
			}
			if text, met := known[string(b)]; met && text != funsText(list) {
				t.Fatalf("%s and %s are both %s", shown(text), shown(funsText(list)), shown(bytesText(b)))
			}
			known[string(b)] = funsText(list)
		}
	}
	if count[true] < 1000 || count[false] < 3000 {
		t.Error("of some there are too few:", count)
	}
}

// twistBytes is b with one byte that is another one, is no more, or is there as well.
func (m *dataMaker) twistBytes(b []byte) []byte {
	at := m.pick(len(b))
	switch m.pick(6) {
	case 0:
		return slices.Concat(b[:at], b[at+1:])
	case 1:
		return slices.Concat(b[:at], []byte{byte(m.pick(256))}, b[at:])
	case 2:
		other := slices.Clone(b)
		other[at] = byte(m.pick(256))
		return other
	case 3:
		other := slices.Clone(b)
		other[at] ^= 1 << m.pick(8)
		return other
	case 4:
		return slices.Concat(b[:at], []byte{128, 0}[m.pick(2):], b[at:])
	}
	other := slices.Clone(b)
	other[at] += byte(m.pick(3) - 1)
	return other
}

func TestFunsOfTwistedBytes(t *testing.T) {
	m := dataMaker{seed: 161}
	count := map[bool]int{}
	for range 6000 {
		b := impl.FunsBytes(m.funs())
		for range 1 + m.pick(4) {
			if b = m.twistBytes(b); len(b) == 0 {
				break
			}
			count[checkFunsOf(t, b)]++
		}
	}
	if count[true] < 500 || count[false] < 5000 {
		t.Error("of some there are too few:", count)
	}
}

// Each byte of a few functions, with each value that it may have.
func TestFunsOfEachByte(t *testing.T) {
	count := map[bool]int{}
	for _, s := range []string{"0 ret", "0 num -1; ret", "0 clos 1 2; ret | 2 free 1; iscon 19 2; isnum 300 0; ret", "0 zero 2; local 128; jump 1 | 20 free 19; con 1 20; fail"} {
		b := impl.FunsBytes(funs(t, s))
		for at := range b {
			for c := range 256 {
				other := slices.Clone(b)
				other[at] = byte(c)
				count[checkFunsOf(t, other)]++
			}
		}
	}
	if count[true] < 500 || count[false] < 10000 {
		t.Error("of some there are too few:", count)
	}
}

// Any few bytes, most of which are no functions.
func TestFunsOfAnyBytes(t *testing.T) {
	m := dataMaker{seed: 162}
	some := []int{0, 1, 2, 7, 21, 127, 128, 129, 255}
	for range 20000 {
		b := make([]byte, m.pick(24))
		for i := range b {
			b[i] = byte(some[m.pick(len(some))])
		}
		checkFunsOf(t, b)
	}
	count := map[bool]int{}
	for range 20000 {
		nums := []int{1, 0, 1 + m.pick(3)}
		for range nums[2] {
			nums = append(nums, []int{1, 7, 21, m.pick(23)}[m.pick(4)], 1073741824+max(m.pick(5)-3, -1), max(m.pick(5)-3, 0))
		}
		if m.pick(4) == 0 {
			nums = append(nums, m.pick(8))
		}
		count[checkFunsOf(t, bytesOfNums(nums...))]++
	}
	if count[true] < 500 || count[false] < 5000 {
		t.Error("of some there are too few:", count)
	}
}

func TestBytesOfMadeOfBlocks(t *testing.T) {
	m := dataMaker{seed: 163}
	for range 1500 {
		made, ok := impl.Gen(m.blocks(2 + m.pick(4)))
		if !ok || len(checkBytes(t, made)) == 0 {
			t.Fatalf("made of blocks, and not written: %s", shown(funsText(made)))
		}
	}
	for _, s := range append(fewPrograms(),
		"0", "-1073741824", "(put -1)",
		"(define (map f l) (if (pair? l) (cons (f (car l)) (map f (cdr l))) l)) (define (add n) (lambda (x) (+ n x))) (map (add 3) (quote (1 2 -3)))",
		"(define (even n) (letrec ((odd (lambda (m) (if m (even (- m 1)) 0)))) (if n (odd (- n 1)) 1))) (cons (even 10) (even 7))",
	) {
		c, _, code := impl.Expand(s)
		list, ok := impl.Close(c)
		if code != impl.ExDone || !ok {
			t.Fatalf("%q is told %d, %v", s, code, ok)
		}
		made, ok := impl.Gen(list)
		if !ok || len(checkBytes(t, made)) == 0 {
			t.Fatalf("%q is not written: %s", s, shown(funsText(made)))
		}
		read, ok := impl.FunsOf(impl.FunsBytes(made))
		if !ok || !impl.Verify(read) {
			t.Fatalf("%q is read, and not verified: %s", s, shown(funsText(read)))
		}
	}
}

func TestNumsAreNew(t *testing.T) {
	for _, n := range edgeNums() {
		first, second := impl.PutNum(n), impl.PutNum(n)
		for i := range first[:cap(first)] {
			first[:cap(first)][i] = 77
		}
		if want := bytesOfNum(n); !bytes.Equal(second, want) || !bytes.Equal(impl.PutNum(n), want) {
			t.Errorf("PutNum(%d) is another one after one was written into", n)
		}
	}
}

func TestFunsBytesIsNew(t *testing.T) {
	m := dataMaker{seed: 164}
	for range 300 {
		list := m.funs()
		want := bytesOfFuns(list)
		first, second := impl.FunsBytes(list), impl.FunsBytes(list)
		for i := range first[:cap(first)] {
			first[:cap(first)][i] = 77
		}
		if !bytes.Equal(second, want) || !bytes.Equal(impl.FunsBytes(list), want) {
			t.Fatalf("FunsBytes(%s) is another one after one was written into", shown(funsText(list)))
		}
		for i := range list {
			for j := range list[i].List {
				list[i].List[j] = op(77, 88, 99)
			}
		}
		if !bytes.Equal(second, want) {
			t.Fatalf("%s was kept", shown(bytesText(want)))
		}
	}
}

func TestFunsOfIsNew(t *testing.T) {
	m := dataMaker{seed: 165}
	for range 300 {
		list := m.funs()
		b := bytesOfFuns(list)
		var places []*int
		for range 3 {
			read, ok := impl.FunsOf(b)
			if !ok || !equalFuns(read, list) {
				t.Fatalf("FunsOf(%s) = %s, %v after one was written into", shown(bytesText(b)), shown(funsText(read)), ok)
			}
			for i := range read {
				places = append(places, &read[i].Free)
				all := read[i].List[:cap(read[i].List)]
				for j := range all {
					places = append(places, &all[j].Code, &all[j].N, &all[j].M)
				}
			}
			if !allApart(places) {
				t.Fatalf("lists of what is read of %s share memory", shown(bytesText(b)))
			}
			for i := range read[:cap(read)] {
				read[:cap(read)][i] = fun(-99)
			}
		}
		read, _ := impl.FunsOf(b)
		for i := range b {
			b[i] = 255
		}
		if !equalFuns(read, list) {
			t.Fatalf("%s became %s when its bytes were written into", shown(funsText(list)), shown(funsText(read)))
		}
	}
}

// roomyBytes has bytes in the room behind it that would go on with what ends too early.
func roomyBytes(b []byte) []byte {
	room := append(make([]byte, 0, len(b)+6), b...)
	_ = append(room, 1, 128, 7, 0, 255, 1)
	return room
}

// What stands in the room behind a list does not count, and is not written into.
func TestBytesWriteNothing(t *testing.T) {
	m := dataMaker{seed: 166}
	for range 1500 {
		plain := m.funs()
		for range m.pick(3) {
			plain = m.twistFuns(plain)
		}
		list := roomyFuns(plain)
		wide := widenedFuns(list)
		b := impl.FunsBytes(list)
		if !reflect.DeepEqual(widenedFuns(list), wide) {
			t.Fatal("functions were written into:", shown(wide))
		}
		if !bytes.Equal(b, impl.FunsBytes(plain)) {
			t.Fatalf("FunsBytes(%s) is another one with room behind", shown(funsText(plain)))
		}
	}
	for range 1500 {
		plain := impl.FunsBytes(m.funs())
		for range m.pick(3) {
			plain = append(m.twistBytes(plain), byte(m.pick(3)))
		}
		b := roomyBytes(plain)
		wide := slices.Clone(b[:cap(b)])
		checkFunsOf(t, b)
		for at := -1; at <= len(b); at++ {
			checkGetNum(t, b, at)
		}
		read, ok := impl.FunsOf(b)
		if want, wantOk := impl.FunsOf(plain); ok != wantOk || !equalFuns(read, want) {
			t.Fatalf("FunsOf(%s) is another one with room behind", shown(bytesText(plain)))
		}
		if !bytes.Equal(b[:cap(b)], wide) {
			t.Fatal("bytes were written into:", shown(bytesText(wide)))
		}
	}
}

// Functions may share their places, as nothing is written into them; what is read of them shares none.
func TestBytesShared(t *testing.T) {
	places := []impl.Op{op(impl.BcNum, -7), op(impl.BcJump, 2), ret()}
	list := []impl.Fun{fun(0, places...), fun(0, places...), fun(3, places...), fun(0, places[2:]...)}
	list[1].List, list[2].List = places, places
	read, ok := impl.FunsOf(checkBytes(t, list))
	if !ok || !equalFuns(read, list) {
		t.Fatal("what is shared is not read:", funsText(read), ok)
	}
	read[1].List[0] = op(impl.BcFail)
	read[2].Free = 9
	if !equalFuns(list, funs(t, "0 num -7; jump 2; ret | 0 num -7; jump 2; ret | 3 num -7; jump 2; ret | 0 ret")) || read[2].List[0].Code == impl.BcFail {
		t.Error("what is read shares memory")
	}
}

// Nothing is kept from one call to another, and calls beside each other do not meet.
func TestBytesKeepNothing(t *testing.T) {
	m := dataMaker{seed: 167}
	var all [][]byte
	for range 40 {
		b := impl.FunsBytes(m.funs())
		all = append(all, b, m.twistBytes(b), nil)
	}
	var wants [][]impl.Fun
	var rights []bool
	for _, b := range all {
		want, right := funsOfBytes(b)
		wants, rights = append(wants, want), append(rights, right)
	}
	var together sync.WaitGroup
	for range 4 {
		together.Go(func() {
			for range 20 {
				for i, b := range all {
					read, ok := impl.FunsOf(b)
					if ok != rights[i] || !equalFuns(read, wants[i]) || ok && !bytes.Equal(impl.FunsBytes(read), b) {
						t.Errorf("FunsOf(%s) = %s, %v", shown(bytesText(b)), shown(funsText(read)), ok)
					}
					n, next, ok := impl.GetNum(b, i%8)
					if wantN, wantNext, wantOk := numOf(b, i%8); n != wantN || next != wantNext || ok != wantOk {
						t.Errorf("GetNum(%s, %d) = %d, %d, %v", shown(bytesText(b)), i%8, n, next, ok)
					}
				}
			}
		})
	}
	together.Wait()
	b := impl.PutNum(300)
	b[0] = 173
	if n, _, _ := impl.GetNum(b, 0); n != 301 {
		t.Error("bytes were kept:", n)
	}
}

// Counts without end, and bytes without number, do not make it slow, nor is there made what is refused.
func TestBytesAreNotSlow(t *testing.T) {
	for _, head := range [][]int{{greatestNum}, {61}, {60}, {1, 0, greatestNum}, {1, 0, 3001}, {1, 0, 3000}, {60, greatestNum, greatestNum}, {0}} {
		for _, c := range []byte{0, 1, 127, 128, 255} {
			b := append(bytesOfNums(head...), bytes.Repeat([]byte{c}, 10000000)...)
			if list, ok := impl.FunsOf(b); ok || len(list) != 0 {
				t.Errorf("%v, and %d without end, is read", head, c)
			}
			for at := range 100 {
				checkGetNum(t, b[:1000], at)
			}
			if _, _, ok := impl.GetNum(b, len(b)/2); ok != (c < 128) {
				t.Errorf("%d without end is a number: %v", c, ok)
			}
		}
	}
	full := slices.Repeat([]impl.Fun{fun(0, slices.Repeat([]impl.Op{ret()}, impl.MaxPlaces)...)}, impl.MaxBlocks)
	for range 10 {
		if list, ok := impl.FunsOf(impl.FunsBytes(full)); !ok || impl.Places(list) != 180000 {
			t.Fatal("the most places are not read")
		}
	}
}

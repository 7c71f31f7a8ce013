package tests

import (
	"math"
	"math/big"
	"slices"
	"strconv"
	"strings"
	"sync"
	"testing"

	"loop.example/g00396/impl"
)

// heapBlock is a block as it is seen: its kids are words.
type heapBlock struct {
	fun  bool
	tag  int
	kids []int
}

func heapCon(tag int, kids ...int) heapBlock { return heapBlock{tag: tag, kids: kids} }

func heapFun(tag int, kids ...int) heapBlock { return heapBlock{fun: true, tag: tag, kids: kids} }

// words are those of a block, by sums of this file alone.
func (b heapBlock) words() []int {
	header := 1 + 4*(64*b.tag+len(b.kids))
	if b.fun {
		header += 2
	}
	return append([]int{header}, b.kids...)
}

func equalBlock(a, b heapBlock) bool {
	return a.fun == b.fun && a.tag == b.tag && slices.Equal(a.kids, b.kids)
}

type heapHead struct {
	fun       bool
	tag, kids int
}

// heads tell of each word that is right as a header what it says. The second one below looks headers up in them, and does
// not take them apart.
var heads = sync.OnceValue(func() map[int]heapHead {
	known := map[int]heapHead{}
	for tag := range 3001 {
		for kids := range 21 {
			none := make([]int, kids)
			known[heapCon(tag, none...).words()[0]] = heapHead{false, tag, kids}
			known[heapFun(tag, none...).words()[0]] = heapHead{true, tag, kids}
		}
	}
	return known
})

// blocksOfWords cuts words into blocks, by the place of each one from a base on.
func blocksOfWords(words []int, base int) (map[int]heapBlock, bool) {
	blocks := map[int]heapBlock{}
	for at := 0; at < len(words); {
		head, known := heads()[words[at]]
		if !known || head.kids > len(words)-at-1 {
			return nil, false
		}
		blocks[base+at] = heapBlock{head.fun, head.tag, words[at+1 : at+1+head.kids]}
		at += 1 + head.kids
	}
	return blocks, true
}

func rightKid(blocks map[int]heapBlock, w int) bool {
	if w&1 == 0 {
		_, there := blocks[w/2]
		return there
	}
	return 2*leastWord+1 <= w && w <= 2*greatestWord+1
}

// rightHeap are the blocks of a heap by their places, if it is right.
func rightHeap(h impl.Heap) (map[int]heapBlock, bool) {
	if h.Half < 1 || h.Half > 3000 || len(h.Words) != 2*h.Half || h.Base != 0 && h.Base != h.Half || h.Next < h.Base || h.Next > h.Base+h.Half {
		return nil, false
	}
	blocks, ok := blocksOfWords(h.Words[h.Base:h.Next], h.Base)
	if !ok {
		return nil, false
	}
	for _, b := range blocks {
		for _, kid := range b.kids {
			if !rightKid(blocks, kid) {
				return nil, false
			}
		}
	}
	return blocks, true
}

func roomOf(h impl.Heap) int {
	if _, ok := rightHeap(h); !ok {
		return 0
	}
	return h.Half - (h.Next - h.Base)
}

func clonedHeap(h impl.Heap) impl.Heap {
	h.Words = append([]int{}, h.Words...)
	return h
}

// allocOf lays the block down first, and asks then whether all of it is right.
func allocOf(h impl.Heap, b heapBlock) (impl.Heap, int, bool) {
	other := clonedHeap(h)
	if b.tag < 0 || b.tag > 3000 || len(b.kids) > 20 || len(b.kids) >= roomOf(h) {
		return other, 0, false
	}
	other.Next += copy(other.Words[other.Next:], b.words())
	if _, ok := rightHeap(other); !ok {
		return clonedHeap(h), 0, false
	}
	return other, h.Next, true
}

func equalHeap(a, b impl.Heap) bool {
	return slices.Equal(a.Words, b.Words) && a.Half == b.Half && a.Base == b.Base && a.Next == b.Next
}

// placesToAsk are all places of a small heap and those about it; of a great one those about its ends, and some within.
func placesToAsk(h impl.Heap) []int {
	list := []int{math.MinInt, math.MinInt + 1, -1 << 32, -3, -2, -1, 1 << 32, math.MaxInt - 1, math.MaxInt}
	for _, end := range []int{h.Base, h.Next, h.Half, len(h.Words)} {
		for near := -2; near <= 2; near++ {
			list = append(list, end+near)
		}
	}
	step := 1 + len(h.Words)/60
	for p := 0; p < len(h.Words); p += step {
		list = append(list, p)
	}
	return list
}

func checkBlockAt(t *testing.T, h impl.Heap, p int, want heapBlock, there bool) {
	t.Helper()
	fun, tag, kids, ok := impl.BlockAt(h, p)
	got := heapBlock{fun, tag, kids}
	if ok != there || !equalBlock(got, want) {
		t.Fatalf("BlockAt(%s, %d) = %v, %v, not %v, %v", shown(h), p, got, ok, want, there)
	}
}

// checkHeap holds all that asks a heap against the second one.
func checkHeap(t *testing.T, h impl.Heap) bool {
	t.Helper()
	blocks, right := rightHeap(h)
	if impl.HeapOk(h) != right {
		t.Fatalf("HeapOk(%s) = %v", shown(h), !right)
	}
	if got, want := impl.Room(h), roomOf(h); got != want {
		t.Fatalf("Room(%s) = %d, not %d", shown(h), got, want)
	}
	for _, p := range placesToAsk(h) {
		b, there := blocks[p]
		checkBlockAt(t, h, p, b, there)
	}
	return right
}

// checkAlloc holds Alloc against the second one, and asks of what is allocated whether it is there, and all else as it was
// (P17).
func checkAlloc(t *testing.T, h impl.Heap, b heapBlock) (impl.Heap, bool) {
	t.Helper()
	wasHeap, wasKids := clonedHeap(h), slices.Clone(b.kids)
	want, wantPlace, wantOk := allocOf(h, b)
	got, place, ok := impl.Alloc(h, b.fun, b.tag, b.kids)
	if !equalHeap(got, want) || place != wantPlace || ok != wantOk {
		t.Fatalf("Alloc(%s, %v) = %s, %d, %v, not %s, %d, %v", shown(h), shown(b), shown(got), place, ok, shown(want), wantPlace, wantOk)
	}
	if !equalHeap(h, wasHeap) || !slices.Equal(b.kids, wasKids) {
		t.Fatalf("Alloc(%s, %v) wrote into them: %s, %v", shown(wasHeap), shown(wasKids), shown(h), shown(b.kids))
	}
	if !ok {
		return got, false
	}
	if !impl.HeapOk(got) || impl.Room(got) != impl.Room(h)-1-len(b.kids) || place != h.Next {
		t.Fatalf("what is allocated is %s, with room for %d", shown(got), impl.Room(got))
	}
	checkBlockAt(t, got, place, b, true)
	blocks, _ := rightHeap(h)
	for p, other := range blocks {
		if len(blocks) < 60 || p%61 == 0 {
			checkBlockAt(t, got, p, other, true)
		}
	}
	return got, true
}

// askAlloc asks for an answer that is told beside it.
func askAlloc(t *testing.T, what string, h impl.Heap, b heapBlock, fits bool) impl.Heap {
	t.Helper()
	got, ok := checkAlloc(t, h, b)
	if ok != fits {
		t.Errorf("%s: Alloc(%s, %v) is %v", what, shown(h), shown(b), ok)
	}
	return got
}

func askHeap(t *testing.T, what string, h impl.Heap, right bool) {
	t.Helper()
	if checkHeap(t, h) != right {
		t.Errorf("%s: HeapOk(%s) = %v", what, shown(h), !right)
	}
}

// heapWord is told as an int in digits, @ and a place behind the base, or # and the word itself.
func heapWord(t *testing.T, base int, s string) int {
	t.Helper()
	n, err := strconv.Atoi(strings.TrimLeft(s, "@#"))
	if err != nil {
		t.Fatalf("%q is no word", s)
	}
	switch s[0] {
	case '@':
		return 2 * (base + n)
	case '#':
		return n
	}
	return 2*n + 1
}

func heapBlockOf(t *testing.T, base int, s string) heapBlock {
	t.Helper()
	parts := strings.Fields(s)
	tag, err := strconv.Atoi(parts[1])
	if err != nil || parts[0] != "con" && parts[0] != "fun" {
		t.Fatalf("%q is no block", s)
	}
	b := heapBlock{fun: parts[0] == "fun", tag: tag}
	for _, part := range parts[2:] {
		b.kids = append(b.kids, heapWord(t, base, part))
	}
	return b
}

// heapOfBlocks has words that are of no worth wherever no block is.
func heapOfBlocks(half, base int, blocks ...heapBlock) impl.Heap {
	h := impl.Heap{Half: half, Base: base, Next: base}
	for i := range 2 * half {
		h.Words = append(h.Words, []int{-7, 0, 5, 1 << 40, 2, 1}[i%6])
	}
	for _, b := range blocks {
		h.Next += copy(h.Words[h.Next:], b.words())
	}
	return h
}

// bothHeaps are a heap of the blocks that s tells, with | between, in either half.
func bothHeaps(t *testing.T, half int, s string) []impl.Heap {
	t.Helper()
	var both []impl.Heap
	for _, base := range []int{0, half} {
		var blocks []heapBlock
		for _, text := range strings.Split(s, "|") {
			if strings.TrimSpace(text) != "" {
				blocks = append(blocks, heapBlockOf(t, base, text))
			}
		}
		both = append(both, heapOfBlocks(half, base, blocks...))
	}
	return both
}

// floorHalf reckons in numbers without ends.
func floorHalf(w int) int {
	return int(new(big.Int).Div(big.NewInt(int64(w)), big.NewInt(2)).Int64())
}

func TestHeapWordsEdges(t *testing.T) {
	if impl.MaxHalf != 3000 {
		t.Error("MaxHalf", impl.MaxHalf)
	}
	for n, want := range map[int]int{
		0: 1, 1: 3, -1: -1, 2: 5, -2: -3, 7: 15, -70: -139,
		leastWord: -2147483647, leastWord + 1: -2147483645, greatestWord - 1: 2147483645, greatestWord: 2147483647,
		leastWord - 1: 1, greatestWord + 1: 1, 2147483647: 1, -2147483648: 1, 1 << 32: 1, 1<<62 + 3: 1, 1 << 62: 1, -1 << 62: 1, math.MinInt: 1, math.MinInt + 1: 1, math.MaxInt: 1, math.MaxInt - 1: 1,
	} {
		if got := impl.IntWord(n); got != want {
			t.Errorf("IntWord(%d) = %d, not %d", n, got, want)
		}
	}
	for p, want := range map[int]int{
		0: 0, 1: 2, 2: 4, 7: 14, 2999: 5998, 3000: 6000, 3001: 6002, 5999: 11998, 6000: 12000,
		6001: 0, 6002: 0, -1: 0, -2: 0, -6000: 0, leastWord: 0, greatestWord: 0, 1<<32 + 1: 0, 1 << 62: 0, math.MinInt: 0, math.MinInt + 1: 0, math.MaxInt: 0,
	} {
		if got := impl.RefWord(p); got != want {
			t.Errorf("RefWord(%d) = %d, not %d", p, got, want)
		}
	}
	for w, want := range map[int]int{
		0: 0, 1: 0, 2: 1, 3: 1, 4: 2, 5: 2, -1: -1, -2: -1, -3: -2, -4: -2, -5: -3, 12000: 6000, 12001: 6000,
		2147483647: greatestWord, -2147483647: leastWord, -2147483648: leastWord, 2147483648: 1073741824, -2147483649: -1073741825,
		math.MaxInt: 1<<62 - 1, math.MaxInt - 1: 1<<62 - 1, math.MinInt: -1 << 62, math.MinInt + 1: -1 << 62, math.MinInt + 2: -1<<62 + 1,
	} {
		if got := impl.WordInt(w); got != want {
			t.Errorf("WordInt(%d) = %d, not %d", w, got, want)
		}
		if got := impl.WordRef(w); got != want {
			t.Errorf("WordRef(%d) = %d, not %d", w, got, want)
		}
	}
	for _, w := range []int{0, 2, -2, 4, -4, 12000, 2147483648, -2147483648, math.MinInt, math.MaxInt - 1} {
		if !impl.IsRef(w) || impl.IsRef(w+1) {
			t.Errorf("IsRef(%d) = %v, IsRef(%d) = %v", w, impl.IsRef(w), w+1, impl.IsRef(w+1))
		}
	}
}

func TestHeapWordsOfMany(t *testing.T) {
	for _, n := range manyInts() {
		word, ref := impl.IntWord(n), impl.RefWord(n)
		if impl.IsRef(word) || !impl.IsRef(ref) || impl.IsRef(n) != (n&1 == 0) {
			t.Fatalf("of %d: the word %d, the place %d, IsRef %v", n, word, ref, impl.IsRef(n))
		}
		wantInt, wantRef := 0, 0
		if leastWord <= n && n <= greatestWord {
			wantInt = n
		}
		if 0 <= n && n <= 6000 {
			wantRef = n
		}
		if impl.WordInt(word) != wantInt || impl.WordRef(ref) != wantRef || word != 2*wantInt+1 || ref != 2*wantRef {
			t.Fatalf("of %d: the word %d, the place %d", n, word, ref)
		}
		if half := floorHalf(n); impl.WordInt(n) != half || impl.WordRef(n) != half {
			t.Fatalf("half of %d is %d, %d, not %d", n, impl.WordInt(n), impl.WordRef(n), half)
		}
	}
}

func TestHeapNewEdges(t *testing.T) {
	for _, half := range []int{1, 2, 3, 5, 64, 2999, 3000} {
		h, ok := impl.HeapNew(half)
		if !ok || !equalHeap(h, impl.Heap{Words: make([]int, 2*half), Half: half}) || impl.Room(h) != half {
			t.Errorf("HeapNew(%d) = %s, %v", half, shown(h), ok)
		}
		askHeap(t, "a new one", h, true)
	}
	for _, half := range append(manyInts(), 0, -1, -3000, 3001, 6000, 1<<32+5) {
		if 1 <= half && half <= 3000 {
			continue
		}
		if h, ok := impl.HeapNew(half); ok || !equalHeap(h, impl.Heap{}) {
			t.Errorf("HeapNew(%d) = %s, %v", half, shown(h), ok)
		}
	}
}

func TestHeapNewIsNew(t *testing.T) {
	first, _ := impl.HeapNew(9)
	second, _ := impl.HeapNew(9)
	for i := range first.Words[:cap(first.Words)] {
		first.Words[:cap(first.Words)][i] = 77
	}
	third, _ := impl.HeapNew(9)
	if none := make([]int, 18); !slices.Equal(second.Words, none) || !slices.Equal(third.Words, none) {
		t.Error("a new heap is not new:", second, third)
	}
}

// The words of some heaps, told by themselves.
func TestAllocWords(t *testing.T) {
	h, _ := impl.HeapNew(9)
	for _, row := range []struct {
		b     heapBlock
		place int
		words []int
	}{
		{heapCon(0), 0, []int{1}},
		{heapFun(0), 1, []int{1, 3}},
		{heapCon(3, 15), 2, []int{1, 3, 773, 15}},
		{heapFun(1, 4, -1), 4, []int{1, 3, 773, 15, 267, 4, -1}},
		{heapFun(3000), 7, []int{1, 3, 773, 15, 267, 4, -1, 768003}},
		{heapCon(3000), 8, []int{1, 3, 773, 15, 267, 4, -1, 768003, 768001}},
	} {
		next, place, ok := impl.Alloc(h, row.b.fun, row.b.tag, row.b.kids)
		want := impl.Heap{Words: append(slices.Clone(row.words), make([]int, 18-len(row.words))...), Half: 9, Next: len(row.words)}
		if !ok || place != row.place || !equalHeap(next, want) {
			t.Fatalf("Alloc(%v, %v) = %v, %d, %v, not %v", h, row.b, next, place, ok, want)
		}
		checkAlloc(t, h, row.b)
		checkHeap(t, next)
		h = next
	}
	if impl.Room(h) != 0 {
		t.Error("there is room in", h)
	}
	many, _ := impl.HeapNew(21)
	many, _, _ = impl.Alloc(many, true, 3000, slices.Repeat([]int{7}, 20))
	if many.Words[0] != 768083 || many.Next != 21 || many.Words[20] != 7 || many.Words[21] != 0 {
		t.Error("the greatest header:", many)
	}
	up := impl.Heap{Words: []int{9, 9, 9, 9, 9, 9}, Half: 3, Base: 3, Next: 3}
	got, place, ok := impl.Alloc(up, false, 1, []int{6})
	if want := (impl.Heap{Words: []int{9, 9, 9, 261, 6, 9}, Half: 3, Base: 3, Next: 5}); !ok || place != 3 || !equalHeap(got, want) {
		t.Errorf("in the upper half: %v, %d, %v", got, place, ok)
	}
}

// Each word as a header, where all words behind it are headers of blocks without kids.
func TestHeapEachHeader(t *testing.T) {
	for _, base := range []int{0, 22} {
		h := impl.Heap{Words: slices.Repeat([]int{1}, 44), Half: 22, Base: base, Next: base + 22}
		ask := func(w int) {
			h.Words[base] = w
			head, right := heads()[w]
			if impl.HeapOk(h) != right {
				t.Fatalf("HeapOk(%v) = %v", h, !right)
			}
			if right {
				checkBlockAt(t, h, base, heapBlock{head.fun, head.tag, slices.Repeat([]int{1}, head.kids)}, true)
			}
		}
		for w := -3000; w <= 770000; w++ {
			ask(w)
		}
		for _, w := range manyInts() {
			ask(w)
		}
	}
}

func TestHeapOkTakes(t *testing.T) {
	for _, s := range []string{
		"", "con 0", "fun 0", "con 3000", "fun 3000", "con 0 5", "con 1 5 -5", "fun 59 0",
		"con 0 1073741823 -1073741824", "con 3 7 | fun 1 @0 -1", "con 0 @0", "fun 0 @0 @0 @0", "con 0 @2 | con 0 @0", "con 0 | con 0 | con 0 @1 @0 @2", "con 1 @3 5 | con 1 @0 @3", "con 0 @4 1 @6 | con 1 @0 | con 2 @4",
		"con 9 1 2 3 4 5 6 7 8 9 10 11 12 13 14 15 16 17 18 19 20", "fun 9 @0 @0 @0 @0 @0 @0 @0 @0 @0 @0 @0 @0 @0 @0 @0 @0 @0 @0 @0 @0 | con 0 @0",
	} {
		for _, half := range []int{30, 31, 2000, 3000} {
			for _, h := range bothHeaps(t, half, s) {
				askHeap(t, s, h, true)
			}
		}
	}
}

func TestHeapOkRefusesBlocks(t *testing.T) {
	for _, s := range []string{
		"con 3001", "fun 3001", "con -1", "fun -1", "con -1 5", "con 3001 5", "con 0 | con 3001", "con 3001 | con 0", "con 100000000", "con 1000000000000",
		"con 0 1 2 3 4 5 6 7 8 9 10 11 12 13 14 15 16 17 18 19 20 21", "fun 0 | con 5 1 2 3 4 5 6 7 8 9 10 11 12 13 14 15 16 17 18 19 20 21",
		"con 0 @1", "con 0 @1 5", "con 0 @2", "con 0 @-1", "con 0 @-2", "con 0 @30", "con 0 @-30", "con 0 @60", "con 0 @3 | con 0", "con 0 5 | con 0 @1", "con 0 @3 | con 0 5", "con 0 5 | con 0 @4", "con 0 | con 0 @3", "con 0 | con 0 | con 0 @0 @1 @2 @3",
		"con 0 #2147483649", "con 0 #-2147483649", "con 0 #9223372036854775807", "con 0 #-9223372036854775807", "con 0 #-9223372036854775808", "con 0 #9223372036854775806", "con 0 #4294967297", "con 0 1 | con 0 2 #2147483649",
		"con 0 #-2", "con 0 #-4", "con 0 #12000", "con 0 #12002", "con 0 #4294967296",
	} {
		for _, h := range bothHeaps(t, 30, s) {
			askHeap(t, s, h, false)
			askAlloc(t, s, h, heapCon(0), false)
		}
	}
}

// The other half holds no block, even where it holds what one would be.
func TestHeapOkOtherHalf(t *testing.T) {
	for _, h := range bothHeaps(t, 6, "con 0 @2 | con 1 @0 5") {
		other := clonedHeap(h)
		copy(other.Words[6-h.Base:], []int{1, 1, 1, 1, 1, 1})
		askHeap(t, "blocks in the other half", other, true)
		for p := 6 - h.Base; p < 12-h.Base; p++ {
			checkBlockAt(t, other, p, heapBlock{}, false)
			kid := clonedHeap(other)
			kid.Words[h.Base+1] = 2 * p
			askHeap(t, "a kid in the other half", kid, false)
			askAlloc(t, "a kid in the other half", other, heapCon(0, 2*p), false)
		}
		askAlloc(t, "none", other, heapCon(0), true)
	}
}

func TestHeapOkEnds(t *testing.T) {
	for _, base := range []int{0, 6} {
		h := heapOfBlocks(6, base, heapCon(1, 5, 2*base), heapFun(2, 7))
		h.Words[base+5] = 0
		askHeap(t, "as it is", h, true)
		for next := -20; next <= 20; next++ {
			other := clonedHeap(h)
			other.Next = next
			askHeap(t, "another Next", other, next == base || next == base+3 || next == base+5)
		}
		for _, next := range manyInts() {
			other := clonedHeap(h)
			other.Next = next
			checkHeap(t, other)
			checkAlloc(t, other, heapCon(0))
		}
		for _, wrong := range append(manyInts(), 3, 12, -6) {
			other := clonedHeap(h)
			other.Base = wrong
			if wrong != base {
				askHeap(t, "another Base", other, false)
			}
			other.Next = wrong
			askHeap(t, "another Base and Next", other, wrong == 0 || wrong == 6)
		}
		for words := range 30 {
			other := clonedHeap(h)
			other.Words = append(other.Words, make([]int, 30)...)[:words]
			askHeap(t, "other Words", other, words == 12)
			if words != 12 {
				askAlloc(t, "other Words", other, heapCon(0), false)
			}
		}
	}
	last := heapOfBlocks(4, 0, heapCon(0, 5, 5), heapCon(0))
	last.Words[3] = heapCon(0, 1).words()[0]
	askHeap(t, "the last one ends behind Next, and in the other half", last, false)
	last.Words[3] = heapCon(0, 1, 2, 3, 4).words()[0]
	askHeap(t, "the last one ends at the end of all Words", last, false)
	last.Words[3] = heapCon(0, 1, 2, 3, 4, 5).words()[0]
	askHeap(t, "the last one ends behind all Words", last, false)
	last.Next = 3
	askHeap(t, "what stands at Next is none", last, true)
}

func TestHeapOkHalf(t *testing.T) {
	for _, half := range []int{1, 2, 3, 2999, 3000, 3001, 3002, 6000, 100000} {
		for _, base := range []int{0, half} {
			h := impl.Heap{Words: make([]int, 2*half), Half: half, Base: base, Next: base}
			askHeap(t, "a Half", h, half <= 3000)
			askAlloc(t, "a Half", h, heapCon(0), half <= 3000)
		}
	}
	askHeap(t, "the zero value", impl.Heap{}, false)
	for _, half := range append(manyInts(), 0, -1, -3000) {
		for _, words := range [][]int{nil, {}, {1}, {1, 1}, make([]int, 6)} {
			for _, at := range []int{0, half} {
				h := impl.Heap{Words: words, Half: half, Base: at, Next: at}
				right := half >= 1 && half == len(words)/2 && len(words)%2 == 0
				if impl.HeapOk(h) != right || impl.Room(h) != roomOf(h) {
					t.Fatalf("HeapOk(%v) = %v, Room %d", h, !right, impl.Room(h))
				}
				checkAlloc(t, h, heapCon(0))
			}
		}
	}
}

func TestBlockAtPlaces(t *testing.T) {
	for _, h := range bothHeaps(t, 20, "con 3 7 | fun 1 @0 -1 | con 0 | fun 3000 @6 @5 @2 5") {
		blocks := map[int]heapBlock{
			0: heapCon(3, 15),
			2: heapFun(1, 2*h.Base, -1),
			5: heapCon(0),
			6: heapFun(3000, 2*(h.Base+6), 2*(h.Base+5), 2*(h.Base+2), 11),
		}
		for p := -30; p < 60; p++ {
			b, there := blocks[p]
			checkBlockAt(t, h, h.Base+p, b, there)
		}
		wrong := clonedHeap(h)
		wrong.Words[h.Base+10] = 2 * (h.Base + 1)
		for p := -30; p < 60; p++ {
			checkBlockAt(t, wrong, p, heapBlock{}, false)
		}
	}
}

func TestAllocRoom(t *testing.T) {
	for half := 1; half <= 24; half++ {
		for used := 0; used <= half; used++ {
			for _, base := range []int{0, half} {
				h := heapOfBlocks(half, base, slices.Repeat([]heapBlock{heapCon(1)}, used)...)
				for kids := range 22 {
					fits := kids <= 20 && used+1+kids <= half
					askAlloc(t, "room", h, heapCon(2, slices.Repeat([]int{5}, kids)...), fits)
					askAlloc(t, "room", h, heapFun(2, slices.Repeat([]int{2 * base}, kids)...), fits)
				}
			}
		}
	}
	for _, base := range []int{0, 3000} {
		for used := 2975; used <= 3000; used++ {
			h := heapOfBlocks(3000, base, slices.Repeat([]heapBlock{heapCon(1)}, used)...)
			for _, kids := range []int{0, 1, 2, 3000 - used - 1, 3000 - used, 19, 20} {
				if kids >= 0 {
					askAlloc(t, "room", h, heapFun(7, slices.Repeat([]int{2 * base}, kids)...), kids <= 20 && used+1+kids <= 3000)
				}
			}
		}
	}
}

func TestAllocKidCounts(t *testing.T) {
	for _, base := range []int{0, 2000} {
		h := heapOfBlocks(2000, base, heapCon(0))
		for _, tag := range []int{0, 1, 2999, 3000} {
			for kids := range 200 {
				askAlloc(t, "kids", h, heapCon(tag, slices.Repeat([]int{1}, kids)...), kids <= 20)
				askAlloc(t, "kids", h, heapFun(tag, slices.Repeat([]int{2 * base}, kids)...), kids <= 20)
			}
			// So many that a header with them would be that of a block of another tag with few.
			for _, kids := range []int{64, 65, 84, 128, 640, 64 * 30, 64 * 3000, 1 << 20} {
				askAlloc(t, "far too many kids", h, heapCon(tag, slices.Repeat([]int{1}, kids)...), false)
				askAlloc(t, "far too many kids", h, heapCon(-kids/64, slices.Repeat([]int{1}, kids)...), false)
			}
		}
	}
}

func TestAllocTags(t *testing.T) {
	tags := append(manyInts(), 2999, 3000, 3001, 3002, -3000, -64, 4096, 1<<25, 1<<57, 1<<57+1, 1<<58, 1<<56, -1<<57, 1<<24, 1<<23, 8388608, 8388607, 1<<62+3)
	for _, h := range bothHeaps(t, 9, "con 0") {
		for _, tag := range tags {
			fits := 0 <= tag && tag <= 3000
			askAlloc(t, "tags", h, heapCon(tag), fits)
			askAlloc(t, "tags", h, heapFun(tag, 5, 2*h.Base), fits)
		}
	}
}

func TestAllocKids(t *testing.T) {
	const s = "con 3 7 | fun 1 @0 -1 | con 0" // at 0, 2, 5; the next one is at 6
	for kid, fits := range map[string]bool{
		"0": true, "1": true, "-1": true, "1073741823": true, "-1073741824": true, "#1": true, "#-1": true, "#2147483647": true, "#-2147483647": true,
		"1073741824": false, "-1073741825": false, "#2147483649": false, "#-2147483649": false, "#4294967297": false, "#9223372036854775807": false, "#-9223372036854775807": false,
		"@0": true, "@2": true, "@5": true, "@6": true,
		"@1": false, "@3": false, "@4": false, "@7": false, "@8": false, "@9": false, "@10": false, "@19": false, "@20": false, "@21": false, "@40": false, "@-1": false, "@-2": false, "@-20": false, "@-18": false,
		"#-2": false, "#-12": false, "#80": false, "#12000": false, "#4294967296": false, "#9223372036854775806": false, "#-9223372036854775808": false,
	} {
		for _, h := range bothHeaps(t, 20, s) {
			w := heapWord(t, h.Base, kid)
			askAlloc(t, kid, h, heapCon(4, w), fits)
			askAlloc(t, kid, h, heapFun(4, 5, 2*h.Base, w), fits)
			askAlloc(t, kid, h, heapFun(0, w, 5, 2*h.Base), fits)
		}
		for _, h := range bothHeaps(t, 30, "con 0") { // the next one is at 1
			w := heapWord(t, h.Base, kid)
			askAlloc(t, kid+" twenty times", h, heapCon(0, slices.Repeat([]int{w}, 20)...), fits && kid[0] != '@' || kid == "@0" || kid == "@1")
		}
	}
	for _, h := range bothHeaps(t, 6, "con 0 1 2 3 4 5") {
		askAlloc(t, "no room, and itself", h, heapCon(0, 2*h.Next), false)
		askAlloc(t, "no room", h, heapCon(0), false)
	}
	for _, h := range bothHeaps(t, 6, "") {
		got := askAlloc(t, "itself alone", h, heapFun(1, 2*h.Base, 2*h.Base), true)
		checkBlockAt(t, got, h.Base, heapFun(1, 2*h.Base, 2*h.Base), true)
		askAlloc(t, "what is behind itself", h, heapFun(1, 2*h.Base+2), false)
	}
}

// A heap that is wrong is given back as it was, whatever is asked to be allocated.
func TestAllocOfWrongHeap(t *testing.T) {
	right := heapOfBlocks(4, 4, heapCon(1, 5))
	for what, turn := range map[string]func(h *impl.Heap){
		"Base":          func(h *impl.Heap) { h.Base = 2 },
		"the other one": func(h *impl.Heap) { h.Base = 0 },
		"Next below":    func(h *impl.Heap) { h.Next = 3 },
		"Next beyond":   func(h *impl.Heap) { h.Next = 9 },
		"Half":          func(h *impl.Heap) { h.Half = 3 },
		"no Half":       func(h *impl.Heap) { h.Half = 0 },
		"below 0":       func(h *impl.Heap) { h.Half, h.Base, h.Next = -4, -4, -4 },
		"fewer Words":   func(h *impl.Heap) { h.Words = h.Words[:7] },
		"no Words":      func(h *impl.Heap) { h.Words = nil },
		"more Words":    func(h *impl.Heap) { h.Words = append(h.Words, 1) },
		"a header":      func(h *impl.Heap) { h.Words[4] = 2 },
		"a kid":         func(h *impl.Heap) { h.Words[5] = 10 },
		"the midst":     func(h *impl.Heap) { h.Next = 5 },
	} {
		wrong := clonedHeap(right)
		turn(&wrong)
		askHeap(t, what, wrong, false)
		for _, b := range []heapBlock{heapCon(0), heapFun(3000, 1), heapCon(-1), heapCon(0, 3, 4), heapCon(1, make([]int, 30)...)} {
			askAlloc(t, what, wrong, b, false)
		}
	}
	askAlloc(t, "as it is", right, heapCon(0, 8), true)
}

// All heaps of a half of a few words, with few kinds of words.
func TestHeapSmall(t *testing.T) {
	words := []int{-1, 0, 1, 2, 3, 4, 5, 6, 7, 9, 257}
	count := map[bool]int{}
	for half := 1; half <= 3; half++ {
		everyList(words, half, func(s []int) {
			if len(s) < half {
				return
			}
			for _, base := range []int{0, half} {
				h := heapOfBlocks(half, base)
				copy(h.Words[base:], s)
				for h.Next = base; h.Next <= base+half; h.Next++ {
					count[checkHeap(t, h)]++
					checkAlloc(t, h, heapCon(0))
					checkAlloc(t, h, heapFun(1, 2*base))
				}
			}
		})
	}
	if count[true] < 2000 || count[false] < 3000 {
		t.Error("of some there are too few:", count)
	}
}

// heap has blocks of any kind, which hold each other in any way, in either half.
func (m *dataMaker) heap(most int) impl.Heap {
	half := 1 + m.pick(most)
	base := half * m.pick(2)
	var blocks []heapBlock
	var places []int
	for used := 0; used < half && m.pick(12) > 0; {
		b := heapBlock{m.pick(3) == 0, []int{0, 1, m.pick(60), 3000}[m.pick(4)], make([]int, min(m.pick(6), half-used-1, 20))}
		if m.pick(9) == 0 {
			b.kids = make([]int, min(20, half-used-1))
		}
		places = append(places, base+used)
		blocks = append(blocks, b)
		used += 1 + len(b.kids)
	}
	for _, b := range blocks {
		for i := range b.kids {
			b.kids[i] = m.heapKid(places)
		}
	}
	return heapOfBlocks(half, base, blocks...)
}

func (m *dataMaker) heapKid(places []int) int {
	if m.pick(2) == 0 && len(places) > 0 {
		return 2 * places[m.pick(len(places))]
	}
	return 2*[]int{0, 1, -1, leastWord, greatestWord, m.pick(1000) - 500}[m.pick(6)] + 1
}

// heapBlock is to be allocated; it is right, but for its kids, which need not be there.
func (m *dataMaker) heapBlock(h impl.Heap) heapBlock {
	blocks, _ := rightHeap(h)
	places := []int{h.Next}
	for p := range blocks {
		places = append(places, p)
	}
	slices.Sort(places)
	b := heapBlock{fun: m.pick(2) == 0, tag: []int{0, 1, m.pick(3001), 3000}[m.pick(4)]}
	for range m.pick(5) {
		b.kids = append(b.kids, m.heapKid(places))
	}
	if m.pick(6) == 0 && len(b.kids) > 0 {
		b.kids[m.pick(len(b.kids))] = m.pick(4*max(h.Half, 0)+8) - 4
	}
	return b
}

// twistHeap is h with something that is another one.
func (m *dataMaker) twistHeap(h impl.Heap) impl.Heap {
	other := clonedHeap(h)
	few := []int{-1, 1, -2, 2, h.Half, -h.Half, 64, 4}
	switch n := few[m.pick(len(few))]; m.pick(12) {
	case 0:
		other.Next += n
	case 1:
		other.Base = h.Half - h.Base
	case 2:
		other.Base += n
	case 3:
		other.Half += n
	case 4:
		other.Words = other.Words[:max(0, len(other.Words)-1-m.pick(2))]
	case 5:
		other.Words = append(other.Words, n)
	default:
		if h.Base >= 0 && h.Next > h.Base && h.Next <= len(other.Words) {
			other.Words[h.Base+m.pick(h.Next-h.Base)] += n
		}
	}
	return other
}

func TestHeapMade(t *testing.T) {
	m := dataMaker{seed: 170}
	count := map[bool]int{}
	for range 3000 {
		h := m.heap(60)
		askHeap(t, "made", h, true)
		_, ok := checkAlloc(t, h, m.heapBlock(h))
		count[ok]++
	}
	if count[true] < 500 || count[false] < 500 {
		t.Error("of some there are too few:", count)
	}
}

func TestHeapTwisted(t *testing.T) {
	m := dataMaker{seed: 171}
	count := map[bool]int{}
	for range 6000 {
		h := m.heap(40)
		for range 1 + m.pick(3) {
			h = m.twistHeap(h)
			count[checkHeap(t, h)]++
			checkAlloc(t, h, m.heapBlock(h))
		}
	}
	if count[true] < 2000 || count[false] < 4000 {
		t.Error("of some there are too few:", count)
	}
}

// What was allocated, one behind the other, is there till the end (P17).
func TestAllocOneByOne(t *testing.T) {
	m := dataMaker{seed: 172}
	full := 0
	for range 600 {
		half := 1 + m.pick(90)
		h, _ := impl.HeapNew(half)
		if m.pick(2) == 0 {
			h.Base, h.Next = half, half
		}
		there := map[int]heapBlock{}
		for range 60 {
			b := m.heapBlock(h)
			next, place, ok := impl.Alloc(h, b.fun, b.tag, b.kids)
			if _, wantPlace, wantOk := allocOf(h, b); ok != wantOk || place != wantPlace {
				t.Fatalf("Alloc(%s, %v) = %d, %v", shown(h), b, place, ok)
			}
			if !ok && !equalHeap(next, h) {
				t.Fatalf("Alloc(%s, %v) is not as it was: %s", shown(h), b, shown(next))
			}
			if ok {
				there[place] = b
			}
			h = next
		}
		for p := -1; p <= 2*half; p++ {
			b, isThere := there[p]
			checkBlockAt(t, h, p, b, isThere)
		}
		if impl.Room(h) == 0 {
			full++
		}
	}
	if full < 50 {
		t.Error("too few heaps were filled:", full)
	}
}

// Blocks of one size fill a heap as often as they fit in it.
func TestAllocTillFull(t *testing.T) {
	for _, half := range []int{1, 20, 21, 22, 63, 300, 3000} {
		for _, kids := range []int{0, 1, 2, 19, 20} {
			h, _ := impl.HeapNew(half)
			count := 0
			for {
				next, place, ok := impl.Alloc(h, false, 1, slices.Repeat([]int{3}, kids))
				if !ok {
					break
				}
				if place != count*(1+kids) || next.Next != place+1+kids {
					t.Fatalf("block %d of %d kids is at %d", count, kids, place)
				}
				h = next
				count++
			}
			if count != half/(1+kids) || impl.Room(h) != half%(1+kids) || !impl.HeapOk(h) {
				t.Errorf("%d blocks of %d kids are in a half of %d", count, kids, half)
			}
		}
	}
}

// roomyHeap has words in the room behind it that would go on with what ends too early.
func roomyHeap(h impl.Heap) impl.Heap {
	room := append(make([]int, 0, len(h.Words)+5), h.Words...)
	_ = append(room, 1, 1, 5, 1, 3)
	h.Words = room
	return h
}

// What stands in the room behind a list does not count, and is not written into.
func TestHeapWritesNothing(t *testing.T) {
	m := dataMaker{seed: 173}
	for range 2500 {
		plain := m.heap(30)
		for range m.pick(3) {
			plain = m.twistHeap(plain)
		}
		b := m.heapBlock(plain)
		h, kids := roomyHeap(plain), roomy(b.kids)
		wideWords, wideKids := slices.Clone(allOf(h.Words)), slices.Clone(allOf(kids))
		right := checkHeap(t, h)
		got, place, ok := impl.Alloc(h, b.fun, b.tag, kids)
		if !slices.Equal(allOf(h.Words), wideWords) || !slices.Equal(allOf(kids), wideKids) {
			t.Fatalf("Alloc(%s, %v) wrote into them", shown(plain), b)
		}
		if other, otherPlace, otherOk := impl.Alloc(plain, b.fun, b.tag, b.kids); right != impl.HeapOk(plain) || ok != otherOk || place != otherPlace || !equalHeap(got, other) {
			t.Fatalf("Alloc(%s, %v) is another one with room behind", shown(plain), b)
		}
	}
}

// fillAll writes into all that there is of a list, the room behind it too.
func fillAll(list []int, n int) {
	for i := range allOf(list) {
		allOf(list)[i] = n
	}
}

func TestHeapAnswersAreNew(t *testing.T) {
	m := dataMaker{seed: 174}
	for range 800 {
		h := m.heap(30)
		if m.pick(3) == 0 {
			h = m.twistHeap(h)
		}
		b := m.heapBlock(h)
		want, _, _ := allocOf(h, b)
		wasHeap, wasKids := clonedHeap(h), slices.Clone(b.kids)
		first, _, _ := impl.Alloc(h, b.fun, b.tag, b.kids)
		second, _, _ := impl.Alloc(h, b.fun, b.tag, b.kids)
		fillAll(first.Words, 77)
		if !equalHeap(h, wasHeap) || !slices.Equal(b.kids, wasKids) || !equalHeap(second, want) {
			t.Fatalf("what Alloc(%s, %v) answers shares memory", shown(h), b)
		}
		fillAll(h.Words, 88)
		fillAll(b.kids, 99)
		if !equalHeap(second, want) {
			t.Fatalf("what Alloc(%s, %v) answers shares memory with what was handed in", shown(wasHeap), wasKids)
		}
	}
	for range 500 {
		h := m.heap(30)
		was := clonedHeap(h)
		blocks, _ := rightHeap(was)
		for p, b := range blocks {
			_, _, first, _ := impl.BlockAt(h, p)
			_, _, second, _ := impl.BlockAt(h, p)
			fillAll(first, 77)
			if !equalHeap(h, was) || !slices.Equal(second, b.kids) {
				t.Fatalf("kids at %d of %s share memory", p, shown(was))
			}
		}
	}
}

// The kids of a block may be a piece of the heap's own words, as nothing is written into them.
func TestAllocSharedKids(t *testing.T) {
	for _, h := range bothHeaps(t, 20, "con 3 7 | fun 1 @0 -1 | con 0") {
		askAlloc(t, "kids of another one", h, heapBlock{kids: h.Words[h.Base+3 : h.Base+5]}, true)
		askAlloc(t, "headers", h, heapBlock{kids: h.Words[h.Base : h.Base+6]}, true)
		askAlloc(t, "what stands where it will be", h, heapBlock{kids: h.Words[h.Base+6 : h.Base+10]}, false)
	}
}

// Nothing is kept from one call to another, and calls beside each other do not meet.
func TestHeapKeepsNothing(t *testing.T) {
	m := dataMaker{seed: 175}
	type row struct {
		h, want impl.Heap
		b       heapBlock
		place   int
		ok      bool
	}
	var rows []row
	for range 60 {
		r := row{h: m.heap(40)}
		if m.pick(3) == 0 {
			r.h = m.twistHeap(r.h)
		}
		r.b = m.heapBlock(r.h)
		r.want, r.place, r.ok = allocOf(r.h, r.b)
		rows = append(rows, r)
	}
	var together sync.WaitGroup
	for range 4 {
		together.Go(func() {
			for range 30 {
				for _, r := range rows {
					got, place, ok := impl.Alloc(r.h, r.b.fun, r.b.tag, r.b.kids)
					if !equalHeap(got, r.want) || place != r.place || ok != r.ok || impl.Room(r.h) != roomOf(r.h) {
						t.Errorf("Alloc(%s, %v) = %s, %d, %v", shown(r.h), r.b, shown(got), place, ok)
					}
				}
			}
		})
	}
	together.Wait()
}

// What is far too much does not make it slow.
func TestHeapIsNotSlow(t *testing.T) {
	full := heapOfBlocks(3000, 3000, slices.Repeat([]heapBlock{heapCon(0, 2*3000, 2*3000)}, 1000)...)
	for range 300 {
		if !impl.HeapOk(full) || impl.Room(full) != 0 {
			t.Fatal("a full heap is not right")
		}
	}
	long := impl.Heap{Words: slices.Repeat([]int{1}, 5000000), Half: 2500000, Next: 2500000}
	kids := make([]int, 5000000)
	for range 5 {
		if got, _, ok := impl.Alloc(long, false, 0, nil); ok || !equalHeap(got, long) || impl.HeapOk(long) || impl.Room(long) != 0 {
			t.Fatal("a heap that is far too long is right")
		}
		if _, _, ok := impl.Alloc(full, false, 0, kids); ok {
			t.Fatal("far too many kids fit")
		}
	}
}

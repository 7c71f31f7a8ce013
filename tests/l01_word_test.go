package tests

import (
	"math"
	"math/big"
	"strings"
	"testing"

	"loop.example/g00396/impl"
)

const (
	leastWord    = -1073741824
	greatestWord = 1073741823
	wordSpan     = 2147483648
)

// manyInts: small ones, both sides of every power of two, and numbers spread over all ints by a fixed rule.
func manyInts() []int {
	list := []int{math.MinInt, math.MinInt + 1, math.MaxInt, math.MaxInt - 1}
	for n := -300; n <= 300; n++ {
		list = append(list, n)
	}
	for bit := 0; bit < 63; bit++ {
		for near := -2; near <= 2; near++ {
			list = append(list, 1<<bit+near, -(1<<bit)+near)
		}
	}
	next := uint64(1)
	for range 5000 {
		next = next*6364136223846793005 + 1442695040888963407
		list = append(list, int(next), int(next)>>20, int(next)>>33)
	}
	return list
}

// roundOf reckons in numbers without ends, so that it shares no overflow with the program.
func roundOf(n int) int {
	span := big.NewInt(wordSpan)
	left := new(big.Int).Sub(big.NewInt(int64(n)), big.NewInt(leastWord))
	left.Mod(left, span)
	return int(left.Int64()) + leastWord
}

func TestWordOkEnds(t *testing.T) {
	for _, n := range []int{leastWord, leastWord + 1, -1, 0, 1, 70, greatestWord - 1, greatestWord} {
		if !impl.WordOk(n) {
			t.Errorf("WordOk(%d) is false", n)
		}
	}
	for _, n := range []int{math.MinInt, -wordSpan, leastWord - 1, greatestWord + 1, wordSpan, 1 << 32, 1<<32 + 5, math.MaxInt} {
		if impl.WordOk(n) {
			t.Errorf("WordOk(%d) is true", n)
		}
	}
}

func TestRoundTable(t *testing.T) {
	for _, c := range []struct{ n, want int }{
		{0, 0}, {1, 1}, {-1, -1}, {70, 70}, {-70, -70},
		{leastWord, leastWord}, {greatestWord, greatestWord},
		{leastWord - 1, greatestWord}, {greatestWord + 1, leastWord},
		{wordSpan, 0}, {-wordSpan, 0}, {wordSpan - 1, -1}, {1 - wordSpan, 1},
		{1<<32 + 5, 5}, {3*wordSpan + 7, 7}, {-3*wordSpan - 7, -7},
		{leastWord * leastWord, 0}, {greatestWord * greatestWord, 1},
		{math.MinInt, 0}, {math.MaxInt, -1},
	} {
		if got := impl.Round(c.n); got != c.want {
			t.Errorf("Round(%d) = %d, not %d", c.n, got, c.want)
		}
	}
}

func TestRoundIsAWord(t *testing.T) {
	for _, n := range manyInts() {
		got := impl.Round(n)
		if !impl.WordOk(got) || got < leastWord || got > greatestWord {
			t.Errorf("Round(%d) = %d is no word", n, got)
		}
		if want := roundOf(n); got != want {
			t.Errorf("Round(%d) = %d, not %d", n, got, want)
		}
		if again := impl.Round(got); again != got {
			t.Errorf("Round of the word %d is %d", got, again)
		}
		if impl.WordOk(n) != (got == n) {
			t.Errorf("WordOk(%d) is %v, but it goes round to %d", n, impl.WordOk(n), got)
		}
	}
}

func TestDigitsTable(t *testing.T) {
	for _, c := range []struct {
		n    int
		want string
	}{
		{0, "0"}, {7, "7"}, {-7, "-7"}, {10, "10"}, {-100, "-100"}, {1005, "1005"},
		{leastWord, "-1073741824"}, {greatestWord, "1073741823"},
		{leastWord - 1, "-1073741825"}, {greatestWord + 1, "1073741824"},
		{math.MinInt, "-9223372036854775808"}, {math.MaxInt, "9223372036854775807"},
	} {
		if got := impl.Digits(c.n); got != c.want {
			t.Errorf("Digits(%d) = %q, not %q", c.n, got, c.want)
		}
	}
}

func TestDigitsOfMany(t *testing.T) {
	for _, n := range manyInts() {
		if got, want := impl.Digits(n), big.NewInt(int64(n)).String(); got != want {
			t.Errorf("Digits(%d) = %q, not %q", n, got, want)
		}
	}
}

func TestNumberTable(t *testing.T) {
	for _, c := range []struct {
		s    string
		want int
	}{
		{"0", 0}, {"7", 7}, {"10", 10}, {"100", 100}, {"1005", 1005},
		{"999999999", 999999999}, {"1000000000", 1000000000},
		{"1073741822", greatestWord - 1}, {"1073741823", greatestWord},
	} {
		if got, ok := impl.Number(c.s); !ok || got != c.want {
			t.Errorf("Number(%q) = %d, %v, not %d", c.s, got, ok, c.want)
		}
	}
}

// Number is true of just those digits that are of a word from 0 on, whatever number they are of.
func TestNumberOfDigits(t *testing.T) {
	for _, n := range manyInts() {
		want, fits := 0, n >= 0 && n <= greatestWord
		if fits {
			want = n
		}
		if got, ok := impl.Number(impl.Digits(n)); ok != fits || got != want {
			t.Errorf("Number(%q) = %d, %v", impl.Digits(n), got, ok)
		}
	}
}

func TestNumberRefuses(t *testing.T) {
	many := 100000
	for _, s := range []string{
		"", " ", "-", "+", "-0", "+0", "-1", "+1", "--1", "-70", "-1073741824",
		"00", "01", "007", "0000000000", "01073741823", "-01",
		"x", "1x", "x1", "1 ", " 1", "1\n", "\n1", "1\x00", "\x001", "1_000", "_1", "1.0", "1e3", "0x1", "0b1", "0o7", "1,000",
		"\xff", "1\xff", "/", ":", "1/", "1:", "\u0661", "\uff11", "1\u0660", "NaN",
		"1073741824", "1073741833", "2147483647", "2147483648", "4294967296", "4294967297", "9999999999", "10737418230",
		"9223372036854775807", "9223372036854775808", "18446744073709551615", "18446744073709551616", "18446744073709551617",
		strings.Repeat("9", many), strings.Repeat("0", many), strings.Repeat("0", many) + "1", "1" + strings.Repeat("0", many), strings.Repeat("-", many),
	} {
		if got, ok := impl.Number(s); ok || got != 0 {
			t.Errorf("Number(%.30q) = %d, %v", s, got, ok)
		}
	}
}

// Every other byte in the place of each digit of a word's digits makes it none.
func TestNumberRefusesOtherBytes(t *testing.T) {
	for at := range len("1024") {
		for b := range 256 {
			if b >= '0' && b <= '9' {
				continue
			}
			s := []byte("1024")
			s[at] = byte(b)
			if got, ok := impl.Number(string(s)); ok || got != 0 {
				t.Errorf("Number(%q) = %d, %v", s, got, ok)
			}
		}
	}
}

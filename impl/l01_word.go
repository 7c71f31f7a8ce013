package impl

import "strconv"

// word holds any int, so that what lies past a word's ends can be asked about and brought round.
type word int

const (
	leastWord    word = -1073741824
	greatestWord word = 1073741823
)

func (w word) ok() bool {
	return leastWord <= w && w <= greatestWord
}

// A word has 31 bits: the two shifts drop all higher ones and draw the sign from the 31st,
// so no sum is made that could pass the ends of an int.
func (w word) round() word {
	return word(int32(w) << 1 >> 1)
}

func (w word) digits() string {
	return strconv.Itoa(int(w))
}

func WordOk(n int) bool {
	return word(n).ok()
}

func Round(n int) int {
	return int(word(n).round())
}

func Digits(n int) string {
	return word(n).digits()
}

// readWord holds s against the digits of what was read, because strconv also reads
// a plus ahead, needless noughts and a nought below 0, which no word's digits have.
func readWord(s string) (word, bool) {
	n, err := strconv.Atoi(s)
	w := word(n)
	if err != nil || !w.ok() || w.digits() != s {
		return 0, false
	}
	return w, true
}

func Number(s string) (int, bool) {
	w, ok := readWord(s)
	if !ok || w < 0 {
		return 0, false
	}
	return int(w), true
}

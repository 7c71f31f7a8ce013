package tests

import (
	"math/big"
	"reflect"
	"regexp"
	"strings"
	"testing"

	"loop.example/g00396/impl"
)

const nameTail = `[-a-z0-9+*<=?._]*$`

var (
	nameForm   = regexp.MustCompile(`^[a-z+*<=?._]` + nameTail + `|^-$|^-[-a-z+*<=?._]` + nameTail)
	numberForm = regexp.MustCompile(`^(0|-?[1-9][0-9]*)$`)
	tokenForm  = regexp.MustCompile(`(?s)[()]|[^ \n()]+`)
)

func nameOf(s string) bool {
	return len(s) <= impl.MaxName && nameForm.MatchString(s)
}

// numberOf reckons in numbers without ends, so that no digits go round into a word.
func numberOf(s string) (int, bool) {
	n, ok := new(big.Int).SetString(s, 10)
	if !ok || !numberForm.MatchString(s) || n.Cmp(big.NewInt(leastWord)) < 0 || n.Cmp(big.NewInt(greatestWord)) > 0 {
		return 0, false
	}
	return int(n.Int64()), true
}

func tokenOf(s string, at int) (impl.Token, bool) {
	token := impl.Token{At: at, Text: s}
	n, isNumber := numberOf(s)
	switch {
	case s == "(":
		token.Kind = impl.TkOpen
	case s == ")":
		token.Kind = impl.TkClose
	case isNumber:
		token.Kind, token.N = impl.TkNum, n
	case nameOf(s):
		token.Kind = impl.TkSym
	default:
		return impl.Token{}, false
	}
	return token, true
}

// tokensOf says by expressions what Tokens says sign by sign.
func tokensOf(s string) ([]impl.Token, int) {
	if len(s) > impl.MaxText {
		return nil, 0
	}
	var list []impl.Token
	for _, span := range tokenForm.FindAllStringIndex(s, -1) {
		token, ok := tokenOf(s[span[0]:span[1]], span[0])
		if !ok {
			return nil, span[0]
		}
		list = append(list, token)
	}
	return list, -1
}

func sameTokens(a, b []impl.Token) bool {
	return len(a) == 0 && len(b) == 0 || reflect.DeepEqual(a, b)
}

func checkTokens(t *testing.T, s string) {
	t.Helper()
	want, wantBad := tokensOf(s)
	got, bad := impl.Tokens(s)
	if bad != wantBad || !sameTokens(got, want) {
		t.Errorf("Tokens(%.60q) = %.300v, %d, not %.300v, %d", s, got, bad, want, wantBad)
	}
}

// everyText calls each with every text of at most most of the bytes of signs.
func everyText(signs string, most int, each func(string)) {
	var grow func(s string)
	grow = func(s string) {
		each(s)
		for i := 0; i < len(signs) && len(s) < most; i++ {
			grow(s + signs[i:i+1])
		}
	}
	grow("")
}

func TestTokenLimits(t *testing.T) {
	if impl.MaxText != 4000 || impl.MaxName != 12 || impl.TkOpen != 1 || impl.TkClose != 2 || impl.TkNum != 3 || impl.TkSym != 4 {
		t.Error("a constant of the chapter is another")
	}
}

func TestSymOkTakes(t *testing.T) {
	for _, s := range []string{
		"a", "z", "x", "lambda", "let-syntax", "x1", "a0b9", "abcdefghijkl", "a23456789012",
		"+", "-", "*", "<", "=", "?", ".", "_", "...", "<=", "+-*<=?._", "_a", "a_", ".1", "+1", "*0", "?9", "=1", "<0", "_1",
		"-a", "--", "-+", "-.", "-_", "--1", "-+1", "-a1", "a-1", "-x", "------------", "-..........9",
	} {
		if !impl.SymOk(s) {
			t.Errorf("SymOk(%q) is false", s)
		}
	}
}

func TestSymOkRefuses(t *testing.T) {
	for _, s := range []string{
		"", " ", "\n", "(", ")", "()", "a b", "a ", " a", "a\n", "\na", "a(", "a)",
		"0", "9", "1a", "12", "0-", "9.", "-0", "-1", "-9", "-1a", "-12", "-0-",
		"A", "Z", "aB", "`", "{", "a`", "a{", "@", "[", "/", ":", "a/", "a:", ">", "a>", ",", "a,", ";", "'", "\"", "#", "!", "a!", "|", "~", "^",
		"a\x00", "\x00", "\t", "a\t", "\r", "\x7f", "\x80", "\xff", "a\xff", "\xc3", "a\xc3", "\u00e9", "a\u00e9", "\u03bb", "\ufffd", "a\ufffd", "\u0661", "\uff41", "\U0001f600",
		"abcdefghijklm", "a234567890123", "-------------", "\u00e9\u00e9\u00e9\u00e9\u00e9\u00e9\u00e9", strings.Repeat("a", 100000),
	} {
		if impl.SymOk(s) {
			t.Errorf("SymOk(%.30q) is true", s)
		}
	}
}

func TestSymOkLength(t *testing.T) {
	for n := 1; n <= 40; n++ {
		for _, sign := range []string{"a", "-", ".", "z"} {
			if got, want := impl.SymOk(strings.Repeat(sign, n)), n <= impl.MaxName; got != want {
				t.Errorf("SymOk of %d times %q is %v", n, sign, got)
			}
		}
	}
}

// Each byte first, behind a letter, behind a minus, and last in a name of full length.
func TestSymOkEachByte(t *testing.T) {
	for b := range 256 {
		sign := string([]byte{byte(b)})
		for _, s := range []string{sign, sign + "a", "a" + sign, "-" + sign, "-" + sign + "a", "a" + sign + "a", "-a" + sign, "abcdefghijk" + sign, "abcdefghijkl" + sign} {
			if got, want := impl.SymOk(s), nameOf(s); got != want {
				t.Errorf("SymOk(%q) is %v", s, got)
			}
		}
	}
}

func TestSymOkSmallTexts(t *testing.T) {
	everyText("az09+-*<=?._A \n()/", 3, func(s string) {
		if got, want := impl.SymOk(s), nameOf(s); got != want {
			t.Errorf("SymOk(%q) is %v", s, got)
		}
	})
}

func TestTokensTable(t *testing.T) {
	open := func(at int) impl.Token { return impl.Token{Kind: impl.TkOpen, At: at, Text: "("} }
	closed := func(at int) impl.Token { return impl.Token{Kind: impl.TkClose, At: at, Text: ")"} }
	sym := func(at int, s string) impl.Token { return impl.Token{Kind: impl.TkSym, At: at, Text: s} }
	num := func(at, n int, s string) impl.Token { return impl.Token{Kind: impl.TkNum, At: at, N: n, Text: s} }
	for _, c := range []struct {
		s    string
		want []impl.Token
	}{
		{"", nil}, {" ", nil}, {"\n", nil}, {" \n \n\n  ", nil},
		{"x", []impl.Token{sym(0, "x")}},
		{"  x\n", []impl.Token{sym(2, "x")}},
		{"x\ny z", []impl.Token{sym(0, "x"), sym(2, "y"), sym(4, "z")}},
		{"()", []impl.Token{open(0), closed(1)}},
		{")(", []impl.Token{closed(0), open(1)}},
		{"x(", []impl.Token{sym(0, "x"), open(1)}},
		{"x)y", []impl.Token{sym(0, "x"), closed(1), sym(2, "y")}},
		{"12)", []impl.Token{num(0, 12, "12"), closed(2)}},
		{"(1)2(3", []impl.Token{open(0), num(1, 1, "1"), closed(2), num(3, 2, "2"), open(4), num(5, 3, "3")}},
		{"(if (< x 10)\n  -7 y)", []impl.Token{open(0), sym(1, "if"), open(4), sym(5, "<"), sym(7, "x"), num(9, 10, "10"), closed(11), num(15, -7, "-7"), sym(18, "y"), closed(19)}},
		{"-", []impl.Token{sym(0, "-")}},
		{"-)", []impl.Token{sym(0, "-"), closed(1)}},
		{"- 1", []impl.Token{sym(0, "-"), num(2, 1, "1")}},
		{"-(1", []impl.Token{sym(0, "-"), open(1), num(2, 1, "1")}},
		{"-1", []impl.Token{num(0, -1, "-1")}},
		{"--1", []impl.Token{sym(0, "--1")}},
		{"-+1", []impl.Token{sym(0, "-+1")}},
		{"+1", []impl.Token{sym(0, "+1")}},
		{"-x", []impl.Token{sym(0, "-x")}},
		{"...", []impl.Token{sym(0, "...")}},
		{"a-1", []impl.Token{sym(0, "a-1")}},
		{"0", []impl.Token{num(0, 0, "0")}},
		{"-1073741824", []impl.Token{num(0, leastWord, "-1073741824")}},
		{"1073741823", []impl.Token{num(0, greatestWord, "1073741823")}},
		{"abcdefghijkl", []impl.Token{sym(0, "abcdefghijkl")}},
		{"-abcdefghijk(", []impl.Token{sym(0, "-abcdefghijk"), open(12)}},
	} {
		if got, bad := impl.Tokens(c.s); bad != -1 || !sameTokens(got, c.want) {
			t.Errorf("Tokens(%q) = %v, %d, not %v", c.s, got, bad, c.want)
		}
	}
}

func TestTokensRefuses(t *testing.T) {
	for _, c := range []struct {
		s   string
		bad int
	}{
		{"A", 0}, {"xA", 0}, {"x A", 2}, {"  A", 2}, {"(x A)", 3}, {"(A", 1}, {")xA(", 1},
		{"\t", 0}, {"x\ty", 0}, {"x \t y", 2}, {"\r\n", 0}, {"x\r\n", 0}, {"x\n\r", 2}, {"\x00", 0}, {"x \x00", 2},
		{"\xff", 0}, {"x \xff", 2}, {"(x\xc3\xa9)", 1}, {"\u03bb", 0}, {"x (\u03bb)", 3}, {"x\u00a0y", 0}, {"x \u2003 y", 2}, {"a \xe2\x82(", 2}, {"(x)\u00e9", 3},
		{"01", 0}, {"x 01", 2}, {"00", 0}, {"-0", 0}, {"-01", 0}, {"-00", 0}, {"007", 0}, {"1a", 0}, {"1-", 0}, {"1.5", 0}, {"-1a", 0}, {"-1-", 0}, {"12x(", 0}, {"(12x", 1}, {"1_0", 0}, {"0x1", 0}, {"1+", 0},
		{"-1073741825", 0}, {"1073741824", 0}, {"x -1073741825", 2}, {"( 1073741824)", 2}, {"4294967297", 0}, {"18446744073709551617", 0}, {"-18446744073709551617", 0},
		{"abcdefghijklm", 0}, {"x abcdefghijklm y", 2}, {"-abcdefghijkl", 0},
		{"A B", 0}, {"x A B", 2}, {"1a A", 0}, {"x 1a A", 2}, {"x A 1a", 2}, {"x 01 abcdefghijklm", 2},
		{"'x", 0}, {"#t", 0}, {"(x . [y])", 5}, {"x;", 0}, {"\"s\"", 0}, {"x>y", 0},
	} {
		if got, bad := impl.Tokens(c.s); bad != c.bad || len(got) != 0 {
			t.Errorf("Tokens(%q) = %v, %d, not %d", c.s, got, bad, c.bad)
		}
	}
}

func TestTokensTextLength(t *testing.T) {
	for _, unit := range []string{" ", "(", "\n", "x ", "(x)", "12 "} {
		whole := strings.Repeat(unit, impl.MaxText)
		checkTokens(t, whole[:impl.MaxText])
		if _, bad := impl.Tokens(whole[:impl.MaxText]); bad != -1 {
			t.Errorf("%d bytes of %q are refused at %d", impl.MaxText, unit, bad)
		}
		for _, n := range []int{impl.MaxText + 1, impl.MaxText + 2, 2 * impl.MaxText} {
			if got, bad := impl.Tokens((whole + whole)[:n]); bad != 0 || len(got) != 0 {
				t.Errorf("%d bytes of %q: %d tokens, %d", n, unit, len(got), bad)
			}
		}
	}
	full := strings.Repeat(" ", impl.MaxText-1)
	if got, bad := impl.Tokens(full + "A"); bad != impl.MaxText-1 || len(got) != 0 {
		t.Errorf("a wrong last byte is told at %d", bad)
	}
	// The length is of bytes, not of signs, and is asked ahead of what stands in the text.
	for _, s := range []string{full + " A", full + "\u00e9", full + "xy", strings.Repeat("\u00e9", 2001)} {
		if got, bad := impl.Tokens(s); bad != 0 || len(got) != 0 {
			t.Errorf("a text of %d bytes is told at %d", len(s), bad)
		}
	}
}

// Each byte in the first token, behind right ones, in the midst of one and between brackets.
func TestTokensEachByte(t *testing.T) {
	for b := range 256 {
		sign := string([]byte{byte(b)})
		for _, s := range []string{sign, "x" + sign, sign + "x", "x" + sign + "y", "x " + sign, "(x 12 " + sign + "y)", "(" + sign + ")", "1" + sign, "-" + sign, "-" + sign + "1", "x (y" + sign + "z) A"} {
			checkTokens(t, s)
		}
	}
}

func TestTokensSmallTexts(t *testing.T) {
	everyText("a019-+.( \n)A\xc3\xa9", 4, func(s string) { checkTokens(t, s) })
	everyText("a10- (", 6, func(s string) { checkTokens(t, s) })
}

func TestTokensOfNumbers(t *testing.T) {
	for _, n := range manyInts() {
		for _, s := range []string{impl.Digits(n), "(x " + impl.Digits(n) + ")", "0" + impl.Digits(n), "-" + impl.Digits(n)} {
			checkTokens(t, s)
		}
	}
}

// longText is of tokens and now and then something that is none, put behind each other by a fixed rule.
func longText(seed uint64, parts []string, most int) string {
	var b strings.Builder
	for range 900 {
		seed = seed*6364136223846793005 + 1442695040888963407
		part := parts[int(seed>>40)%len(parts)]
		if b.Len()+len(part) > most {
			break
		}
		b.WriteString(part)
	}
	return b.String()
}

func TestTokensLongTexts(t *testing.T) {
	right := []string{" ", " ", " ", "\n", "(", ")", " x ", " 12 ", " -7 ", " let ", " ... ", "(", "-", " 1073741823 ", " -1073741824)", " ab1 ", "x "}
	for seed := range 200 {
		checkTokens(t, longText(uint64(seed), right, impl.MaxText))
		checkTokens(t, longText(uint64(seed), append([]string{"A", " 01 "}, right...), impl.MaxText))
	}
}

// What is told of each token is in the text there, and between tokens there are blanks alone.
func TestTokensStandWhereTold(t *testing.T) {
	parts := []string{" ", "\n", " \n ", "(", ")", " x ", "\n12 ", " -7(", " let)", " -\n", " abcdefghijkl ", ")1 "}
	told := 0
	for seed := range 200 {
		s := longText(uint64(seed), parts, impl.MaxText)
		list, bad := impl.Tokens(s)
		if bad != -1 {
			continue
		}
		end := 0
		for _, token := range list {
			told++
			if token.At < end || token.Text == "" || !strings.HasPrefix(s[token.At:], token.Text) || strings.Trim(s[end:token.At], " \n") != "" {
				t.Fatalf("%v does not stand in %q behind %d", token, s, end)
			}
			if want, ok := tokenOf(token.Text, token.At); !ok || want != token {
				t.Fatalf("%v is not %v", token, want)
			}
			end = token.At + len(token.Text)
		}
		if strings.Trim(s[end:], " \n") != "" {
			t.Fatalf("something of %q is left behind %d", s, end)
		}
	}
	if told < 1000 {
		t.Errorf("only %d tokens were looked at", told)
	}
}

func TestTokensAnswerIsNew(t *testing.T) {
	s := "(x 1)"
	first, _ := impl.Tokens(s)
	for i := range first {
		first[i] = impl.Token{Kind: 9, At: 9, N: 9, Text: "other"}
	}
	checkTokens(t, s)
}

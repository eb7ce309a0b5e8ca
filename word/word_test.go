package word

import (
	"encoding/hex"
	"math"
	"math/big"
	"regexp"
	"strings"
	"testing"

	"surety/api"
)

// The tests hold the functions against these descriptions, which are written
// in another way than the program: as regular expressions.
var (
	keyShape     = regexp.MustCompile(`^(let|rec|in|fun|if|then|else|match|with|end|true|false|int|bool|string|unit|list)\z`)
	nameShape    = regexp.MustCompile(`^[a-z][a-zA-Z0-9_']{0,31}\z`)
	numShape     = regexp.MustCompile(`^(0|~?[1-9][0-9]*)\z`)
	literalShape = regexp.MustCompile(`^"([ !#-\[\]-~]|\\([01][0-9a-f]|22|5c|7f|[89a-f][0-9a-f])){0,200}"\z`)
)

// texts calls f for each text of at most longest letters of the alphabet.
func texts(alphabet []string, longest int, f func(string)) {
	var extend func(s string, left int)
	extend = func(s string, left int) {
		f(s)
		if left == 0 {
			return
		}
		for _, letter := range alphabet {
			extend(s+letter, left-1)
		}
	}
	extend("", longest)
}

func bytesAsTexts() []string {
	var l []string
	for c := range 256 {
		l = append(l, string([]byte{byte(c)}))
	}
	return l
}

// P1.1: Key and Name.

func checkWord(t *testing.T, s string) {
	t.Helper()
	key := keyShape.MatchString(s)
	name := nameShape.MatchString(s) && !key
	if Key(s) != key || Name(s) != name {
		t.Errorf("%q: Key %v, want %v; Name %v, want %v", s, Key(s), key, Name(s), name)
	}
}

func TestKeyWordsAreNoNames(t *testing.T) {
	words := strings.Fields("let rec in fun if then else match with end true false int bool string unit list")
	if len(words) != 17 {
		t.Fatal("the list of key words is not whole")
	}
	for _, s := range words {
		if !Key(s) || Name(s) {
			t.Errorf("%q: Key %v, Name %v", s, Key(s), Name(s))
		}
	}
}

func TestWordsNearKeyWordsAreNames(t *testing.T) {
	for _, s := range strings.Fields("let rec in fun if then else match with end true false int bool string unit list") {
		for i := range len(s) {
			checkWord(t, s[:i])
			checkWord(t, s[i:])
			checkWord(t, s[:i]+"_"+s[i:])
			checkWord(t, s[:i]+strings.ToUpper(s[i:]))
			checkWord(t, s[:i]+s[i+1:])
		}
		for _, c := range bytesAsTexts() {
			checkWord(t, s+c)
			checkWord(t, c+s)
		}
	}
	for _, s := range []string{"lets", "recx", "fun'", "if_", "list0", "inn", "i", "unt", "of", "and", "nil", "str"} {
		if Key(s) || !Name(s) {
			t.Errorf("%q: Key %v, Name %v", s, Key(s), Name(s))
		}
	}
}

func TestEveryByteOfAName(t *testing.T) {
	texts(bytesAsTexts(), 2, func(s string) { checkWord(t, s) })
	for _, c := range bytesAsTexts() {
		for _, s := range []string{"ab" + c, "a" + c + "b", strings.Repeat("a", 31) + c, c + strings.Repeat("a", 31)} {
			checkWord(t, s)
		}
	}
	for _, s := range []string{"é", "aé", "ａ", "a\u0301", "a b", "a\n", "A", "_", "'", "0", "~a", "a-b", "a.b"} {
		if Key(s) || Name(s) {
			t.Errorf("%q: Key %v, Name %v", s, Key(s), Name(s))
		}
	}
}

func TestLengthOfAName(t *testing.T) {
	for n := range 100 {
		s := strings.Repeat("z", n)
		if got, want := Name(s), 1 <= n && n <= api.MaxName; got != want {
			t.Errorf("%d bytes: %v, want %v", n, got, want)
		}
	}
	if Name(strings.Repeat("a", 1<<20)) {
		t.Error("a name of a megabyte")
	}
}

// P1.1: Num and ParseNum.

func checkNum(t *testing.T, n int64) {
	t.Helper()
	want := strings.Replace(big.NewInt(n).String(), "-", "~", 1)
	if got := Num(n); got != want {
		t.Errorf("Num(%d) = %q, want %q", n, got, want)
	}
	if got, e := ParseNum(want); got != n || e != api.OK {
		t.Errorf("ParseNum(%q) = %d, %v", want, got, e)
	}
}

func checkParseNum(t *testing.T, s string) {
	t.Helper()
	var want int64
	wantErr := api.ErrText
	if numShape.MatchString(s) {
		n, _ := new(big.Int).SetString(strings.Replace(s, "~", "-", 1), 10)
		if n.IsInt64() {
			want, wantErr = n.Int64(), api.OK
		}
	}
	if n, e := ParseNum(s); n != want || e != wantErr {
		t.Errorf("ParseNum(%q) = %d, %v, want %d, %v", s, n, e, want, wantErr)
	}
}

func TestNumbersAreReadBack(t *testing.T) {
	for n := int64(-2000); n <= 2000; n++ {
		checkNum(t, n)
	}
	for shift := range 64 {
		for d := int64(-2); d <= 2; d++ {
			checkNum(t, int64(1)<<shift+d)
			checkNum(t, -(int64(1)<<shift)+d)
		}
	}
	power := int64(1)
	for range 18 {
		power *= 10
		checkNum(t, power)
		checkNum(t, power-1)
		checkNum(t, -power)
	}
}

func TestTextsOfNumbersOfTheDocument(t *testing.T) {
	if s := Num(-5); s != "~5" {
		t.Error(s)
	}
	if s := Num(math.MinInt64); s != "~9223372036854775808" {
		t.Error(s)
	}
	if n, e := ParseNum("~9223372036854775808"); n != math.MinInt64 || e != api.OK {
		t.Error(n, e)
	}
	for _, s := range []string{"~0", "007"} {
		if n, e := ParseNum(s); n != 0 || e != api.ErrText {
			t.Error(s, n, e)
		}
	}
}

func TestParseNumAcceptsTextsOfNumbersOnly(t *testing.T) {
	texts([]string{"0", "1", "9", "~", "-", "+", "_", " ", "a", "x"}, 4, func(s string) { checkParseNum(t, s) })
	texts(bytesAsTexts(), 2, func(s string) { checkParseNum(t, s) })
	for _, c := range bytesAsTexts() {
		for _, s := range []string{"12" + c, "1" + c + "2", "~" + c + "1", "~1" + c} {
			checkParseNum(t, s)
		}
	}
	for _, s := range []string{"0x10", "0b1", "0o7", "1e3", "1.0", "٣", "−5", "~~5", "~-5", "~+5", "-~5", "inf", "nan"} {
		checkParseNum(t, s)
	}
}

func TestParseNumAtTheEdges(t *testing.T) {
	for _, sign := range []string{"", "~", "-"} {
		for _, edge := range []string{"9223372036854775807", "18446744073709551616", "4294967296", "100000000000000000000"} {
			n, _ := new(big.Int).SetString(edge, 10)
			for d := int64(-3); d <= 3; d++ {
				checkParseNum(t, sign+new(big.Int).Add(n, big.NewInt(d)).String())
			}
		}
		for digits := 1; digits < 60; digits++ {
			checkParseNum(t, sign+strings.Repeat("9", digits))
			checkParseNum(t, sign+strings.Repeat("0", digits))
			checkParseNum(t, sign+strings.Repeat("0", digits)+"1")
			checkParseNum(t, sign+"1"+strings.Repeat("0", digits))
		}
	}
	if n, e := ParseNum(strings.Repeat("1", 1<<20)); n != 0 || e != api.ErrText {
		t.Error(n, e)
	}
}

// P1.2: Quote and Unquote.

func wantLiteral(s string) string {
	var b strings.Builder
	for _, c := range []byte(s) {
		if c < 0x20 || c > 0x7e || c == 0x22 || c == 0x5c {
			b.WriteString(`\` + hex.EncodeToString([]byte{c}))
		} else {
			b.WriteByte(c)
		}
	}
	return `"` + b.String() + `"`
}

func checkQuote(t *testing.T, s string) {
	t.Helper()
	literal, e := Quote(s)
	if want := wantLiteral(s); literal != want || e != api.OK {
		t.Errorf("Quote(%q) = %q, %v, want %q", s, literal, e, want)
	}
	if back, e := Unquote(literal); back != s || e != api.OK {
		t.Errorf("Unquote(%q) = %q, %v, want %q", literal, back, e, s)
	}
}

func checkUnquote(t *testing.T, s string) {
	t.Helper()
	text, e := Unquote(s)
	if !literalShape.MatchString(s) {
		if text != "" || e != api.ErrText {
			t.Errorf("Unquote(%q) = %q, %v, want none, %v", s, text, e, api.ErrText)
		}
		return
	}
	if e != api.OK || wantLiteral(text) != s {
		t.Errorf("Unquote(%q) = %q, %v", s, text, e)
	}
}

func TestStringsAreReadBack(t *testing.T) {
	texts(bytesAsTexts(), 2, func(s string) { checkQuote(t, s) })
	for _, c := range bytesAsTexts() {
		checkQuote(t, "a"+c+"b")
		checkQuote(t, strings.Repeat(c, api.MaxStr))
	}
	for _, s := range []string{`a"`, `\22`, `\\`, "é", "\n\t", "it's #1 ~ ok", "\u2028", "\xff\xfe", `""`} {
		checkQuote(t, s)
	}
	if literal, e := Quote(`a"`); literal != `"a\22"` || e != api.OK {
		t.Error(literal, e)
	}
}

func TestLengthOfAString(t *testing.T) {
	for n := range 2 * api.MaxStr {
		for _, c := range []string{"a", "\x00", "\""} {
			s := strings.Repeat(c, n)
			if n <= api.MaxStr {
				checkQuote(t, s)
				continue
			}
			if literal, e := Quote(s); literal != "" || e != api.ErrSize {
				t.Errorf("Quote of %d bytes: %q, %v", n, literal, e)
			}
			if text, e := Unquote(wantLiteral(s)); text != "" || e != api.ErrText {
				t.Errorf("Unquote for %d bytes: %q, %v", n, text, e)
			}
		}
	}
	long := strings.Repeat("é", api.MaxStr/2)
	checkQuote(t, long)
	if literal, e := Quote(long + "é"); literal != "" || e != api.ErrSize {
		t.Error("Quote counts something else than bytes:", literal, e)
	}
}

func TestUnquoteAcceptsLiteralsOnly(t *testing.T) {
	texts([]string{`"`, `\`, "a", "2", "5", "c", "C", "0", "\n"}, 5, func(s string) {
		checkUnquote(t, s)
		checkUnquote(t, `"`+s+`"`)
	})
	for c := range 256 {
		low := hex.EncodeToString([]byte{byte(c)})
		checkUnquote(t, `"\`+low+`"`)
		checkUnquote(t, `"\`+strings.ToUpper(low)+`"`)
		checkUnquote(t, `"\x`+low+`"`)
		checkUnquote(t, `"`+string([]byte{byte(c)})+`"`)
	}
	texts(bytesAsTexts(), 2, func(s string) { checkUnquote(t, `"\`+s+`"`) })
	for _, s := range []string{"", `"`, `a`, `"a`, `a"`, ` "a"`, `"a" `, `"a"b"`, `"\22`, `"\2"`, `"\"`, `'a'`, "`a`", `"\n"`, `"\u0041"`, `"\é"`} {
		if text, e := Unquote(s); text != "" || e != api.ErrText {
			t.Errorf("Unquote(%q) = %q, %v", s, text, e)
		}
	}
}

// P1.3: whatever is accepted is what Num and Quote write.

func FuzzReadBack(f *testing.F) {
	for _, s := range []string{"", "0", "~0", "007", "~5", `"a\22"`, `"\41"`, `"`, "x'", "let", "\xff"} {
		f.Add(s)
	}
	f.Fuzz(func(t *testing.T, s string) {
		checkWord(t, s)
		checkParseNum(t, s)
		checkUnquote(t, s)
		if n, e := ParseNum(s); e == api.OK && Num(n) != s {
			t.Errorf("%q is accepted, but %q is written", s, Num(n))
		}
		if text, e := Unquote(s); e == api.OK {
			if literal, e := Quote(text); literal != s || e != api.OK {
				t.Errorf("%q is accepted, but %q is written", s, literal)
			}
		}
		if len(s) <= api.MaxStr {
			checkQuote(t, s)
		}
	})
}

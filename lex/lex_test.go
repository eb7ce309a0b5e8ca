package lex

import (
	"bytes"
	"regexp"
	"slices"
	"strings"
	"testing"

	"surety/api"
	"surety/word"
)

// The tests hold Scan against these descriptions, which are written in another
// way than the program: as regular expressions.
var (
	blankShape = regexp.MustCompile(`^(?s:[\t\n\r ]+|#[^\n]*)`)
	wordShape  = regexp.MustCompile(`^[a-z][a-zA-Z0-9_']*`)
	numShape   = regexp.MustCompile(`^[0-9~][0-9]*`)
	strShape   = regexp.MustCompile(`^(?s:"[^"]*")`)
	signShape  = regexp.MustCompile(`^(->|::|==|[()\[\],:=|+\-*/<?_])`)
)

const keyWords = "let rec in fun if then else match with end true false int bool string unit list"

// wantToken is the token at the beginning of rest, or one of kind 0.
func wantToken(rest string) (t api.Token, size int) {
	if s := wordShape.FindString(rest); s != "" {
		switch {
		case slices.Contains(strings.Fields(keyWords), s):
			return api.Token{Kind: api.KWord, S: s}, len(s)
		case len(s) <= 32:
			return api.Token{Kind: api.KName, S: s}, len(s)
		}
	}
	if s := numShape.FindString(rest); s != "" {
		if n, e := word.ParseNum(s); e == api.OK {
			return api.Token{Kind: api.KNum, N: n}, len(s)
		}
	}
	if s := strShape.FindString(rest); s != "" {
		if text, e := word.Unquote(s); e == api.OK {
			return api.Token{Kind: api.KStr, S: text}, len(s)
		}
	}
	if s := signShape.FindString(rest); s != "" {
		return api.Token{Kind: api.KSign, S: s}, len(s)
	}
	return api.Token{}, 0
}

func wantScan(source string) (l []api.Token, at int, e api.Errno) {
	if len(source) > 16384 {
		return nil, 16384, api.ErrText
	}
	for from := 0; from < len(source); {
		if s := blankShape.FindString(source[from:]); s != "" {
			from += len(s)
			continue
		}
		t, size := wantToken(source[from:])
		if size == 0 {
			return nil, from, api.ErrText
		}
		t.From, t.To = from, from+size
		l = append(l, t)
		from += size
	}
	return l, 0, api.OK
}

func checkScan(t *testing.T, source string) {
	t.Helper()
	l, at, e := Scan([]byte(source))
	wantL, wantAt, wantE := wantScan(source)
	if !slices.Equal(l, wantL) || at != wantAt || e != wantE {
		t.Errorf("%.100q: %v, %d, %v; want %v, %d, %v", source, l, at, e, wantL, wantAt, wantE)
	}
}

func checkRefused(t *testing.T, source string, want int) {
	t.Helper()
	if l, at, e := Scan([]byte(source)); l != nil || at != want || e != api.ErrText {
		t.Errorf("%.100q: %v, %d, %v; want an error at %d", source, l, at, e, want)
	}
	checkScan(t, source)
}

func checkTokens(t *testing.T, source string, want ...api.Token) {
	t.Helper()
	if l, at, e := Scan([]byte(source)); !slices.Equal(l, want) || at != 0 || e != api.OK {
		t.Errorf("%.100q: %v, %d, %v; want %v", source, l, at, e, want)
	}
	checkScan(t, source)
}

// texts calls f for each text of at most longest letters of the alphabet.
func texts(alphabet []string, longest int, f func(string)) {
	var extend func(s string, left int)
	extend = func(s string, left int) {
		f(s)
		if left == 0 {
			return
		}
		for _, letter := range alphabet {
			extend(s+letter, left-1)
		}
	}
	extend("", longest)
}

func bytesAsTexts() []string {
	var l []string
	for c := range 256 {
		l = append(l, string([]byte{byte(c)}))
	}
	return l
}

// P2.1: the tokens.

func TestExamplesOfTheDocument(t *testing.T) {
	checkTokens(t, "x::~5",
		api.Token{Kind: api.KName, From: 0, To: 1, S: "x"},
		api.Token{Kind: api.KSign, From: 1, To: 3, S: "::"},
		api.Token{Kind: api.KNum, From: 3, To: 5, N: -5})
	checkTokens(t, "1a",
		api.Token{Kind: api.KNum, From: 0, To: 1, N: 1},
		api.Token{Kind: api.KName, From: 1, To: 2, S: "a"})
}

func TestNothingButBlanks(t *testing.T) {
	for _, source := range []string{"", " ", "\t\n\r ", "#", "##", "# let ; \" é\xff", "#\n", " #\n#\r\n\t# x\n", "#\x00\n"} {
		checkTokens(t, source)
	}
	if l, at, e := Scan(nil); l != nil || at != 0 || e != api.OK {
		t.Error(l, at, e)
	}
}

func TestOtherBytesAreNoBlanks(t *testing.T) {
	for _, c := range []string{"\x00", "\x01", "\x08", "\v", "\f", "\x0e", "\x1f", "\x7f", "\x85", "\xa0", "\u00a0", "\u2028", "\ufeff"} {
		checkRefused(t, c, 0)
		checkRefused(t, "a"+c+"b", 1)
		checkTokens(t, "#"+c)
	}
}

func TestARemarkEndsAtALineFeedOnly(t *testing.T) {
	name := api.Token{Kind: api.KName, From: 4, To: 5, S: "x"}
	checkTokens(t, "# a\nx", name)
	checkTokens(t, "#\r#\nx#y", name)
	checkTokens(t, "# a\rx")
	checkTokens(t, "# a\fx\v\u2028x")
	checkTokens(t, "\"#\"#\"", api.Token{Kind: api.KStr, From: 0, To: 3, S: "#"})
}

func TestKeyWordsAndNames(t *testing.T) {
	for _, s := range strings.Fields(keyWords) {
		checkTokens(t, s, api.Token{Kind: api.KWord, To: len(s), S: s})
		for _, longer := range []string{s + "'", s + "_", s + "0", s + "A", s + s} {
			checkTokens(t, longer, api.Token{Kind: api.KName, To: len(longer), S: longer})
		}
		for _, c := range bytesAsTexts() {
			checkScan(t, s+c)
			checkScan(t, c+s)
			checkScan(t, s[:1]+c+s[1:])
		}
	}
}

func TestLengthOfAWord(t *testing.T) {
	for n := 1; n < 100; n++ {
		s := strings.Repeat("z", n)
		if n <= api.MaxName {
			checkTokens(t, s, api.Token{Kind: api.KName, To: n, S: s})
		} else {
			checkRefused(t, "1 "+s, 2)
			checkRefused(t, "let "+s+" ;", 4)
		}
	}
}

func TestNumbers(t *testing.T) {
	for _, source := range []string{"0", "7", "10", "~1", "~10", "9223372036854775807", "~9223372036854775808"} {
		n, _ := word.ParseNum(source)
		checkTokens(t, source, api.Token{Kind: api.KNum, To: len(source), N: n})
	}
	for _, source := range []string{"~", "~0", "~~5", "~ 5", "00", "007", "~05", "~a", "9223372036854775808", "~9223372036854775809", strings.Repeat("1", 1000)} {
		checkRefused(t, source, 0)
		checkRefused(t, "x + "+source, 4)
	}
	checkTokens(t, "1~2",
		api.Token{Kind: api.KNum, From: 0, To: 1, N: 1},
		api.Token{Kind: api.KNum, From: 1, To: 3, N: -2})
	checkTokens(t, "-5",
		api.Token{Kind: api.KSign, From: 0, To: 1, S: "-"},
		api.Token{Kind: api.KNum, From: 1, To: 2, N: 5})
	for _, c := range bytesAsTexts() {
		for _, s := range []string{"12" + c, c + "1", "~1" + c + "2", "~" + c} {
			checkScan(t, s)
		}
	}
}

func TestStringLiterals(t *testing.T) {
	for _, s := range []string{"", "a", " ", "# no remark", "let", "a\"b\\", "\n\x00\xff", "é", strings.Repeat("\"", api.MaxStr)} {
		literal, _ := word.Quote(s)
		checkTokens(t, literal, api.Token{Kind: api.KStr, To: len(literal), S: s})
		checkTokens(t, literal+literal,
			api.Token{Kind: api.KStr, To: len(literal), S: s},
			api.Token{Kind: api.KStr, From: len(literal), To: 2 * len(literal), S: s})
	}
	for _, source := range []string{`"`, `"a`, `"a\22`, `"\"`, `"\41"`, `"\0A"`, `"\0"`, `"\zz"`, "\"\n\"", "\"é\"", "\"a\x00\"", "\"a\n", `"` + strings.Repeat("a", api.MaxStr+1) + `"`} {
		checkRefused(t, source, 0)
		checkRefused(t, "x\n"+source+" ;", 2)
	}
	for _, c := range bytesAsTexts() {
		for _, s := range []string{`"` + c + `"`, `"\` + c + `2"`, `"\2` + c + `"`, `"a"` + c, c + `"a"`} {
			checkScan(t, s)
		}
	}
}

func TestSigns(t *testing.T) {
	signs := strings.Fields("-> :: == ( ) [ ] , : = | + - * / < ? _")
	for _, s := range signs {
		checkTokens(t, s, api.Token{Kind: api.KSign, To: len(s), S: s})
	}
	texts(signs, 3, func(s string) { checkScan(t, s) })
	for _, c := range strings.Split("!$%&.;>@\\^`{}'ABZ", "") {
		checkRefused(t, c, 0)
		checkRefused(t, "x "+c, 2)
	}
	checkRefused(t, "=>", 1)
	checkRefused(t, ">=", 0)
	checkRefused(t, "-->>", 3)
	checkTokens(t, ":::",
		api.Token{Kind: api.KSign, From: 0, To: 2, S: "::"},
		api.Token{Kind: api.KSign, From: 2, To: 3, S: ":"})
}

func TestAllShortSources(t *testing.T) {
	texts(bytesAsTexts(), 2, func(s string) { checkScan(t, s) })
	texts(strings.Split("a1~ \n#\"\\2-:=>A;", ""), 4, func(s string) { checkScan(t, s) })
	texts([]string{"let", "x'", "~5", "0", `"a\22"`, `"`, "->", ":", "=", " ", "#", "\n", "_", "é"}, 4, func(s string) { checkScan(t, s) })
}

// P2.1: the errors.

// faults are sources with an error at 0 that hide nothing of what follows a blank.
func faults() []string {
	return []string{";", "A", "é", "'a", "~0", "007", strings.Repeat("a", 33), `"\41"`, "\x00"}
}

func TestTheErrorWithTheLeastOffset(t *testing.T) {
	const before = "let x = \"a\" in # ; 007\n x->~1 "
	for _, one := range faults() {
		checkRefused(t, before+one, len(before))
		checkRefused(t, before+one+"\"", len(before))
		for _, two := range faults() {
			checkRefused(t, one+" "+two, 0)
			checkRefused(t, before+one+" "+before+two, len(before))
		}
	}
}

func TestLengthOfASource(t *testing.T) {
	for _, c := range []string{"\n", "#", "1 ", "x ", "::", "\"a\"", ";"} {
		whole := strings.Repeat(c, api.MaxBytes+2)
		for n := api.MaxBytes - 2; n <= api.MaxBytes; n++ {
			checkScan(t, whole[:n])
		}
		for _, n := range []int{api.MaxBytes + 1, api.MaxBytes + 2, len(whole)} {
			checkRefused(t, whole[:n], api.MaxBytes)
		}
	}
	full := strings.Repeat(" ", api.MaxBytes-1)
	checkTokens(t, full+"x", api.Token{Kind: api.KName, From: api.MaxBytes - 1, To: api.MaxBytes, S: "x"})
	checkRefused(t, full+";", api.MaxBytes-1)
	for _, fault := range faults() {
		// The length is checked ahead of everything in the source.
		checkRefused(t, fault+" "+full, api.MaxBytes)
	}
	checkRefused(t, strings.Repeat("(", 1<<20), api.MaxBytes)
	signs, _, _ := Scan(bytes.Repeat([]byte("("), api.MaxBytes))
	if len(signs) != api.MaxBytes {
		t.Error("a full source of signs:", len(signs))
	}
}

// P2.1 with the rules: what is given stays as it is, and nothing of it is kept.

func TestTheSourceIsNotChangedAndNotKept(t *testing.T) {
	const source = "let x' = \"a\\22\" :: [] in x' # y"
	whole := []byte(source + "zz\"; spare")
	before := slices.Clone(whole)
	l, at, e := Scan(whole[:len(source)])
	if !bytes.Equal(whole, before) {
		t.Errorf("the source is changed: %q", whole)
	}
	for i := range whole {
		whole[i] = ';'
	}
	wantL, wantAt, wantE := wantScan(source)
	if !slices.Equal(l, wantL) || at != wantAt || e != wantE {
		t.Error(l, at, e)
	}
}

func TestSpareCapacityIsNotRead(t *testing.T) {
	whole := []byte(`ab 12 "a" :: = "\22"`)
	for from := range whole {
		for to := from; to <= len(whole); to++ {
			l, at, e := Scan(whole[from:to])
			wantL, wantAt, wantE := wantScan(string(whole[from:to]))
			if !slices.Equal(l, wantL) || at != wantAt || e != wantE {
				t.Errorf("%q: %v, %d, %v", whole[from:to], l, at, e)
			}
		}
	}
}

// P2.2: blanks between tokens.

// checkBlanks lays blank between the tokens of a source and around them.
func checkBlanks(t *testing.T, source, blank string) {
	t.Helper()
	l, _, e := Scan([]byte(source))
	if e != api.OK {
		return
	}
	spread := blank
	var want []api.Token
	for _, token := range l {
		text := source[token.From:token.To]
		token.From, token.To = len(spread), len(spread)+len(text)
		want = append(want, token)
		spread += text + blank
	}
	if len(spread) > api.MaxBytes {
		return
	}
	got, at, e := Scan([]byte(spread))
	if !slices.Equal(got, want) || at != 0 || e != api.OK {
		t.Errorf("%q: %v, %d, %v; want %v", spread, got, at, e, want)
	}
}

func TestBlanksChangeOffsetsOnly(t *testing.T) {
	pieces := []string{"let", "x'", "a", "~5", "0", `"# \22"`, "->", "-", "::", ":", "==", "=", "_", "[", "?"}
	for _, blank := range []string{" ", "\t", "\n", "\r", "\r\n  ", "#\n", "#let \" ; é\n", "  #\n#\n\t"} {
		texts(pieces, 3, func(s string) { checkBlanks(t, s, blank) })
	}
	const source = "let rec f(x:?)=match x with []->0|y::_->y+f \"a b\"end in f(1,~2)#end"
	checkBlanks(t, source, " ")
	checkBlanks(t, source, "# ~\n")
}

// TestTokensAreWrittenBack holds each token against its own text.
func TestTokensAreWrittenBack(t *testing.T) {
	const source = "let x=\"\\0a\\5c\"in(x,~9223372036854775808)->[0]::_*?#\n|match'/<"
	l, _, e := Scan([]byte(source))
	if e != api.OK || len(l) != 22 {
		t.Fatal(l, e)
	}
	for _, token := range l {
		text := token.S
		switch token.Kind {
		case api.KNum:
			text = word.Num(token.N)
		case api.KStr:
			text, _ = word.Quote(token.S)
		}
		if text != source[token.From:token.To] {
			t.Errorf("%v for %q", token, source[token.From:token.To])
		}
	}
}

func FuzzScan(f *testing.F) {
	for _, s := range []string{"", "x::~5", "1a", "let rec f (x : ?) = x in f 1", "\"a\\22\"#\n\"", "~", "\xff", "-->"} {
		f.Add(s)
	}
	f.Fuzz(func(t *testing.T, s string) {
		checkScan(t, s)
		checkBlanks(t, s, " ")
		checkBlanks(t, s, "#\n")
	})
}

package lexer

import (
	"math"
	"math/rand"
	"slices"
	"strings"
	"testing"

	"guerdon/api"
)

// rightTokens are tokens of every kind.
func rightTokens() []api.Token {
	l := []api.Token{
		newline(), name("a"), name("b_1"), name("prio"), name("abcdefghijklmnop"),
		number(api.TokInt, "0", 0), number(api.TokInt, "5", 5), number(api.TokInt, "2024", 2024), number(api.TokInt, "1000000000000", api.MaxInt),
		number(api.TokMoney, "0.00", 0), number(api.TokMoney, "0.05", 5), number(api.TokMoney, "12.50", 1250), number(api.TokMoney, "10000000000000.00", api.MaxCents),
		number(api.TokRate, "0.0000%", 0), number(api.TokRate, "12.5000%", 125000), number(api.TokRate, "100000.0000%", api.MaxRate),
		number(api.TokDate, "1900-01-01", 0), number(api.TokDate, "2024-02-29", 45349), number(api.TokDate, "2199-12-31", api.MaxDate),
		quoted(""), quoted(" "), quoted("x y"), quoted("#"), quoted("5"), quoted(strings.Repeat("~", 64)),
	}
	for _, s := range symbols {
		l = append(l, symbol(s))
	}
	return l
}

// P8.2: every kind of token as it would be read.
func TestFormat(t *testing.T) {
	checkText(t, "")
	checkText(t, "", []api.Token{}...)
	for _, token := range rightTokens() {
		want := token.Text
		if token.Kind == api.TokString {
			want = "\"" + token.Text + "\""
		}
		checkText(t, want, token)
		checkTokens(t, want, token)
	}
	checkText(t, "def a2 <= 12.50", name("def"), name("a2"), symbol("<="), number(api.TokMoney, "12.50", 1250))
	checkText(t, "\"x\" \"\" \" \"", quoted("x"), quoted(""), quoted(" "))
	checkText(t, "- 5 - 5", symbol("-"), number(api.TokInt, "5", 5), symbol("-"), number(api.TokInt, "5", 5))
	checkText(t, "12.5000% * 2024-02-29", number(api.TokRate, "12.5000%", 125000), symbol("*"), number(api.TokDate, "2024-02-29", 45349))
}

// P8.2: a blank stands between two tokens, but not beside a line feed.
func TestFormatGaps(t *testing.T) {
	a, n := name("a"), newline()
	checkText(t, "\n", n)
	checkText(t, "\n\n", n, n)
	checkText(t, "a\n", a, n)
	checkText(t, "\na", n, a)
	checkText(t, "a a", a, a)
	checkText(t, "a\na", a, n, a)
	checkText(t, "a\n\na a\n", a, n, n, a, a, n)
	checkText(t, "\n\na\n\n", n, n, a, n, n)
	checkText(t, "\"x\"\n\"x\" a\n5", quoted("x"), n, quoted("x"), a, n, number(api.TokInt, "5", 5))
	for _, x := range rightTokens() {
		for _, y := range rightTokens() {
			one, _ := Format([]api.Token{x})
			other, _ := Format([]api.Token{y})
			gap := " "
			if x == n || y == n {
				gap = ""
			}
			checkText(t, one+gap+other, x, y)
		}
	}
}

// P8.2: the offsets of the tokens do not count.
func TestFormatIgnoresOffsets(t *testing.T) {
	for _, at := range []int{0, 1, -1, 5, api.MaxText, math.MinInt, math.MaxInt} {
		for _, token := range rightTokens() {
			want, _ := Format([]api.Token{token})
			checkText(t, want, standing(token, at))
		}
		checkText(t, "a \"b\"\n5", standing(name("a"), at), standing(quoted("b"), -at), standing(newline(), at), standing(number(api.TokInt, "5", 5), at))
	}
}

// P8.2: a token of another kind, another number or another text than any text gives.
func TestFormatOtherFields(t *testing.T) {
	kinds := []int{0, -1, 1, 2, 3, 4, 5, 6, 7, 8, 9, 10, 256 + api.TokName, 1<<32 + api.TokInt, math.MinInt, math.MaxInt}
	for _, token := range rightTokens() {
		for _, kind := range kinds {
			// Between quotes nearly every text may stand.
			if kind != token.Kind && (kind != api.TokString || token.Kind == api.TokNewline || token.N != 0) {
				other := token
				other.Kind = kind
				checkNoText(t, other)
			}
		}
		for _, n := range []int{token.N + 1, token.N - 1, -token.N - 1, token.N + 1<<32, token.N * 10, token.N / 10, 0, 1, -1, math.MinInt, math.MaxInt} {
			if n != token.N {
				checkNoText(t, number(token.Kind, token.Text, n))
			}
		}
		if token.Kind != api.TokString {
			for _, text := range []string{"", " " + token.Text, token.Text + " ", token.Text + "\t", "\n" + token.Text, token.Text + "\n", token.Text + "#", "#" + token.Text, token.Text + ",", "0" + token.Text, "\"" + token.Text + "\"", token.Text + "\x00", token.Text + " " + token.Text, "-" + token.Text} {
				checkNoText(t, number(token.Kind, text, token.N))
			}
		}
	}
	checkNoText(t, api.Token{})
}

// P8.2: texts that Tokenize refuses or reads otherwise.
func TestFormatWrongTexts(t *testing.T) {
	for _, s := range []string{"", "A", "aB", "_", "_a", "1a", "5", "a b", "a.b", "a-b", "é", "a\x00", "a\xff", "abcdefghijklmnopq", strings.Repeat("a", 1000), strings.Repeat("a", api.MaxText+1), "\n", "=", "#", "\"a\""} {
		checkNoText(t, name(s))
	}
	for _, s := range []string{"", "!", ">", ">=", "=>", "<>", "===", "<==", "!==", "= =", "((", "()", "a", "5", ".", "%", "#", "\n", "\"", "\"\"", "/", ";", "−", "\x00", "\xff"} {
		checkNoText(t, symbol(s))
	}
	for _, s := range []string{"\"", "a\"", "\"a", "a\"b", "\"\"", "\" \"", "\n", "a\n", "\na", "a\nb", "\x1f", "\x7f", "\t", "\r", "\x00", "\x80", "\xff", "é", "a" + "\x1f" + "b", strings.Repeat("x", 65), strings.Repeat("x", 1000), strings.Repeat("x", api.MaxText+1), strings.Repeat("x", 64) + "\""} {
		checkNoText(t, quoted(s))
	}
	for _, s := range []string{"", " ", "\r", "\r\n", "\n\n", " \n", "\n ", "#\n", "a", "\\n"} {
		checkNoText(t, api.Token{Kind: api.TokNewline, Text: s})
	}
	for _, x := range []struct {
		kind int
		s    string
		n    int
	}{
		{api.TokInt, "", 0}, {api.TokInt, "00", 0}, {api.TokInt, "05", 5}, {api.TokInt, "-5", -5}, {api.TokInt, "+5", 5}, {api.TokInt, "5x", 5}, {api.TokInt, "5.", 5}, {api.TokInt, "5.00", 5}, {api.TokInt, "5.00", 500}, {api.TokInt, "1_000", 1000}, {api.TokInt, "1e3", 1000}, {api.TokInt, "0x5", 5}, {api.TokInt, "٥", 5}, {api.TokInt, "1000000000001", 1000000000001}, {api.TokInt, "9223372036854775808", math.MinInt}, {api.TokInt, "18446744073709551621", 5}, {api.TokInt, strings.Repeat("0", api.MaxText+1), 0},
		{api.TokMoney, "", 0}, {api.TokMoney, "5", 500}, {api.TokMoney, "5.0", 500}, {api.TokMoney, "5.000", 500}, {api.TokMoney, "5.000", 5000}, {api.TokMoney, "05.00", 500}, {api.TokMoney, "-5.00", -500}, {api.TokMoney, ".05", 5}, {api.TokMoney, "5,00", 500}, {api.TokMoney, "5.00.", 500}, {api.TokMoney, "5.00%", 500}, {api.TokMoney, "10000000000000.01", 1000000000000001},
		{api.TokRate, "", 0}, {api.TokRate, "%", 0}, {api.TokRate, "5%", 50000}, {api.TokRate, "5.00%", 50000}, {api.TokRate, "5.0000", 50000}, {api.TokRate, "5.00000%", 50000}, {api.TokRate, "05.0000%", 50000}, {api.TokRate, "-5.0000%", -50000}, {api.TokRate, "5.0000 %", 50000}, {api.TokRate, "5.0000%%", 50000}, {api.TokRate, "100000.0001%", 1000000001},
		{api.TokDate, "", 0}, {api.TokDate, "2024-02-30", 45350}, {api.TokDate, "2023-02-29", 44984}, {api.TokDate, "1899-12-31", -1}, {api.TokDate, "2200-01-01", api.MaxDate + 1}, {api.TokDate, "0000-00-00", 0}, {api.TokDate, "2024-2-29", 45349}, {api.TokDate, "2024-02-29x", 45349}, {api.TokDate, "2024-02-290", 45349}, {api.TokDate, "2024/02/29", 45349}, {api.TokDate, "24-02-29", 45349}, {api.TokDate, "2024-02-2", 45349}, {api.TokDate, "1900-01-01-", 0},
	} {
		checkNoText(t, number(x.kind, x.s, x.n))
	}
}

// P8.2: one wrong token among many right ones, in every place.
func TestFormatFindsWrongToken(t *testing.T) {
	right := rightTokens()
	for i := range right {
		for _, wrong := range []api.Token{{}, name("A"), number(api.TokInt, "5", 6), number(api.TokName, "a", 1), {Kind: api.TokNewline, Text: "\n", N: 1}, quoted("\x1f"), symbol("!")} {
			l := slices.Clone(right)
			l[i] = wrong
			if s, code := Format(l); s != "" || code != api.ErrFormat {
				t.Errorf("Format with %v at %d = %s, %d", wrong, i, short(s), code)
			}
		}
	}
}

// P8.2 has no bound on the length of the text.
func TestFormatLongText(t *testing.T) {
	l := slices.Repeat([]api.Token{symbol("(")}, api.MaxText)
	checkText(t, strings.Repeat("( ", api.MaxText-1)+"(", l...)
	line := []api.Token{quoted(strings.Repeat("x", 64)), newline()}
	checkText(t, strings.Repeat("\""+strings.Repeat("x", 64)+"\"\n", 3000), slices.Repeat(line, 3000)...)
}

// P8.3: the identifiers.
func TestIsIdentifier(t *testing.T) {
	for _, s := range []string{"a", "z", "ab", "a1", "a_", "a_1", "b__", "x9", "abcdefghijklmnop", "a" + strings.Repeat("_", api.MaxName-1), "z" + strings.Repeat("9", api.MaxName-1), "income", "children", "rounding", "maximal", "i", "e", "o"} {
		if !IsIdentifier(s) {
			t.Errorf("%q is an identifier", s)
		}
	}
	for _, s := range []string{"", " ", "_", "_a", "__", "1", "1a", "0", "9z", "A", "Aa", "aA", "aZ", "a b", " a", "a ", "a\t", "a\n", "\na", "a#", "#a", "a.", "a.b", "a-b", "a%", "a,", "(a", "a)", "a=", "é", "aé", "éa", "ａ", "a\x00", "\x00a", "a\xff", "\xff", "\"a\"", "\"", "!", "=", "abcdefghijklmnopq", "a" + strings.Repeat("_", api.MaxName), strings.Repeat("a", 1000), strings.Repeat("a", api.MaxText+1), "2024-02-29", "12.50", "5"} {
		if IsIdentifier(s) {
			t.Errorf("%s is no identifier", short(s))
		}
	}
	for a := range 256 {
		s := string([]byte{byte(a)})
		lower, part := a >= 'a' && a <= 'z', a >= 'a' && a <= 'z' || a >= '0' && a <= '9' || a == '_'
		if IsIdentifier(s) != lower || IsIdentifier("q"+s) != part || IsIdentifier("q"+s+"q") != part || IsIdentifier(s+"q") != lower {
			t.Errorf("the byte %d in an identifier", a)
		}
	}
}

// P8.3: each reserved word, and what lies next to it.
func TestReservedWords(t *testing.T) {
	if len(reservedWords) != 55 {
		t.Fatalf("there are %d reserved words", len(reservedWords))
	}
	for _, s := range reservedWords {
		if IsIdentifier(s) {
			t.Errorf("%q is reserved", s)
		}
		for _, near := range []string{s + "_", s + "x", s + "0", "x" + s, s + s, s[1:], s[:len(s)-1], strings.ToUpper(s), s[:1] + strings.ToUpper(s[1:])} {
			if want := nameForm.FindString(near) == near && near != "" && !slices.Contains(reservedWords, near); IsIdentifier(near) != want {
				t.Errorf("IsIdentifier(%q) is not %t", near, want)
			}
		}
		for _, other := range []string{" " + s, s + " ", s + "\n", "\"" + s + "\"", s + " " + s} {
			if IsIdentifier(other) {
				t.Errorf("%q is no identifier", other)
			}
		}
	}
}

// P8.3: nothing else is reserved among short names and among words of laws.
func TestUnreservedWords(t *testing.T) {
	names := []string{"case", "law", "weeks", "week", "day", "add", "sub", "mul", "neg", "eq", "ne", "lt", "le", "for", "while", "switch", "return", "func", "var", "string", "float", "in", "on", "at", "by", "as", "a", "no", "none", "some", "each", "name", "value", "key", "guard", "parent", "priority", "valid", "until", "since", "source", "floor", "ceil", "nearest", "member", "inputs", "defs", "rules", "rows", "tables", "enums", "scopes", "lookup", "brackets", "bands", "now", "date1", "rates", "ints", "amount", "cents", "percent", "halves", "odd", "up_", "number", "xor", "mod", "abs", "average", "least", "switch", "elif", "endif", "unless", "otherwise"}
	letters := "abcdefghijklmnopqrstuvwxyz"
	for _, a := range letters {
		for _, b := range letters {
			for _, c := range letters {
				names = append(names, string(a)+string(b), string(a)+string(b)+string(c))
			}
		}
	}
	for _, s := range names {
		if IsIdentifier(s) == slices.Contains(reservedWords, s) {
			t.Errorf("IsIdentifier(%q) = %t", s, IsIdentifier(s))
		}
	}
}

// P8.4: what Format writes, Tokenize reads as the same tokens, at the offsets at which they stand.
func TestTokenizeOfFormat(t *testing.T) {
	source := rand.New(rand.NewSource(84))
	right := rightTokens()
	for range 50000 {
		l := make([]api.Token, source.Intn(12))
		for i := range l {
			l[i] = standing(right[source.Intn(len(right))], source.Intn(100)-50)
		}
		s, code := Format(l)
		if code != api.OK {
			t.Fatalf("Format(%v) fails with %d", l, code)
		}
		want, at := slices.Clone(l), 0
		for i := range want {
			if i > 0 && want[i].Kind != api.TokNewline && want[i-1].Kind != api.TokNewline {
				at++
			}
			want[i].Offset = at
			at += len(want[i].Text)
			if want[i].Kind == api.TokString {
				at += 2
			}
		}
		checkTokens(t, s, want...)
		if at != len(s) {
			t.Fatalf("Format(%v) has %d bytes, not %d", l, len(s), at)
		}
	}
}

// P8.4: the tokens of a text, written and read again, are the same but for their offsets.
func TestFormatOfTokenize(t *testing.T) {
	source := rand.New(rand.NewSource(86))
	found := 0
	for range 100000 {
		s := randomText(source)
		l, _, code := Tokenize(s)
		if code != api.OK {
			continue
		}
		text, code := Format(l)
		again, _, e := Tokenize(text)
		if code != api.OK || e != api.OK || !slices.Equal(withoutOffsets(again), withoutOffsets(l)) {
			t.Fatalf("Tokenize(%q) = %v, but Format gives %q, %d, which is %v, %d", s, l, text, code, again, e)
		}
		if once, code := Format(again); once != text || code != api.OK {
			t.Fatalf("Format gives %q for what %q gives", once, text)
		}
		found += len(l)
	}
	if found < 10000 {
		t.Errorf("there were only %d tokens", found)
	}
}

// P8.4: texts of MaxText bytes, and those that grow beyond it when they are written, which Tokenize refuses.
func TestLongRoundTrips(t *testing.T) {
	full := strings.Repeat("( ", api.MaxText/2-1) + "=="
	l, at, code := Tokenize(full)
	if len(l) != api.MaxText/2 || at != 0 || code != api.OK {
		t.Fatalf("there are %d tokens, %d, %d", len(l), at, code)
	}
	checkText(t, full, l...)
	dense := strings.Repeat("(", api.MaxText)
	l, at, code = Tokenize(dense)
	if len(l) != api.MaxText || at != 0 || code != api.OK {
		t.Fatalf("there are %d tokens, %d, %d", len(l), at, code)
	}
	text, code := Format(l)
	if len(text) != 2*api.MaxText-1 || code != api.OK {
		t.Fatalf("Format gives %d bytes, %d", len(text), code)
	}
	checkFails(t, text, 0, api.ErrTooLong)
}

// The lists that are given stay as they are, also behind their ends, and the same call answers the same.
func TestArgumentsUnchanged(t *testing.T) {
	right := rightTokens()
	for _, extra := range [][]api.Token{nil, {{}}, {name("A")}, {number(api.TokInt, "5", 6)}} {
		behind := slices.Concat(right, extra, []api.Token{name("behind"), {}})
		for i := range behind {
			behind[i].Offset = 1000 - i
		}
		before := slices.Clone(behind)
		for end := range len(behind) + 1 {
			given := behind[:end]
			text, code := Format(given)
			again, e := Format(given)
			if text != again || code != e || len(given) != end {
				t.Errorf("Format gives %q, %d and then %q, %d", text, code, again, e)
			}
		}
		if !slices.Equal(behind, before) {
			t.Errorf("%v became %v", before, behind)
		}
	}
}

// What Tokenize returns is new each time: changing it changes no later answer.
func TestAnswersAreNew(t *testing.T) {
	s := "def a <= \"x\"\n5 0.05 0.0005% 2024-02-29"
	first, _, _ := Tokenize(s)
	want := slices.Clone(first)
	second, _, _ := Tokenize(s)
	for i := range first {
		first[i] = api.Token{Kind: -1, Text: "changed", N: -1, Offset: -1}
	}
	if !slices.Equal(second, want) {
		t.Errorf("%v became %v", want, second)
	}
	checkTokens(t, s, want...)
}

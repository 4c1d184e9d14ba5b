package lexer

import (
	"fmt"
	"slices"
	"strings"
	"testing"
	"time"

	"guerdon/api"
)

var (
	symbols = []string{"<=", "==", "!=", "<", "=", "(", ")", ",", ":", "+", "-", "*"}
	// reservedWords are those of P8.3, in its order.
	reservedWords = strings.Fields("if then else or and not true false today share div round min max plus months days years year month tab band count sum all any most enum table row scope members input def rule of over prio from to end when is src bool int money rate date down up zero away half even")
	// anyBytes may stand in a comment, whatever they are elsewhere.
	anyBytes = "\x00\x01\t\r\x1f\x7f\x80\xc3\xa9\xff \"!%;>A_.007 é"
)

func name(text string) api.Token   { return api.Token{Kind: api.TokName, Text: text} }
func symbol(text string) api.Token { return api.Token{Kind: api.TokSymbol, Text: text} }
func quoted(text string) api.Token { return api.Token{Kind: api.TokString, Text: text} }
func newline() api.Token           { return api.Token{Kind: api.TokNewline, Text: "\n"} }

func number(kind int, text string, n int) api.Token {
	return api.Token{Kind: kind, Text: text, N: n}
}

// standing is a token at an offset.
func standing(token api.Token, at int) api.Token {
	token.Offset = at
	return token
}

// withoutOffsets are the same tokens, all at 0.
func withoutOffsets(l []api.Token) []api.Token {
	l = slices.Clone(l)
	for i := range l {
		l[i].Offset = 0
	}
	return l
}

func short(s string) string {
	if len(s) > 200 {
		return fmt.Sprintf("%q.. (%d bytes)", s[:200], len(s))
	}
	return fmt.Sprintf("%q", s)
}

func checkTokens(t *testing.T, s string, want ...api.Token) {
	t.Helper()
	l, at, code := Tokenize(s)
	if !slices.Equal(l, want) || at != 0 || code != api.OK {
		t.Errorf("Tokenize(%s) = %v, %d, %d, not %v", short(s), l, at, code, want)
	}
}

func checkFails(t *testing.T, s string, wantAt int, want api.Errno) {
	t.Helper()
	l, at, code := Tokenize(s)
	if len(l) != 0 || at != wantAt || code != want {
		t.Errorf("Tokenize(%s) = %v, %d, %d, not %d, %d", short(s), l, at, code, wantAt, want)
	}
}

func checkText(t *testing.T, want string, l ...api.Token) {
	t.Helper()
	s, code := Format(l)
	if s != want || code != api.OK {
		t.Errorf("Format(%v) = %s, %d, not %s", l, short(s), code, short(want))
	}
}

// checkNoText checks that a token can't be written, alone and among others.
func checkNoText(t *testing.T, wrong api.Token) {
	t.Helper()
	for _, l := range [][]api.Token{{wrong}, {name("a"), wrong}, {wrong, name("a")}, {newline(), wrong, newline()}, {quoted("x"), number(api.TokInt, "5", 5), wrong, wrong}} {
		if s, code := Format(l); s != "" || code != api.ErrFormat {
			t.Errorf("Format(%v) = %s, %d", l, short(s), code)
		}
	}
}

// checkSingle checks a text that is a single token, alone and with others about it.
func checkSingle(t *testing.T, s string, want api.Token) {
	t.Helper()
	checkTokens(t, s, want)
	checkTokens(t, "(\t"+s+" )\n", symbol("("), standing(want, 2), standing(symbol(")"), 3+len(s)), standing(newline(), 4+len(s)))
	checkTokens(t, s+"#"+s+"\n"+s, want, standing(newline(), 1+2*len(s)), standing(want, 2+2*len(s)))
	checkText(t, s, want)
	checkText(t, s+" "+s, standing(want, 7), want)
}

// checkWrong checks that what a text begins with is invalid, alone and behind other tokens.
func checkWrong(t *testing.T, s string, want api.Errno) {
	t.Helper()
	checkFails(t, s, 0, want)
	checkFails(t, " "+s, 1, want)
	checkFails(t, "a <= 5 "+s, 7, want)
	checkFails(t, "#\xff!\n\t("+s, 6, want)
	checkFails(t, "\"x\" 2024-02-29\n"+s+" !", 15, want)
}

// The chapter's examples.
func TestExamples(t *testing.T) {
	checkTokens(t, "def a2 <= 12.50 # x", name("def"), standing(name("a2"), 4), standing(symbol("<="), 7), standing(number(api.TokMoney, "12.50", 1250), 10))
	checkFails(t, "007", 0, api.ErrFormat)
	checkFails(t, "1 2024-02-30", 2, api.ErrRange)
	checkFails(t, "a \"b", 2, api.ErrTruncated)
	if IsIdentifier("prio") {
		t.Error("prio is reserved")
	}
	checkSingle(t, "12.5000%", number(api.TokRate, "12.5000%", 125000))
}

// P8.1: blanks and comments are no tokens, and line feeds are.
func TestGaps(t *testing.T) {
	for _, s := range []string{"", " ", "\t", " \t  \t\t ", "#", "##", "# ", "#x", " # x", "\t#\t", "# a \"b", "#007 !", "#" + anyBytes, "  #" + anyBytes + "#" + anyBytes} {
		n := len(s)
		checkTokens(t, s)
		checkTokens(t, s+"\n", standing(newline(), n))
		checkTokens(t, "\n"+s, newline())
		checkTokens(t, s+"\n"+s+"\n"+s, standing(newline(), n), standing(newline(), 2*n+1))
		checkTokens(t, "a"+s, name("a"))
		checkTokens(t, "a"+s+"\n:"+s, name("a"), standing(newline(), 1+n), standing(symbol(":"), 2+n))
		checkTokens(t, "\n"+s+"\n5", newline(), standing(newline(), 1+n), standing(number(api.TokInt, "5", 5), 2+n))
	}
	checkTokens(t, " 5", standing(number(api.TokInt, "5", 5), 1))
	checkTokens(t, "\t \t5\t ", standing(number(api.TokInt, "5", 5), 3))
	checkTokens(t, "\n\n\n", newline(), standing(newline(), 1), standing(newline(), 2))
	checkTokens(t, "a#b\n#c\n\n d#", name("a"), standing(newline(), 3), standing(newline(), 6), standing(newline(), 7), standing(name("d"), 9))
	checkTokens(t, "a # \"\n\"#\" # \"", name("a"), standing(newline(), 5), standing(quoted("#"), 6))
	checkTokens(t, "1#2", number(api.TokInt, "1", 1))
	checkTokens(t, "<#=\n=", symbol("<"), standing(newline(), 3), standing(symbol("="), 4))
}

// P8.1: other bytes that look blank are not.
func TestNoBlanks(t *testing.T) {
	for _, s := range []string{"\r", "\v", "\f", "\x00", "\u00a0", "\u2003", "\x85", "\r\n", "\ufeff", "\\", "\x1f", "\x7f"} {
		checkWrong(t, s, api.ErrFormat)
		checkWrong(t, s+"a", api.ErrFormat)
		checkFails(t, "a"+s, 1, api.ErrFormat)
		checkFails(t, "a \t"+s+" b", 3, api.ErrFormat)
	}
	checkFails(t, "a\r\nb\r\n", 1, api.ErrFormat)
}

// P8.1: every symbol alone, and the longest one of those that begin at a place.
func TestSymbols(t *testing.T) {
	for _, s := range symbols {
		checkSingle(t, s, symbol(s))
		checkTokens(t, s+"a"+s, symbol(s), standing(name("a"), len(s)), standing(symbol(s), len(s)+1))
		checkTokens(t, s+"5"+s, symbol(s), standing(number(api.TokInt, "5", 5), len(s)), standing(symbol(s), len(s)+1))
		checkTokens(t, s+"\"\""+s, symbol(s), standing(quoted(""), len(s)), standing(symbol(s), len(s)+2))
		checkTokens(t, s+"\n"+s, symbol(s), standing(newline(), len(s)), standing(symbol(s), len(s)+1))
		checkTokens(t, s+"#="+s, symbol(s))
	}
	checkTokens(t, "<==", symbol("<="), standing(symbol("="), 2))
	checkTokens(t, "<===", symbol("<="), standing(symbol("=="), 2))
	checkTokens(t, "===", symbol("=="), standing(symbol("="), 2))
	checkTokens(t, "====", symbol("=="), standing(symbol("=="), 2))
	checkTokens(t, "!==", symbol("!="), standing(symbol("="), 2))
	checkTokens(t, "=!=", symbol("="), standing(symbol("!="), 1))
	checkTokens(t, "==!=", symbol("=="), standing(symbol("!="), 2))
	checkTokens(t, "<<=", symbol("<"), standing(symbol("<="), 1))
	checkTokens(t, "=<", symbol("="), standing(symbol("<"), 1))
	checkTokens(t, "= =", symbol("="), standing(symbol("="), 2))
	checkTokens(t, "< =", symbol("<"), standing(symbol("="), 2))
	checkTokens(t, "--", symbol("-"), standing(symbol("-"), 1))
	checkTokens(t, "(),:+-*", symbol("("), standing(symbol(")"), 1), standing(symbol(","), 2), standing(symbol(":"), 3), standing(symbol("+"), 4), standing(symbol("-"), 5), standing(symbol("*"), 6))
}

// P8.1: every symbol next to every other one, without and with something between.
func TestSymbolPairs(t *testing.T) {
	for _, a := range symbols {
		for _, b := range symbols {
			longest, rest := a, b
			if (a == "<" || a == "=") && strings.HasPrefix(b, "=") {
				longest, rest = a+"=", b[1:]
			}
			want := []api.Token{symbol(longest)}
			if rest != "" {
				want = append(want, standing(symbol(rest), len(longest)))
			}
			checkTokens(t, a+b, want...)
			for _, gap := range []string{" ", "\t", "  "} {
				checkTokens(t, a+gap+b, symbol(a), standing(symbol(b), len(a)+len(gap)))
			}
			checkTokens(t, a+"\n"+b, symbol(a), standing(newline(), len(a)), standing(symbol(b), len(a)+1))
			checkText(t, a+" "+b, symbol(a), symbol(b))
		}
	}
}

// P8.1: an exclamation mark is no symbol unless an equals sign follows at once, and there is no symbol beside those listed.
func TestNoSymbols(t *testing.T) {
	for _, s := range []string{"!", "! =", "!!=", "!\n=", "!#=", "!<", "!a", "!\t=", ">", ">=", ">>", "/", ";", "[", "]", "{", "}", "&", "&&", "|", "^", "~", "%", "$", "?", "@", "'", "`", "\\", ".", "_", "_a", ".5", "%5", "A", "Z", "A1", "É", "é", "ß", "µ", "≤", "×", "−"} {
		checkWrong(t, s, api.ErrFormat)
		checkFails(t, "\n"+s, 1, api.ErrFormat)
	}
	checkFails(t, "=!", 1, api.ErrFormat)
	checkFails(t, "==!", 2, api.ErrFormat)
	checkFails(t, "!=!", 2, api.ErrFormat)
	checkFails(t, "<=>", 2, api.ErrFormat)
	checkFails(t, "<>", 1, api.ErrFormat)
	checkFails(t, "a!", 1, api.ErrFormat)
	checkFails(t, "a.b", 1, api.ErrFormat)
	checkFails(t, "5%", 1, api.ErrFormat)
	checkFails(t, "12.50%", 5, api.ErrFormat)
	checkFails(t, "12.5000%%", 8, api.ErrFormat)
	checkFails(t, "2024-02-29%", 10, api.ErrFormat)
}

// P8.1: the letters, digits and _ that belong to a name, and those that end it.
func TestNames(t *testing.T) {
	for _, s := range []string{"a", "z", "ab", "a1", "a_", "a_b", "z9", "a__", "a0123456789", "abcdefghijklm", "nopqrstuvwxyz", "x_1_2", "e5", strings.Repeat("a", api.MaxName), "a" + strings.Repeat("_", api.MaxName-1), "z" + strings.Repeat("9", api.MaxName-1), "abcdefghijklmnop"} {
		checkSingle(t, s, name(s))
		checkTokens(t, s+"\""+s+"\"", name(s), standing(quoted(s), len(s)))
		checkTokens(t, s+"-5", name(s), standing(symbol("-"), len(s)), standing(number(api.TokInt, "5", 5), len(s)+1))
		for _, behind := range []string{"A", "Z", ".", "%", "!", ">", "\x00", "\xff", "é", "\r", "$", "@", "`", "{", "/", ";", "[", "^"} {
			checkFails(t, s+behind, len(s), api.ErrFormat)
		}
	}
	for _, s := range reservedWords {
		checkSingle(t, s, name(s))
	}
	checkFails(t, "aBc", 1, api.ErrFormat)
	checkFails(t, "abC", 2, api.ErrFormat)
	checkFails(t, "Abc", 0, api.ErrFormat)
	checkFails(t, "_a", 0, api.ErrFormat)
	checkFails(t, "a b C", 4, api.ErrFormat)
	checkTokens(t, "a b", name("a"), standing(name("b"), 2))
	checkTokens(t, "a\tb\nc", name("a"), standing(name("b"), 2), standing(newline(), 3), standing(name("c"), 4))
}

// P8.1: a name has at most MaxName bytes.
func TestLongNames(t *testing.T) {
	for _, s := range []string{strings.Repeat("a", api.MaxName+1), "abcdefghijklmnopq", "a" + strings.Repeat("_", api.MaxName), "a" + strings.Repeat("0", api.MaxName), strings.Repeat("a", 1000), strings.Repeat("z9_", 2000), reservedWords[0] + strings.Repeat("x", api.MaxName)} {
		checkWrong(t, s, api.ErrTooLong)
		for _, behind := range []string{"A", "!", "\xff", " ", "\n", "(", "\""} {
			checkFails(t, s+behind, 0, api.ErrTooLong)
		}
	}
	full := strings.Repeat("n", api.MaxName)
	checkTokens(t, full+" "+full, name(full), standing(name(full), api.MaxName+1))
	checkTokens(t, full+"-"+full, name(full), standing(symbol("-"), api.MaxName), standing(name(full), api.MaxName+1))
}

// P8.1: integers from 0 to MaxInt.
func TestInts(t *testing.T) {
	for _, n := range []int{0, 1, 9, 10, 99, 100, 1900, 2024, 65536, 1<<31 - 1, 1 << 31, 1 << 32, api.MaxInt - 1, api.MaxInt} {
		s := fmt.Sprint(n)
		checkSingle(t, s, number(api.TokInt, s, n))
	}
	for _, s := range []string{"1000000000001", "1000000000002", "1000000000010", "1999999999999", "9999999999999", "10000000000000", "4294967296000000", "4611686018427387904", "4611686018427387905", "9223372036854775807", "9223372036854775808", "18446744073709551615", "18446744073709551616", "18446744073709551621", "36893488147419103237", "340282366920938463463374607431768211461", strings.Repeat("9", 100), "1" + strings.Repeat("0", 5000)} {
		checkWrong(t, s, api.ErrRange)
		for _, behind := range []string{"a", "Z", "_", ".", ".5", ".500"} {
			checkFails(t, s+behind, 0, api.ErrFormat)
		}
		checkFails(t, s+"é", 0, api.ErrRange)
		checkFails(t, s+"%", 0, api.ErrRange)
	}
}

// P8.1: amounts from 0.00 to MaxCents.
func TestMoney(t *testing.T) {
	for _, n := range []int{0, 1, 5, 9, 10, 50, 99, 100, 101, 1250, 99999, 1 << 32, api.MaxCents - 100, api.MaxCents - 1, api.MaxCents} {
		s := fmt.Sprintf("%d.%02d", n/100, n%100)
		checkSingle(t, s, number(api.TokMoney, s, n))
	}
	for _, s := range []string{"10000000000000.01", "10000000000000.10", "10000000000001.00", "19999999999999.99", "99999999999999.99", "46116860184273879.04", "46116860184273879.05", "92233720368547758.07", "92233720368547758.08", "184467440737095516.16", "184467440737095517.16", strings.Repeat("9", 200) + ".99", "1" + strings.Repeat("0", 5000) + ".00"} {
		checkWrong(t, s, api.ErrRange)
		for _, behind := range []string{"a", "Z", "_", ".", "5", ".5"} {
			checkFails(t, s+behind, 0, api.ErrFormat)
		}
		checkFails(t, s+"%", 0, api.ErrRange)
	}
}

// P8.1: rates from 0.0000% to MaxRate.
func TestRates(t *testing.T) {
	for _, n := range []int{0, 1, 10, 100, 1000, 9999, 10000, 10001, 125000, api.RateOne - 1, api.RateOne, api.RateOne + 1, api.MaxRate - 1, api.MaxRate} {
		s := fmt.Sprintf("%d.%04d%%", n/10000, n%10000)
		checkSingle(t, s, number(api.TokRate, s, n))
	}
	for _, s := range []string{"100000.0001%", "100000.0010%", "100001.0000%", "199999.9999%", "999999.9999%", "461168601842738.7904%", "461168601842738.7905%", "922337203685477.5808%", "1844674407370955.1616%", "1844674407370955.1621%", strings.Repeat("9", 200) + ".9999%", "1" + strings.Repeat("0", 5000) + ".0000%"} {
		checkWrong(t, s, api.ErrRange)
		for _, behind := range []string{"a", "Z", "_", ".", "5", ".5"} {
			checkFails(t, s+behind, 0, api.ErrFormat)
		}
		checkFails(t, s+"%", 0, api.ErrRange)
	}
}

// P8.1: too few and too many digits behind the point, and no % behind four of them.
func TestFractions(t *testing.T) {
	for _, whole := range []string{"0", "5", "12", "2024", "1000000000000", "9999999999999999999999"} {
		for places := range 12 {
			s := whole + "." + strings.Repeat("5", places)
			if places != 2 {
				checkWrong(t, s, api.ErrFormat)
			}
			if places != 2 && places != 4 {
				checkWrong(t, s+"%", api.ErrFormat)
			}
			checkWrong(t, s+".", api.ErrFormat)
			checkWrong(t, s+".5", api.ErrFormat)
			checkWrong(t, s+"_", api.ErrFormat)
			checkWrong(t, s+"x", api.ErrFormat)
		}
		checkWrong(t, whole+". 50", api.ErrFormat)
		checkWrong(t, whole+".-50", api.ErrFormat)
		checkWrong(t, whole+".5000 %", api.ErrFormat)
		checkWrong(t, whole+".5000#%", api.ErrFormat)
	}
	checkFails(t, "5 .50", 2, api.ErrFormat)
	checkFails(t, "5,50%", 4, api.ErrFormat)
	checkTokens(t, "5,50", number(api.TokInt, "5", 5), standing(symbol(","), 1), standing(number(api.TokInt, "50", 50), 2))
	checkTokens(t, "0.05*0.0005%", number(api.TokMoney, "0.05", 5), standing(symbol("*"), 4), standing(number(api.TokRate, "0.0005%", 5), 5))
}

// P8.1: no number but a date begins with 0 and has another digit before its point.
func TestLeadingZeros(t *testing.T) {
	for _, s := range []string{"00", "01", "007", "000", "09", "010", "0000000000001", "00.00", "00.05", "01.50", "012.50", "000.00", "00.0000%", "01.5000%", "000.5000%", "00000", "0" + strings.Repeat("9", 100), strings.Repeat("0", 100), "0" + strings.Repeat("9", 100) + ".99", strings.Repeat("0", 100) + ".0000%", "0999999999999999999999", "0999999999999999999999.99", "0999999999999999999999.9999%", "02024", "0202-1"} {
		checkWrong(t, s, api.ErrFormat)
		checkFails(t, "-"+s, 1, api.ErrFormat)
	}
	checkSingle(t, "0", number(api.TokInt, "0", 0))
	checkSingle(t, "0.00", number(api.TokMoney, "0.00", 0))
	checkSingle(t, "0.0000%", number(api.TokRate, "0.0000%", 0))
	checkSingle(t, "10", number(api.TokInt, "10", 10))
	checkTokens(t, "-0", symbol("-"), standing(number(api.TokInt, "0", 0), 1))
	checkTokens(t, "0 0", number(api.TokInt, "0", 0), standing(number(api.TokInt, "0", 0), 2))
}

// P8.1: no letter, digit, _ or point stands right behind a number, and every other byte ends it.
func TestBehindNumbers(t *testing.T) {
	for _, x := range []api.Token{number(api.TokInt, "5", 5), number(api.TokInt, "0", 0), number(api.TokInt, "1000000000000", api.MaxInt), number(api.TokMoney, "12.50", 1250), number(api.TokRate, "12.5000%", 125000), number(api.TokDate, "2024-02-29", 45349)} {
		for b := range 256 {
			behind := string([]byte{byte(b)})
			s := x.Text + behind
			switch {
			case behind == "%" && x.Kind == api.TokRate:
				checkFails(t, s, len(x.Text), api.ErrFormat)
			case b >= '0' && b <= '9' && x.Text == "5":
				checkTokens(t, s, number(api.TokInt, s, 50+b-'0'))
			case b >= '0' && b <= '9' && x.N == api.MaxInt:
				checkFails(t, s, 0, api.ErrRange)
			case strings.Contains("ABCDEFGHIJKLMNOPQRSTUVWXYZabcdefghijklmnopqrstuvwxyz0123456789_.", behind):
				checkFails(t, s, 0, api.ErrFormat)
				checkFails(t, s+" 5", 0, api.ErrFormat)
			case behind == " " || behind == "\t" || behind == "#":
				checkTokens(t, s, x)
			case behind == "\n":
				checkTokens(t, s, x, standing(newline(), len(x.Text)))
			case behind == "\"":
				checkFails(t, s, len(x.Text), api.ErrTruncated)
				checkTokens(t, s+behind, x, standing(quoted(""), len(x.Text)))
			case slices.Contains(symbols, behind):
				checkTokens(t, s, x, standing(symbol(behind), len(x.Text)))
			default:
				checkFails(t, s, len(x.Text), api.ErrFormat)
			}
		}
		checkTokens(t, x.Text+"!="+x.Text, x, standing(symbol("!="), len(x.Text)), standing(x, len(x.Text)+2))
	}
	checkTokens(t, "5-3", number(api.TokInt, "5", 5), standing(symbol("-"), 1), standing(number(api.TokInt, "3", 3), 2))
}

// P8.1: dates that exist, the first and the last ones among them.
func TestDates(t *testing.T) {
	for _, x := range []struct {
		s string
		n int
	}{{"1900-01-01", 0}, {"1900-01-02", 1}, {"1900-02-28", 58}, {"1900-03-01", 59}, {"2000-02-29", 36583}, {"2024-02-29", 45349}, {"2199-12-31", api.MaxDate}, {"2199-12-30", api.MaxDate - 1}} {
		checkSingle(t, x.s, number(api.TokDate, x.s, x.n))
		checkTokens(t, x.s+"-"+x.s, number(api.TokDate, x.s, x.n), standing(symbol("-"), 10), standing(number(api.TokDate, x.s, x.n), 11))
		checkTokens(t, x.s+"-1", number(api.TokDate, x.s, x.n), standing(symbol("-"), 10), standing(number(api.TokInt, "1", 1), 11))
	}
	day := time.Date(1900, time.January, 1, 0, 0, 0, 0, time.UTC)
	for n := range api.MaxDate + 1 {
		s := day.AddDate(0, 0, n).Format(time.DateOnly)
		l, at, code := Tokenize(s)
		if len(l) != 1 || l[0] != number(api.TokDate, s, n) || at != 0 || code != api.OK {
			t.Fatalf("Tokenize(%q) = %v, %d, %d", s, l, at, code)
		}
	}
}

// P8.1: what has the form of a date is one, or a wrong one.
func TestWrongDates(t *testing.T) {
	for _, s := range []string{"2024-02-30", "2023-02-29", "1900-02-29", "2100-02-29", "2024-00-10", "2024-13-01", "2024-01-00", "2024-01-32", "2024-04-31", "1899-12-31", "2200-01-01", "0000-00-00", "0000-01-01", "0001-01-01", "9999-99-99", "9999-12-31", "0204-02-29"} {
		checkWrong(t, s, api.ErrRange)
		checkWrong(t, s+"-1", api.ErrRange)
		checkWrong(t, s+"\"", api.ErrRange)
		checkWrong(t, s+"%", api.ErrRange)
	}
	for _, s := range []string{"2024-02-29", "1900-01-01", "2199-12-31", "2024-02-30", "0000-00-00", "2200-01-01"} {
		for _, behind := range []string{"0", "5", "9", "a", "z", "A", "Z", "_", ".", ".50", "00", "5-1", "T00:00", "x y"} {
			checkWrong(t, s+behind, api.ErrFormat)
		}
	}
}

// P8.1: what looks nearly like a date is an integer and what follows it.
func TestNoDates(t *testing.T) {
	minus := func(at int) api.Token { return standing(symbol("-"), at) }
	integer := func(n, at int) api.Token { return standing(number(api.TokInt, fmt.Sprint(n), n), at) }
	checkTokens(t, "2024", integer(2024, 0))
	checkTokens(t, "2024-", integer(2024, 0), minus(4))
	checkTokens(t, "2024-10", integer(2024, 0), minus(4), integer(10, 5))
	checkTokens(t, "2024-10-", integer(2024, 0), minus(4), integer(10, 5), minus(7))
	checkTokens(t, "2024-10-2", integer(2024, 0), minus(4), integer(10, 5), minus(7), integer(2, 8))
	checkTokens(t, "2024-1-20", integer(2024, 0), minus(4), integer(1, 5), minus(6), integer(20, 7))
	checkTokens(t, "2024-1-200", integer(2024, 0), minus(4), integer(1, 5), minus(6), integer(200, 7))
	checkTokens(t, "2024-100-2", integer(2024, 0), minus(4), integer(100, 5), minus(8), integer(2, 9))
	checkTokens(t, "202-10-20", integer(202, 0), minus(3), integer(10, 4), minus(6), integer(20, 7))
	checkTokens(t, "202-10-200", integer(202, 0), minus(3), integer(10, 4), minus(6), integer(200, 7))
	checkTokens(t, "20241-10-20", integer(20241, 0), minus(5), integer(10, 6), minus(8), integer(20, 9))
	checkTokens(t, "2024--10-20", integer(2024, 0), minus(4), minus(5), integer(10, 6), minus(8), integer(20, 9))
	checkTokens(t, "2024 -10-20", integer(2024, 0), minus(5), integer(10, 6), minus(8), integer(20, 9))
	checkTokens(t, "2024- 10-20", integer(2024, 0), minus(4), integer(10, 6), minus(8), integer(20, 9))
	checkTokens(t, "2024-10\n-20", integer(2024, 0), minus(4), integer(10, 5), standing(newline(), 7), minus(8), integer(20, 9))
	checkTokens(t, "2024-10#-20", integer(2024, 0), minus(4), integer(10, 5))
	checkTokens(t, "2024+10-20", integer(2024, 0), standing(symbol("+"), 4), integer(10, 5), minus(7), integer(20, 8))
	checkTokens(t, "2024-10-a0", integer(2024, 0), minus(4), integer(10, 5), minus(7), standing(name("a0"), 8))
	checkFails(t, "2024-02", 5, api.ErrFormat)
	checkFails(t, "2024-02-2", 5, api.ErrFormat)
	checkFails(t, "2024-02-2x", 5, api.ErrFormat)
	checkFails(t, "12024-02-29", 6, api.ErrFormat)
	checkFails(t, "02024-02-29", 0, api.ErrFormat)
	checkFails(t, "024-02-29", 0, api.ErrFormat)
	checkFails(t, "24-02-2900", 3, api.ErrFormat)
	checkFails(t, "2024-10-2x", 8, api.ErrFormat)
	checkFails(t, "2024-1x-20", 5, api.ErrFormat)
	checkFails(t, "2024x10-20", 0, api.ErrFormat)
	checkFails(t, "2024.10.20", 0, api.ErrFormat)
	checkTokens(t, "2024.10-20", number(api.TokMoney, "2024.10", 202410), minus(7), integer(20, 8))
}

// P8.1: strings of any printable bytes, and empty ones.
func TestStrings(t *testing.T) {
	var printable strings.Builder
	for b := byte(32); b <= 126; b++ {
		if b != '"' {
			printable.WriteByte(b)
			checkSingle(t, "\""+string([]byte{b})+"\"", quoted(string([]byte{b})))
		}
	}
	all := printable.String()
	for _, s := range []string{"", " ", "  ", "x", "x y", " x ", "#", "# x", "a#b", "5", "007", "2024-02-30", "!", "\\", "\\n", "'", "A", "_", all[:64], all[30:], strings.Repeat("x", 63), strings.Repeat("x", 64), strings.Repeat(" ", 64)} {
		checkSingle(t, "\""+s+"\"", quoted(s))
		checkTokens(t, "\""+s+"\"\""+s+"\"", quoted(s), standing(quoted(s), len(s)+2))
		checkTokens(t, "\""+s+"\"a", quoted(s), standing(name("a"), len(s)+2))
		checkTokens(t, "\""+s+"\"5", quoted(s), standing(number(api.TokInt, "5", 5), len(s)+2))
		checkTokens(t, "\""+s+"\"\n", quoted(s), standing(newline(), len(s)+2))
		checkFails(t, "\""+s+"\"A", len(s)+2, api.ErrFormat)
		checkFails(t, "\""+s+"\"\"", len(s)+2, api.ErrTruncated)
		checkFails(t, "\""+s+"\"\"\n\"", len(s)+2, api.ErrTruncated)
	}
	checkTokens(t, "\"\"\"\"", quoted(""), standing(quoted(""), 2))
}

// P8.1: a string ends on its line, holds printable bytes and has at most 64 of them, in this order of the errors.
func TestWrongStrings(t *testing.T) {
	long, bad := strings.Repeat("x", 65), "\x1f"
	for _, s := range []string{"", "x", "x y", "#", "# \\", bad, "\xff", "é", "\t", "\r", "\x7f", long, long + bad, bad + long, strings.Repeat("y", 1000)} {
		checkWrong(t, "\""+s+"\n", api.ErrTruncated)
		checkWrong(t, "\""+s+"\n\"", api.ErrTruncated)
		checkWrong(t, "\""+s+"\nx\" 5", api.ErrTruncated)
		checkFails(t, "\""+s, 0, api.ErrTruncated)
		checkFails(t, "a \""+s, 2, api.ErrTruncated)
		checkFails(t, "\"\" \""+s, 3, api.ErrTruncated)
	}
	for b := range 256 {
		if b >= 32 && b <= 126 || b == '\n' {
			continue
		}
		c := string([]byte{byte(b)})
		for _, s := range []string{c, "x" + c, c + "x", "x" + c + "y", c + c, long + c, c + long, strings.Repeat("x", 64) + c, strings.Repeat("x", 63) + c} {
			checkWrong(t, "\""+s+"\"", api.ErrFormat)
		}
	}
	for _, s := range []string{"é", "ü x", "\xc3", "\u2028", "−", long + "é"} {
		checkWrong(t, "\""+s+"\"", api.ErrFormat)
	}
	for _, s := range []string{long, strings.Repeat(" ", 65), strings.Repeat("x", 66), strings.Repeat("#", 1000)} {
		checkWrong(t, "\""+s+"\"", api.ErrTooLong)
		checkWrong(t, "\""+s+"\"!", api.ErrTooLong)
	}
}

// P8.1: of several errors the one that stands first, with the offset at which its token begins.
func TestFirstError(t *testing.T) {
	for _, x := range []struct {
		s    string
		at   int
		code api.Errno
	}{
		{"! 007", 0, api.ErrFormat}, {"2024-02-30 !", 0, api.ErrRange}, {"a\n\n \"x\n!", 4, api.ErrTruncated}, {"abcdefghijklmnopq 007", 0, api.ErrTooLong},
		{"1000000000001 \"", 0, api.ErrRange}, {"\" 1000000000001", 0, api.ErrTruncated}, {"\"\x01\" 1000000000001", 0, api.ErrFormat}, {"#!\n 1.5 !", 4, api.ErrFormat},
		{"1000000000001x", 0, api.ErrFormat}, {"01x", 0, api.ErrFormat}, {"99999999999999999999.999", 0, api.ErrFormat}, {"2024-02-30.", 0, api.ErrFormat}, {"12.50 100000.0001% abcdefghijklmnopq", 6, api.ErrRange},
		{"a <= b\n# \xff\n  c == \"d\" A", 22, api.ErrFormat}, {"a \t\t\t B", 6, api.ErrFormat}, {"\n\n\n>", 3, api.ErrFormat}, {"5 5 5 5x 5y", 6, api.ErrFormat}, {"\"a\"\"b", 3, api.ErrTruncated},
	} {
		checkFails(t, x.s, x.at, x.code)
	}
}

// P8.1: a text of MaxText bytes is read and a longer one is not, whatever is in it.
func TestLongTexts(t *testing.T) {
	for _, unit := range []string{" ", "\t", "#", "\n", "(", "=", "a ", "\"\"", "5\n", "\"x\"", "\xff"} {
		full := strings.Repeat(unit, api.MaxText/len(unit)+1)[:api.MaxText]
		l, at, code := Tokenize(full)
		want, wantAt, wantCode := referenceTokens(full)
		if !slices.Equal(l, want) || at != wantAt || code != wantCode {
			t.Errorf("Tokenize(%s) = %d tokens, %d, %d, not %d, %d, %d", short(full), len(l), at, code, len(want), wantAt, wantCode)
		}
		checkFails(t, full+"\n", 0, api.ErrTooLong)
		checkFails(t, full+" ", 0, api.ErrTooLong)
		checkFails(t, "\n"+full, 0, api.ErrTooLong)
		checkFails(t, full+full, 0, api.ErrTooLong)
	}
	checkTokens(t, strings.Repeat(" ", api.MaxText-1)+"a", standing(name("a"), api.MaxText-1))
	checkFails(t, strings.Repeat(" ", api.MaxText-1)+"A", api.MaxText-1, api.ErrFormat)
	checkFails(t, strings.Repeat(" ", api.MaxText-3)+"\"x ", api.MaxText-3, api.ErrTruncated)
	checkFails(t, strings.Repeat("!", api.MaxText+1), 0, api.ErrTooLong)
	checkFails(t, strings.Repeat("!", api.MaxText), 0, api.ErrFormat)
	checkFails(t, strings.Repeat("a", api.MaxText), 0, api.ErrTooLong)
	checkFails(t, strings.Repeat("9", api.MaxText), 0, api.ErrRange)
	checkFails(t, strings.Repeat("9", api.MaxText-1)+"x", 0, api.ErrFormat)
	checkFails(t, "("+strings.Repeat("9", api.MaxText-1), 1, api.ErrRange)
}

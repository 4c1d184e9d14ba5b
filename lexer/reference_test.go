package lexer

import (
	"math/big"
	"math/rand"
	"regexp"
	"slices"
	"strings"
	"testing"
	"time"

	"guerdon/api"
)

// The forms of what may stand in a text, for a second reading of it by the words of the chapter.
var (
	gapForm    = regexp.MustCompile(`\A[ \t]*(#[^\n]*)?`)
	nameForm   = regexp.MustCompile(`\A[a-z][a-z0-9_]*`)
	dateForm   = regexp.MustCompile(`\A[0-9]{4}-[0-9]{2}-[0-9]{2}`)
	moneyForm  = regexp.MustCompile(`\A([0-9]+\.[0-9]{2})(?:[^0-9]|\z)`)
	rateForm   = regexp.MustCompile(`\A[0-9]+\.[0-9]{4}%`)
	intForm    = regexp.MustCompile(`\A[0-9]+`)
	zeroForm   = regexp.MustCompile(`\A0[0-9]`)
	behindForm = regexp.MustCompile(`\A[A-Za-z0-9_.]`)
	stringForm = regexp.MustCompile(`\A"[^"\n]*"`)
	plainForm  = regexp.MustCompile(`\A[ -~]*\z`)
	symbolForm = regexp.MustCompile(`\A(<=|==|!=|[<=(),:+*-])`)
)

// referenceTokens reads a text by regular expressions, large numbers and the library's calendar.
func referenceTokens(s string) ([]api.Token, int, api.Errno) {
	if len(s) > api.MaxText {
		return nil, 0, api.ErrTooLong
	}
	var l []api.Token
	at := 0
	for {
		at += len(gapForm.FindString(s[at:]))
		if at == len(s) {
			return l, 0, api.OK
		}
		token, length, code := referenceToken(s[at:])
		if code != api.OK {
			return nil, at, code
		}
		l = append(l, standing(token, at))
		at += length
	}
}

func referenceToken(s string) (api.Token, int, api.Errno) {
	if s[0] == '\n' {
		return newline(), 1, api.OK
	}
	if s[0] == '"' {
		return referenceString(s)
	}
	if intForm.MatchString(s) {
		return referenceNumber(s)
	}
	if text := nameForm.FindString(s); len(text) > 16 {
		return api.Token{}, 0, api.ErrTooLong
	} else if text != "" {
		return name(text), len(text), api.OK
	}
	if text := symbolForm.FindString(s); text != "" {
		return symbol(text), len(text), api.OK
	}
	return api.Token{}, 0, api.ErrFormat
}

func referenceString(s string) (api.Token, int, api.Errno) {
	text := stringForm.FindString(s)
	if text == "" {
		return api.Token{}, 0, api.ErrTruncated
	}
	inner := text[1 : len(text)-1]
	if !plainForm.MatchString(inner) {
		return api.Token{}, 0, api.ErrFormat
	}
	if len(inner) > 64 {
		return api.Token{}, 0, api.ErrTooLong
	}
	return quoted(inner), len(text), api.OK
}

func referenceNumber(s string) (api.Token, int, api.Errno) {
	kind, text, limit := api.TokInt, intForm.FindString(s), int64(1e12)
	if date := dateForm.FindString(s); date != "" {
		kind, text = api.TokDate, date
	} else if m := moneyForm.FindStringSubmatch(s); m != nil {
		kind, text, limit = api.TokMoney, m[1], 1e15
	} else if rate := rateForm.FindString(s); rate != "" {
		kind, text, limit = api.TokRate, rate, 1e9
	}
	if behindForm.MatchString(s[len(text):]) || kind != api.TokDate && zeroForm.MatchString(text) {
		return api.Token{}, 0, api.ErrFormat
	}
	if kind == api.TokDate {
		n, ok := referenceDate(text)
		if !ok {
			return api.Token{}, 0, api.ErrRange
		}
		return number(kind, text, n), len(text), api.OK
	}
	n, _ := new(big.Int).SetString(strings.NewReplacer(".", "", "%", "").Replace(text), 10)
	if n.Cmp(big.NewInt(limit)) > 0 {
		return api.Token{}, 0, api.ErrRange
	}
	return number(kind, text, int(n.Int64())), len(text), api.OK
}

func referenceDate(text string) (int, bool) {
	day, err := time.Parse(time.DateOnly, text)
	if err != nil || day.Year() < 1900 || day.Year() > 2199 {
		return 0, false
	}
	// A time.Duration is too short for 300 years.
	return int((day.Unix() - time.Date(1900, time.January, 1, 0, 0, 0, 0, time.UTC).Unix()) / (24 * 60 * 60)), true
}

func checkReference(t *testing.T, s string) {
	t.Helper()
	l, at, code := Tokenize(s)
	want, wantAt, wantCode := referenceTokens(s)
	if !slices.Equal(l, want) || at != wantAt || code != wantCode {
		t.Fatalf("Tokenize(%s) = %v, %d, %d, not %v, %d, %d", short(s), l, at, code, want, wantAt, wantCode)
	}
}

// pieces are parts of texts, right ones and wrong ones, that may meet each other without a gap.
var pieces = []string{
	"", " ", "\t", "\n", "#", "\"", "\"x\"", "a", "b_1", "abcdefghijklmnop", "_", "A", "0", "1", "7", "12", "007", ".", ".5", ".50", ".5000", "%", "-", "2024", "2024-02-29", "2024-02-3", "-02", "1900-01-01", "2199-12-31",
	"999999999999", "1000000000000", "9999999999999.99", "10000000000000.00", "99999.9999%", "100000.0000%", "=", "<", "!", "<=", "==", "!=", "(", ")", ",", ":", "+", "*", "if", "prio", "\x00", "\x1f", "\x7f", "\x80", "\xff", "é", ">", "\r",
}

// randomText puts pieces together. The more of them are glued, the more tokens are wrong.
func randomText(source *rand.Rand) string {
	var s strings.Builder
	gap := []string{"", " ", " ", "\n"}[source.Intn(4)]
	for range source.Intn(12) {
		s.WriteString(pieces[source.Intn(len(pieces))])
		if source.Intn(4) > 0 {
			s.WriteString(gap)
		}
	}
	return s.String()
}

// P8.1: every text of one and of two bytes, and every byte in every place of some texts.
func TestBytesAgainstReference(t *testing.T) {
	for a := range 256 {
		checkReference(t, string([]byte{byte(a)}))
		for b := range 256 {
			checkReference(t, string([]byte{byte(a), byte(b)}))
		}
	}
	for _, s := range []string{"2024-02-29", "2024-02-29 5", "12.50", "12.5000%", "0.05", "1000000000000", "100000.0000%", "a_1 b", "abcdefghijklmnop", "\"x y\"", "\"\" \"", "a<=b", "!==", "a # b\nc"} {
		for i := range len(s) + 1 {
			for b := range 256 {
				c := string([]byte{byte(b)})
				checkReference(t, s[:i]+c+s[i:])
				if i < len(s) {
					checkReference(t, s[:i]+c+s[i+1:])
				}
			}
			checkReference(t, s[:i])
			checkReference(t, s[i:])
		}
	}
}

// P8.1: every row of three pieces, and many longer texts.
func TestTextsAgainstReference(t *testing.T) {
	for _, a := range pieces {
		for _, b := range pieces {
			for _, c := range pieces {
				checkReference(t, a+b+c)
			}
		}
	}
	source := rand.New(rand.NewSource(81))
	for range 50000 {
		checkReference(t, randomText(source))
	}
	alphabet := "abz09 .%-\"\n#<=!_A"
	for range 100000 {
		s := make([]byte, source.Intn(14))
		for i := range s {
			s[i] = alphabet[source.Intn(len(alphabet))]
		}
		checkReference(t, string(s))
	}
}

// P8.1: texts of digits, points, hyphens and percent signs alone, where the kinds of numbers lie next to each other.
func TestNumbersAgainstReference(t *testing.T) {
	source := rand.New(rand.NewSource(82))
	for range 60000 {
		s := make([]byte, 1+source.Intn(12))
		for i := range s {
			s[i] = "0125.-%"[source.Intn(7)]
		}
		checkReference(t, "1"+string(s))
		checkReference(t, "2024-0"+string(s))
		checkReference(t, "3."+string(s))
	}
}

// P8.5: the offsets increase, and the text of each token stands at its offset, behind its quote if it is a string.
func TestOffsets(t *testing.T) {
	source := rand.New(rand.NewSource(85))
	found := 0
	for range 100000 {
		s := randomText(source)
		l, _, code := Tokenize(s)
		last := -1
		for _, token := range l {
			at := token.Offset
			if at <= last {
				t.Fatalf("Tokenize(%q) has a token at %d behind one at %d", s, at, last)
			}
			last = at
			if token.Kind == api.TokString {
				if s[at] != '"' || s[at+1+len(token.Text)] != '"' {
					t.Fatalf("Tokenize(%q) has a string at %d where no quotes are", s, at)
				}
				at++
			}
			if !strings.HasPrefix(s[at:], token.Text) {
				t.Fatalf("Tokenize(%q) has %q at %d", s, token.Text, token.Offset)
			}
		}
		if code == api.OK {
			found += len(l)
		}
	}
	if found < 10000 {
		t.Errorf("there were only %d tokens", found)
	}
}

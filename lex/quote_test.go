package lex_test

import (
	"math/rand"
	"strings"
	"testing"

	"letterbox/api"
	"letterbox/lex"
)

// P17.3

func expectQuote(t *testing.T, s, want string) {
	t.Helper()
	if got := lex.Quote(s); got != want {
		t.Errorf("Quote of %.300q is %.300q, want %.300q", s, got, want)
	}
}

func TestQuote(t *testing.T) {
	for s, want := range map[string]string{
		"": `""`, "a": `"a"`, " ": `" "`, "a b": `"a b"`, "(a)": `"(a)"`, "[a": `"[a"`, "{1}": `"{1}"`, "'": `"'"`, "~": `"~"`,
		`"`: `"\""`, `\`: `"\\"`, `""`: `"\"\""`, `\\`: `"\\\\"`, `\"`: `"\\\""`, `"\`: `"\"\\"`, `"a"`: `"\"a\""`, `\n`: `"\\n"`, `\Seen`: `"\\Seen"`, `a"b\c`: `"a\"b\\c"`, `a\`: `"a\\"`, `"a`: `"\"a"`, `\"\"\`: `"\\\"\\\"\\"`,
		"\x00": "\"\x00\"", "\r\n": "\"\r\n\"", "\x7f\x80\xff": "\"\x7f\x80\xff\"", "\u00e4\u20ac": "\"\u00e4\u20ac\"", "\xc3\"\xa4": "\"\xc3\\\"\xa4\"", "\xff\\": "\"\xff\\\\\"",
	} {
		expectQuote(t, s, want)
	}
}

// quoteOf is what Quote is to tell, byte by byte.
func quoteOf(s string) string {
	var b strings.Builder
	for i := range len(s) {
		if s[i] == '"' || s[i] == '\\' {
			b.WriteByte('\\')
		}
		b.WriteByte(s[i])
	}
	return `"` + b.String() + `"`
}

func TestQuoteOfEachByte(t *testing.T) {
	var all []byte
	for x := range 256 {
		c := string([]byte{byte(x)})
		all = append(all, byte(x))
		for _, s := range []string{c, c + c, "a" + c, c + "a", "a" + c + "b", `"` + c, c + `"`, `\` + c, c + `\`, `\` + c + `"`, string(all)} {
			expectQuote(t, s, quoteOf(s))
		}
	}
}

func TestQuoteOfVeryLong(t *testing.T) {
	for _, piece := range []string{"a", `"`, `\`, `\"`, " ", "\x00", "\xff"} {
		s := strings.Repeat(piece, 1<<20)
		expectQuote(t, s, quoteOf(s))
	}
}

// P17.4

// expectBack wants that each text is told again by a line of them all.
func expectBack(t *testing.T, texts ...string) {
	t.Helper()
	quotes := make([]string, len(texts))
	var want []api.Tok
	for i, s := range texts {
		quotes[i] = lex.Quote(s)
		want = append(want, quoted(s))
	}
	expectToks(t, strings.Join(quotes, " "), want...)
	expectToks(t, strings.Join(quotes, ""), want...)
	expectToks(t, "  "+strings.Join(quotes, "   ")+"  ", want...)
}

// drawnText is one of 20 to 7e, with many that Quote and Lex ask for.
func drawnText(r *rand.Rand, most int) string {
	b := make([]byte, r.Intn(most+1))
	for i := range b {
		b[i] = byte(0x20 + r.Intn(0x7f-0x20))
		if r.Intn(2) == 0 {
			b[i] = `"\\" ()[]{}1a`[r.Intn(13)]
		}
	}
	return string(b)
}

func TestLexOfQuote(t *testing.T) {
	expectBack(t, "")
	expectBack(t, "", "", "")
	expectBack(t, "a", "", "b c", `"`, `\`, `\"`, "(", ")", "[", "]", "{1}")
	var all []byte
	for x := byte(0x20); x <= 0x7e; x++ {
		all = append(all, x)
		for y := byte(0x20); y <= 0x7e; y++ {
			expectBack(t, string([]byte{x, y}), string([]byte{x}), string([]byte{x, y, x, y, y}))
		}
	}
	expectBack(t, string(all), string(all))
	r := rand.New(rand.NewSource(1))
	for range 20000 {
		texts := make([]string, 1+r.Intn(5))
		for i := range texts {
			texts[i] = drawnText(r, 12)
		}
		expectBack(t, texts...)
	}
	full := make([]string, api.MaxToks)
	for i := range full {
		full[i] = drawnText(r, 40)
	}
	expectBack(t, full...)
	expectError(t, strings.Repeat(lex.Quote(`a "b" \ c`), api.MaxToks+1), api.ErrLong)
}

// The short ones of the bytes that matter, all of them.
func TestLexOfQuoteOfShortTexts(t *testing.T) {
	const letters = `"\ a([]{1}`
	var longer func(s string)
	longer = func(s string) {
		expectBack(t, s)
		if len(s) == 4 {
			return
		}
		for at := range len(letters) {
			longer(s + letters[at:at+1])
		}
	}
	longer("")
}

// Beside other tokens a quoted text stays one, behind a literal and ahead of one too.
func TestQuoteAmongTokens(t *testing.T) {
	r := rand.New(rand.NewSource(2))
	for range 5000 {
		s, body := drawnText(r, 9), drawnText(r, 9)
		expectTurns(t, []string{"a" + lex.Quote(s) + "b(" + lex.Quote(s) + ")", body, lex.Quote(s)}, atom("a"), quoted(s), atom("b"), open, quoted(s), shut, quoted(body), quoted(s))
	}
}

// Of a text with another byte the Quote is no string of a line.
func TestLexOfQuoteOfOtherBytes(t *testing.T) {
	for x := range 256 {
		if x < 0x20 || x > 0x7e {
			for _, s := range []string{"", "a", `"`, `\`} {
				c := string([]byte{byte(x)})
				expectError(t, lex.Quote(s+c), api.ErrForm)
				expectError(t, lex.Quote(c+s), api.ErrForm)
			}
		}
	}
}

package lex_test

import (
	"slices"
	"strings"
	"testing"

	"letterbox/api"
)

// P17.2: how many tokens there may be, and which error it is.

// many is n tokens of one kind, with blanks between and at the end.
func many(n int, text string, tok api.Tok) (string, []api.Tok) {
	return strings.Repeat(text+" ", n), slices.Repeat([]api.Tok{tok}, n)
}

func TestMaxToks(t *testing.T) {
	for _, p := range pieces {
		for _, n := range []int{0, 1, 2, 63, api.MaxToks} {
			line, want := many(n, p.text, p.tok)
			expectToks(t, line, want...)
			expectToks(t, line+"     ", want...)
		}
		full, want := many(api.MaxToks, p.text, p.tok)
		for _, n := range []int{65, 66, 127, 128, 129, 1000} {
			line, _ := many(n, p.text, p.tok)
			expectError(t, line, api.ErrLong)
		}
		for _, next := range pieces {
			expectError(t, full+next.text, api.ErrLong)
			expectError(t, full+next.text+" ", api.ErrLong)
			expectError(t, next.text+" "+full, api.ErrLong)
			short, shortOf := many(api.MaxToks-1, p.text, p.tok)
			expectToks(t, short+next.text, append(shortOf, next.tok)...)
			expectToks(t, next.text+" "+short, append([]api.Tok{next.tok}, shortOf...)...)
			if next.tok.Kind != api.TokAtom || p.tok.Kind != api.TokAtom {
				expectError(t, strings.TrimSuffix(full, " ")+next.text, api.ErrLong) // with no blank between
			}
		}
		expectTurnsError(t, api.ErrLong, full, "x", "")
		expectTurnsError(t, api.ErrLong, full, "", "")
		expectTurnsError(t, api.ErrLong, "", "", full)
		expectToks(t, full, want...)
	}
}

// A literal is a token, wherever it stands.
func TestMaxToksWithLiterals(t *testing.T) {
	for ahead := range api.MaxToks + 3 {
		first, firstOf := many(ahead, "a", atom("a"))
		for behind := range api.MaxToks + 3 {
			second, secondOf := many(behind, "(", open)
			want := slices.Concat(firstOf, toks(quoted("x y")), secondOf)
			if len(want) <= api.MaxToks {
				expectTurns(t, []string{first, "x y", second}, want...)
			} else {
				expectTurnsError(t, api.ErrLong, first, "x y", second)
			}
		}
	}
	for n := range 140 { // of literals alone
		command := slices.Repeat([]string{"", "l"}, n)
		want := slices.Repeat(toks(quoted("l")), n)
		if n <= api.MaxToks {
			expectTurns(t, append(slices.Clone(command), ""), want...)
		} else {
			expectTurnsError(t, api.ErrLong, append(slices.Clone(command), "")...)
		}
		if n < api.MaxToks {
			expectTurns(t, append(slices.Clone(command), "b"), append(want, atom("b"))...)
		} else {
			expectTurnsError(t, api.ErrLong, append(slices.Clone(command), "b")...)
		}
	}
}

// wrong are beginnings of a token at which a line is none of the kind.
var wrong = []string{"\x00", "\x1f", "\x7f", "\x80", "\xff", "\u00e4", "a\x01", `"`, `"a`, `"\`, `"\a"`, "\"\x01\"", "[", "a[b", "[\x01]", "[]\x01"}

// The first one from left to right: a token too many where it begins, all else within its token.
func TestFirstError(t *testing.T) {
	for _, p := range pieces {
		for _, bad := range wrong {
			for _, n := range []int{0, 1, 62, 63} {
				line, _ := many(n, p.text, p.tok)
				expectError(t, line+bad, api.ErrForm)
				expectError(t, line+bad+strings.Repeat(" a", 100), api.ErrForm) // though more than MaxToks stand behind it
				expectTurnsError(t, api.ErrForm, line+bad, "x", strings.Repeat("a ", 100))
				expectTurnsError(t, api.ErrForm, line+bad, "x", "", "y", strings.Repeat("(", 100))
			}
			for _, n := range []int{64, 65, 66, 200} {
				line, _ := many(n, p.text, p.tok)
				expectError(t, line+bad, api.ErrLong)
				expectError(t, line+bad+" a", api.ErrLong)
				expectTurnsError(t, api.ErrLong, line, "x", bad)
				expectTurnsError(t, api.ErrLong, line+bad, "x", "")
			}
			full, _ := many(63, p.text, p.tok)
			expectTurnsError(t, api.ErrLong, full, "x", bad) // the literal is the last one that may be
			expectTurnsError(t, api.ErrLong, full+"a", "x", bad)
			expectTurnsError(t, api.ErrForm, full+bad, "x", "")
			less, _ := many(62, p.text, p.tok)
			expectTurnsError(t, api.ErrForm, less, "x", bad)
		}
	}
	few := strings.Repeat("a ", 63)
	expectError(t, few+"b\x01", api.ErrForm)
	expectError(t, few+"b \x01", api.ErrLong)
	expectError(t, few+"b(\x01", api.ErrLong)
	expectError(t, few+"b\"\x01", api.ErrLong)
	expectError(t, few+"\"b\"\x01", api.ErrLong)
	expectError(t, few+"(\x01", api.ErrLong)
	expectError(t, few+"b[ \x01", api.ErrForm)
	expectError(t, few+"b[]\x01", api.ErrForm)
	expectError(t, few+"b[] \x01", api.ErrLong)
	expectError(t, few+`"b "\`, api.ErrLong)
	expectError(t, few+`"b " "`, api.ErrLong)
	expectError(t, few+`"b ( `, api.ErrForm)
}

// What does not fit goes ahead of all.
func TestWhatDoesNotFitIsFirst(t *testing.T) {
	full := strings.Repeat("a ", api.MaxToks)
	for _, line := range append([]string{full + "b", full + "b "}, wrong...) {
		expectLex(t, rows(line+"{2}", ""), rows("x"), nil, api.ErrForm)
		expectLex(t, rows(line, ""), rows("x"), nil, api.ErrForm)
		expectLex(t, rows(line, ""), nil, nil, api.ErrForm)
		expectLex(t, rows(line), rows("x"), nil, api.ErrForm)
		expectLex(t, rows(line+"{1}", "{1}", ""), rows("x", ""), nil, api.ErrForm)
		expectLex(t, rows(line+"{1}", "b", ""), rows("x", ""), nil, api.ErrForm)
		expectLex(t, rows("{1}", line+"{1}", "{3}", "b"), rows("x", "y", "zz"), nil, api.ErrForm)
	}
	expectLex(t, rows(full+"b{1}", "{1}", ""), rows("x", "y"), nil, api.ErrLong)
	expectLex(t, rows("{1}", full+"{1}", "{2}", "b"), rows("x", "y", "zz"), nil, api.ErrLong)
}

func TestVeryLong(t *testing.T) {
	for piece, want := range map[string]api.Errno{"a ": api.ErrLong, "(": api.ErrLong, ")": api.ErrLong, `""`: api.ErrLong, `"a" `: api.ErrLong, `"`: api.ErrLong, `"\`: api.ErrForm, "[": api.ErrForm, "[ ": api.ErrForm, "\x00": api.ErrForm, "\xff": api.ErrForm} {
		line := strings.Repeat(piece, 1<<20)
		expectError(t, line, want)
		expectTurnsError(t, want, line, "x", line)
	}
	many := slices.Repeat([]string{"", ""}, 1<<17)
	expectTurnsError(t, api.ErrLong, append(many, "")...)
	lines, lits := turns(append(many, "")...)
	lits[len(lits)-1] = []byte("x")
	expectLex(t, lines, lits, nil, api.ErrForm)
}

package lex_test

import (
	"fmt"
	"slices"
	"strings"
	"testing"

	"letterbox/api"
	"letterbox/lex"
)

// rows is texts as rows of bytes.
func rows(texts ...string) [][]byte {
	var l [][]byte
	for _, text := range texts {
		l = append(l, []byte(text))
	}
	return l
}

// turns is a command of a line, a literal, a line and so on; each line but the last one is made to want its literal.
func turns(pieces ...string) (lines, lits [][]byte) {
	for i, piece := range pieces {
		switch {
		case i%2 == 1:
			lits = append(lits, []byte(piece))
		case i+1 < len(pieces):
			lines = append(lines, fmt.Appendf(nil, "%s{%d}", piece, len(pieces[i+1])))
		default:
			lines = append(lines, []byte(piece))
		}
	}
	return lines, lits
}

func atom(text string) api.Tok   { return api.Tok{Kind: api.TokAtom, Text: text} }
func quoted(text string) api.Tok { return api.Tok{Kind: api.TokString, Text: text} }

var (
	open = api.Tok{Kind: api.TokOpen}
	shut = api.Tok{Kind: api.TokClose}
)

func toks(l ...api.Tok) []api.Tok { return l }

// told is tokens as texts.
func told(l []api.Tok) []string {
	texts := make([]string, len(l))
	for i, tok := range l {
		texts[i] = fmt.Sprint(tok.Kind, " ", tok.Text)
	}
	return texts
}

// expectLex wants the tokens, or the error and no token beside it.
func expectLex(t *testing.T, lines, lits [][]byte, want []api.Tok, e api.Errno) {
	t.Helper()
	got, is := lex.Lex(lines, lits)
	if is != e || !slices.Equal(got, want) {
		t.Errorf("Lex of %.300q and %.300q is %.300q, error %d; want %.300q, error %d", lines, lits, told(got), is, told(want), e)
	}
}

func expectToks(t *testing.T, line string, want ...api.Tok) {
	t.Helper()
	expectLex(t, rows(line), nil, want, api.OK)
}

func expectError(t *testing.T, line string, e api.Errno) {
	t.Helper()
	expectLex(t, rows(line), nil, nil, e)
}

// expectTurns is expectToks of a command in pieces, as turns takes them.
func expectTurns(t *testing.T, pieces []string, want ...api.Tok) {
	t.Helper()
	lines, lits := turns(pieces...)
	expectLex(t, lines, lits, want, api.OK)
}

func expectTurnsError(t *testing.T, e api.Errno, pieces ...string) {
	t.Helper()
	lines, lits := turns(pieces...)
	expectLex(t, lines, lits, nil, e)
}

// P17.1

func expectWants(t *testing.T, line string, want int) {
	t.Helper()
	if n, wants := lex.Wants([]byte(line)); !wants || n != want {
		t.Errorf("Wants of %.300q is %d, %t; want %d", line, n, wants, want)
	}
}

func expectWantsNone(t *testing.T, line string) {
	t.Helper()
	if n, wants := lex.Wants([]byte(line)); wants || n != 0 {
		t.Errorf("Wants of %.300q is %d, %t", line, n, wants)
	}
}

func TestWants(t *testing.T) {
	for line, want := range map[string]int{
		"{0}": 0, "{1}": 1, "{9}": 9, "{10}": 10, "{1200}": 1200, "{1201}": 1201, "{9999999}": 9999999, "{1234567}": 1234567,
		"{00}": 0, "{007}": 7, "{0000000}": 0, "{0000001}": 1, "{0123456}": 123456,
		"a{1}": 1, "a {1}": 1, " {2}": 2, "a append b {310}": 310, "\"a {3}": 3, "a[{4}": 4, "({5}": 5, "\x00{6}": 6, "\xff\r\n{7}": 7,
		"{5}{6}": 6, "{5} {6}": 6, "{{6}": 6, "}{6}": 6, "{}{6}": 6, "{5{6}": 6, "{12345678}{6}": 6, "{x}{6}": 6, "{{{{6}": 6, "6}{6}": 6,
	} {
		expectWants(t, line, want)
	}
	for _, line := range []string{
		"", " ", "a", "{", "}", "{}", "}{", "{ }", "{{}", "{}}", "{{}}", "1", "1}", "{1", "(1)", "[1]", "{1]", "[1}", "(1}", "<1>",
		"{12345678}", "{00000000}", "{00000001}", "{99999999}", "{10000000}", "a {123456789}", "{4294967296}", "{18446744073709551617}",
		"{+1}", "{-1}", "{+0}", "{-0}", "{ 1}", "{1 }", "{1 2}", "{ }", "{1+}", "{1-}", "{1.}", "{1.0}", "{.1}", "{1,2}", "{1:2}", "{*}", "{1e1}", "{0x1}", "{1_0}", "{x}", "{1x}", "{x1}", "{\t1}", "{1\t}", "{1\x00}", "{\x001}", "{\u0661}", "{\uff11}", "{\xb9}", "{1\xff}", "{\"1\"}", "{1}1}", "{(1)}",
		"{1} ", "{1}a", "{1}\r", "{1}\r\n", "{1}\n", "{1}\x00", "{1}}", "{1}{", "{1}{}", "{1}{x}", "{1}{12345678}", "{5}6}", "{5} 6}", "{5}{6} ", "{{1}}", "\"{1}\"", "({1})",
	} {
		expectWantsNone(t, line)
	}
}

func TestWantsOfEachNumber(t *testing.T) {
	for n := 0; n <= 9999999; n += 1 + n/500 {
		for digits := 1; digits <= 9; digits++ {
			line := fmt.Sprintf("{%0*d}", digits, n)
			for _, ahead := range []string{"", "a ", "1", "{"} {
				if len(line) <= 7+2 {
					expectWants(t, ahead+line, n)
				} else {
					expectWantsNone(t, ahead+line)
				}
			}
		}
	}
}

// Each byte in place of another, or more.
func TestWantsOfEachByte(t *testing.T) {
	for x := range 256 {
		c := string([]byte{byte(x)})
		expectWants(t, c+"{12}", 12)
		if x >= '0' && x <= '9' {
			expectWants(t, "{"+c+"}", x-'0')
			expectWants(t, "{"+c+"12}", 12+100*(x-'0'))
			expectWants(t, "{1"+c+"2}", 102+10*(x-'0'))
			expectWants(t, "{12"+c+"}", 120+x-'0')
		} else {
			expectWantsNone(t, "{"+c+"}")
			expectWantsNone(t, "{12"+c+"}")
		}
		if x != '{' {
			if x < '0' || x > '9' {
				expectWantsNone(t, "{"+c+"12}")
				expectWantsNone(t, "{1"+c+"2}")
			}
			expectWantsNone(t, c+"12}")
		}
		if x != '}' {
			expectWantsNone(t, "{12"+c)
		}
		expectWantsNone(t, "{12}"+c)
	}
}

func TestWantsOfVeryLong(t *testing.T) {
	for _, piece := range []string{"0", "1", "{", "}", "{1}", "{}", " ", "a", "\x00", "\xff"} {
		long := strings.Repeat(piece, 1<<20)
		expectWants(t, long+"{7}", 7)
		expectWantsNone(t, long+"{7} ")
		expectWantsNone(t, "{7}"+long+" ")
		expectWantsNone(t, "{"+long+"x}")
		expectWantsNone(t, "{1"+long+"1")
		if piece != "{" {
			expectWantsNone(t, "{"+long+"7}")
		}
	}
}

// A command is lines and literals by turns; each line but the last one is looked at without what it wants by.

func TestCommands(t *testing.T) {
	expectLex(t, rows(""), nil, nil, api.OK)
	expectLex(t, rows("a"), nil, toks(atom("a")), api.OK)
	expectLex(t, rows("a {1}", ""), rows("b"), toks(atom("a"), quoted("b")), api.OK)
	expectLex(t, rows("a {1}", " {2}", ""), rows("b", "cd"), toks(atom("a"), quoted("b"), quoted("cd")), api.OK)
	expectLex(t, rows("{0}", "{0}", "{0}", ""), rows("", "", ""), toks(quoted(""), quoted(""), quoted("")), api.OK)
	expectLex(t, rows("a {007}", "b"), rows("seven 7"), toks(atom("a"), quoted("seven 7"), atom("b")), api.OK)
	expectLex(t, rows("a {0000002}", "b"), rows("\r\n"), toks(atom("a"), quoted("\r\n"), atom("b")), api.OK)
	expectLex(t, rows("a{1}{2}", "b"), rows("xy"), toks(atom("a{1}"), quoted("xy"), atom("b")), api.OK)
	expectLex(t, rows("a {2} {1}", "b"), rows("x"), toks(atom("a"), atom("{2}"), quoted("x"), atom("b")), api.OK)
	expectLex(t, rows("{{1}", "b"), rows("x"), toks(atom("{"), quoted("x"), atom("b")), api.OK)
}

func TestCommandsThatDoNotFit(t *testing.T) {
	for _, c := range []struct{ lines, lits [][]byte }{
		{nil, nil}, {rows(), rows()}, {nil, rows("")}, {nil, rows("b")}, {nil, rows("b", "c")}, {rows(""), rows("")}, {rows("a"), rows("b")}, {rows("a {1}"), rows("b")}, {rows("a {1}"), rows("b", "c")}, {rows("a {1}", ""), rows("b", "c")}, {rows("a {1}", "{1}"), rows("b", "c")},
		{rows("", ""), nil}, {rows("a", "b"), nil}, {rows("a {1}", ""), nil}, {rows("a {0}", ""), nil}, {rows("a {1}", "", ""), rows("b")}, {rows("a {1}", "{0}", ""), rows("b")}, {rows("a {1}", "{1}", "", ""), rows("b", "c")},
		{rows("", ""), rows("")}, {rows("a", ""), rows("")}, {rows("a", ""), rows("b")}, {rows("a 1}", ""), rows("b")}, {rows("a {1", ""), rows("b")}, {rows("a {}", ""), rows("")}, {rows("a {1} ", ""), rows("b")}, {rows("a {1}b", ""), rows("b")}, {rows("a {x}", ""), rows("b")}, {rows("a {-1}", ""), rows("b")}, {rows("a {+1}", ""), rows("b")}, {rows("a {00000001}", ""), rows("b")}, {rows("a {1}\r\n", ""), rows("b")}, {rows("\"{1}\"", ""), rows("b")},
		{rows("a {0}", ""), rows("b")}, {rows("a {1}", ""), rows("")}, {rows("a {1}", ""), rows("bc")}, {rows("a {2}", ""), rows("b")}, {rows("a {2}", ""), rows("bcd")}, {rows("a {10}", ""), rows("b")}, {rows("a {1}{2}", ""), rows("b")}, {rows("a {9999999}", ""), rows("b")}, {rows("a {257}", ""), rows("b")}, {rows("a {1}", ""), rows(strings.Repeat("b", 257))},
		{rows("a {1}", "{2}", ""), rows("b", "c")}, {rows("a {2}", "{1}", ""), rows("b", "c")}, {rows("a {2}", "{1}", ""), rows("b", "cd")}, {rows("a {1}", "c", ""), rows("b", "d")}, {rows("a", "{1}", ""), rows("b", "d")}, {rows("a {1}", "{1}", "{2}", ""), rows("b", "c", "d")}, {rows("", "a {1}"), rows("b")}, {rows("", "", "a {1} {1}"), rows("b", "c")},
	} {
		expectLex(t, c.lines, c.lits, nil, api.ErrForm)
	}
}

// A literal that is a byte longer or shorter than its line wants, at each place of a command.
func TestEachLiteral(t *testing.T) {
	sizes := []int{0, 1, 2, 9, 10, 99, 100, 1200, 3}
	pieces := []string{"a"}
	want := toks(atom("a"))
	for i, size := range sizes {
		body := strings.Repeat("x\n", size)[:size]
		word := strings.Repeat("b", i+1)
		pieces = append(pieces, body, word)
		want = append(want, quoted(body), atom(word))
	}
	lines, lits := turns(pieces...)
	expectLex(t, lines, lits, want, api.OK)
	for i := range lits {
		was := lits[i]
		for _, other := range []string{string(was) + "y", string(was) + string(was) + "y", string(was[:max(len(was)-1, 0)])} {
			if len(other) != len(was) {
				lits[i] = []byte(other)
				expectLex(t, lines, lits, nil, api.ErrForm)
			}
		}
		lits[i] = was
		line := lines[i]
		for _, other := range []string{"a", "a {}", string(line) + " ", string(line[:len(line)-1]), ""} {
			lines[i] = []byte(other)
			expectLex(t, lines, lits, nil, api.ErrForm)
		}
		lines[i] = line
		expectLex(t, slices.Delete(slices.Clone(lines), i, i+1), lits, nil, api.ErrForm)
		expectLex(t, lines, slices.Delete(slices.Clone(lits), i, i+1), nil, api.ErrForm)
	}
	expectLex(t, lines, lits, want, api.OK)
	expectLex(t, append(slices.Clone(lines), nil), lits, nil, api.ErrForm)
	expectLex(t, lines[:len(lines)-1], lits, nil, api.ErrForm)
}

// The last line is looked at as it is: what it wants by is an atom, or belongs to one, or to a string.
func TestLastLineThatWants(t *testing.T) {
	expectToks(t, "{1}", atom("{1}"))
	expectToks(t, "a {1}", atom("a"), atom("{1}"))
	expectToks(t, "a{1}", atom("a{1}"))
	expectToks(t, "({0}", open, atom("{0}"))
	expectToks(t, "\"a\"{12345}", quoted("a"), atom("{12345}"))
	expectToks(t, "a[x]{1}", atom("a[x]{1}"))
	expectError(t, "\"a {1}", api.ErrForm)
	expectError(t, "a[{1}", api.ErrForm)
	expectLex(t, rows("{1}", "{1}", "{1}"), rows("x", "y"), toks(quoted("x"), quoted("y"), atom("{1}")), api.OK)
	expectLex(t, rows("a {1}", "{9999999}"), rows("x"), toks(atom("a"), quoted("x"), atom("{9999999}")), api.OK)
}

// P17.2

func TestBlanks(t *testing.T) {
	for _, line := range []string{"", " ", "  ", strings.Repeat(" ", 1<<16)} {
		expectToks(t, line)
	}
	for _, b := range []string{" ", "  ", "   ", strings.Repeat(" ", 1000)} {
		for _, begin := range []string{"", b} {
			for _, end := range []string{"", b} {
				expectToks(t, begin+"a"+end, atom("a"))
				expectToks(t, begin+"("+end, open)
				expectToks(t, begin+"\"\""+end, quoted(""))
				expectToks(t, begin+"a"+b+"b"+end, atom("a"), atom("b"))
				expectToks(t, begin+"a"+b+"("+b+"\"b\""+b+")"+b+"c[ ]"+b+"d"+end, atom("a"), open, quoted("b"), shut, atom("c[ ]"), atom("d"))
				expectToks(t, begin+"\"a\""+b+"\"b\""+end, quoted("a"), quoted("b"))
				expectToks(t, begin+"("+b+"("+b+")"+b+")"+end, open, open, shut, shut)
				expectTurns(t, []string{begin, "x", end}, quoted("x"))
				expectTurns(t, []string{begin + "a" + b, " x ", b + "b" + end}, atom("a"), quoted(" x "), atom("b"))
				expectTurns(t, []string{begin, " ", b, "", end}, quoted(" "), quoted(""))
			}
		}
	}
	expectToks(t, "a fetch 1 (flags)", atom("a"), atom("fetch"), atom("1"), open, atom("flags"), shut)
}

// pieces are texts that are one token each.
var pieces = []struct {
	text string
	tok  api.Tok
}{
	{"(", open}, {")", shut}, {"a", atom("a")}, {"ab1", atom("ab1")}, {`\Seen`, atom(`\Seen`)}, {"body[1 ( \"]", atom("body[1 ( \"]")}, {"[]", atom("[]")}, {"]", atom("]")}, {"{3}", atom("{3}")}, {"{3", atom("{3")}, {"}", atom("}")}, {"1:*,2", atom("1:*,2")}, {"'", atom("'")}, {"~", atom("~")}, {"!", atom("!")}, {`\`, atom(`\`)},
	{`""`, quoted("")}, {`"a"`, quoted("a")}, {`" "`, quoted(" ")}, {`"a b"`, quoted("a b")}, {`"()"`, quoted("()")}, {`"["`, quoted("[")}, {`"]"`, quoted("]")}, {`"\""`, quoted(`"`)}, {`"\\"`, quoted(`\`)}, {`"\\\""`, quoted(`\"`)}, {`"a\\"`, quoted(`a\`)},
}

// TestPairs lays each two of them beside each other, with blanks between and without; and each three of them.
func TestPairs(t *testing.T) {
	for _, a := range pieces {
		expectToks(t, a.text, a.tok)
		for _, b := range pieces {
			expectToks(t, a.text+" "+b.text, a.tok, b.tok)
			if a.tok.Kind != api.TokAtom || b.tok.Kind != api.TokAtom { // two atoms would be one
				expectToks(t, a.text+b.text, a.tok, b.tok)
			} else {
				expectToks(t, a.text+b.text, atom(a.text+b.text))
			}
			expectTurns(t, []string{a.text, "x)", b.text}, a.tok, quoted("x)"), b.tok)
			expectTurns(t, []string{"(" + a.text, "", b.text, "", b.text + " " + a.text}, open, a.tok, quoted(""), b.tok, quoted(""), b.tok, a.tok)
			for _, c := range pieces {
				expectToks(t, a.text+" "+b.text+"  "+c.text+" ", a.tok, b.tok, c.tok)
			}
		}
	}
}

func TestParentheses(t *testing.T) {
	expectToks(t, "()", open, shut)
	expectToks(t, ")(", shut, open)
	expectToks(t, "(((", open, open, open)
	expectToks(t, ")))", shut, shut, shut)
	expectToks(t, "a(b)c", atom("a"), open, atom("b"), shut, atom("c"))
	expectToks(t, "a(\"b\")\"c\"(d", atom("a"), open, quoted("b"), shut, quoted("c"), open, atom("d"))
	expectToks(t, "[(])", atom("[(]"), shut)
	expectToks(t, "(a[)]b)c", open, atom("a[)]b"), shut, atom("c"))
	expectToks(t, `(\Seen \Deleted)`, open, atom(`\Seen`), atom(`\Deleted`), shut)
	expectTurns(t, []string{"(", "(", ")"}, open, quoted("("), shut)
}

func TestStrings(t *testing.T) {
	for line, want := range map[string]string{
		`""`: "", `" "`: " ", `"  a  "`: "  a  ", `"a"`: "a", `"a b c"`: "a b c", `"("`: "(", `")("`: ")(", `"[a"`: "[a", `"a]"`: "a]", `"[]"`: "[]", `"{1}"`: "{1}", `"{"`: "{", `"'"`: "'", `"/~!"`: "/~!",
		`"\""`: `"`, `"\\"`: `\`, `"\"\""`: `""`, `"\\\\"`: `\\`, `"\\\""`: `\"`, `"\"\\"`: `"\`, `"a\"b"`: `a"b`, `"a\\b"`: `a\b`, `"\"a"`: `"a`, `"a\""`: `a"`, `"\\a"`: `\a`, `"a\\"`: `a\`, `"\\n"`: `\n`, `"\\ \" "`: `\ " `, `"\\\\\\\""`: `\\\"`,
	} {
		expectToks(t, line, quoted(want))
		expectToks(t, " "+line+" ", quoted(want))
		expectToks(t, line+line+line, quoted(want), quoted(want), quoted(want))
		expectToks(t, "a"+line+"b", atom("a"), quoted(want), atom("b"))
		expectToks(t, "("+line+")", open, quoted(want), shut)
	}
	long := strings.Repeat(`\"x\\`, 1<<16)
	expectToks(t, `"`+long+`"`, quoted(strings.Repeat(`"x\`, 1<<16)))
}

func TestStringsThatAreNone(t *testing.T) {
	for _, line := range []string{
		`"`, `"a`, `"a b `, `""" `, `"""`, `"a"b"`, `"\"`, `"\\\"`, `"a\"`, `"a\" b`, `"a" "`, `"a"(")`, `("`, `a"`, `a"b`, `a[b]"`, `"[a`, `"(`, `")`,
		`"\`, `"a\`, `"\\\`, `"\a"`, `"\ "`, `"a\n"`, `"\("`, `"\)"`, `"\["`, `"\]"`, `"\'"`, `"\/"`, `"\0"`, `"\x41"`, `"\a`, `"\a\"`, `"\\\a"`, `"\"\a"`, `"a" "\b"`, `"\{"`, "\"\\\x00\"", "\"\\\n\"", "\"\\\xff\"",
	} {
		expectError(t, line, api.ErrForm)
		expectError(t, " "+line, api.ErrForm)
		expectError(t, "a ( "+line, api.ErrForm)
		expectTurnsError(t, api.ErrForm, "a", "x", line)
		expectTurnsError(t, api.ErrForm, line, "x", "")
		expectTurnsError(t, api.ErrForm, line, "x", `"`) // it does not end in its line
		expectTurnsError(t, api.ErrForm, line, `"`, `"`)
		expectTurnsError(t, api.ErrForm, "b", "y", line, "x", "c")
	}
	for x := range 256 {
		if x != '"' && x != '\\' {
			expectError(t, `"\`+string([]byte{byte(x)})+`"`, api.ErrForm)
		}
	}
	expectTurns(t, []string{`"a"`, `"`, ` `}, quoted("a"), quoted(`"`))
}

func TestAtoms(t *testing.T) {
	for _, text := range []string{"a", "1", "*", "1:*", "a1", "+flags", `\Seen`, `\`, `\\`, "{", "}", "{1", "{1}", "1}", "{}", "a{3}b", "]", "a]b", "]]", "a]", "'", "%", "<a@b>", "body.peek", "=?x?=", strings.Repeat("a", 1<<20)} {
		expectToks(t, text, atom(text))
		expectToks(t, text+" ", atom(text))
		expectToks(t, text+" b", atom(text), atom("b"))
		expectToks(t, text+"(", atom(text), open)
		expectToks(t, text+")", atom(text), shut)
		expectToks(t, text+`""`, atom(text), quoted(""))
		expectToks(t, text+`"b c"d`, atom(text), quoted("b c"), atom("d"))
		expectError(t, text+`"`, api.ErrForm)
		expectTurns(t, []string{text, "b", "c"}, atom(text), quoted("b"), atom("c"))
		expectTurns(t, []string{"c", "b", text}, atom("c"), quoted("b"), atom(text))
		expectTurns(t, []string{text, "", text, "", text}, atom(text), quoted(""), atom(text), quoted(""), atom(text))
	}
	expectToks(t, "A b C", atom("A"), atom("b"), atom("C")) // as it is written
}

func TestBrackets(t *testing.T) {
	for _, text := range []string{
		"[]", "[a]", "a[]", "a[b]", "a[b]c", "[a]b", "[][]", "[a][b]", "[a]b[c]d", "a[b]c[d]e[f]", "[ ]", "[  ]", "a[b c]", "[ a ]b", "[(]", "[)]", "[()]", "a[)(]b", `["]`, `a["b]`, `["a"]`, `[\]`, `[\"]`, `a[b "c (d) \e]f`, "[[]", "[[[]", "a[b[c]", "a[b[c]d", "a[[]]", "[a]]", "a]b[c d]", "][]", "body[header.fields (subject to)]<0>", "[{1}]", "[{]",
		"[" + strings.Repeat(" ([", 1<<16) + "]", strings.Repeat("[ ]", 1<<16),
	} {
		expectToks(t, text, atom(text))
		expectToks(t, " "+text+" x", atom(text), atom("x"))
		expectToks(t, "("+text+")", open, atom(text), shut)
		expectToks(t, text+`" "`+text, atom(text), quoted(" "), atom(text))
		expectTurns(t, []string{text, "]", text}, atom(text), quoted("]"), atom(text))
		expectError(t, text+"[", api.ErrForm)
		expectError(t, text+"[ (", api.ErrForm)
	}
	expectToks(t, "a[b[c]d e]f", atom("a[b[c]d"), atom("e]f")) // up to the next one: brackets do not stand within one another
	expectToks(t, "a[b[c] d]", atom("a[b[c]"), atom("d]"))
	expectToks(t, "] [a b]", atom("]"), atom("[a b]"))
	expectToks(t, `"[" a ]`, quoted("["), atom("a"), atom("]"))
}

func TestBracketsThatDoNotEnd(t *testing.T) {
	for _, line := range []string{"[", "a[", "[a", "a[b", "a[b c", "[ ", "[(", "[)", `["`, `["a"`, "[]a[", "[a][", "[a] [b", "][", "[[", "a[]b[ c", "([", "(a[)", `"]"[`, `["]"[`, "[{1}"} {
		expectError(t, line, api.ErrForm)
		expectTurnsError(t, api.ErrForm, line, "x", "")
		expectTurnsError(t, api.ErrForm, line, "x", "]") // there is none in the line
		expectTurnsError(t, api.ErrForm, line, "]", "]")
		expectTurnsError(t, api.ErrForm, "a ]", "]", line)
		expectTurnsError(t, api.ErrForm, "b", "y", line, "x", "]")
	}
}

func TestLiterals(t *testing.T) {
	expectTurns(t, []string{"", "", ""}, quoted(""))
	expectTurns(t, []string{"", "a b", ""}, quoted("a b"))
	expectTurns(t, []string{"a ", "x", " b"}, atom("a"), quoted("x"), atom("b"))
	expectTurns(t, []string{"a", "x", "b"}, atom("a"), quoted("x"), atom("b"))
	expectTurns(t, []string{`"a"`, "x", `"b"`}, quoted("a"), quoted("x"), quoted("b"))
	expectTurns(t, []string{"(", "x", "", "y", ")"}, open, quoted("x"), quoted("y"), shut)
	expectTurns(t, []string{"a[1]", "x", "[2]"}, atom("a[1]"), quoted("x"), atom("[2]"))
	expectTurns(t, []string{"a b ", "x", " c d ", "y", " e f"}, atom("a"), atom("b"), quoted("x"), atom("c"), atom("d"), quoted("y"), atom("e"), atom("f"))
	for _, body := range []string{`"`, `\`, `\"`, `\a`, "(", ")", "[", "]", "{1}", "{9}", " ", "\r\n", "\x00", "\x7f", "\x80", "\xff", "\u00e4", `"a`, "a[b", "a (b \"c\" {3}\r\n", strings.Repeat("\x00\xff", 600), strings.Repeat("x", 1<<20)} {
		expectTurns(t, []string{"a ", body, ""}, atom("a"), quoted(body))
		expectTurns(t, []string{"", body, "", body, "", body, "b"}, quoted(body), quoted(body), quoted(body), atom("b"))
	}
	var all []byte
	for x := range 256 {
		all = append(all, byte(x))
		expectTurns(t, []string{"a", string([]byte{byte(x)}), "b"}, atom("a"), quoted(string([]byte{byte(x)})), atom("b"))
	}
	expectTurns(t, []string{"", string(all), ""}, quoted(string(all)))
}

// Each byte, ahead of tokens, within them and behind them: those below 20 and above 7e stand nowhere in a line.
func TestEachByte(t *testing.T) {
	const special = ` ()"[\`
	for x := range 256 {
		c := string([]byte{byte(x)})
		if x < 0x20 || x > 0x7e {
			for _, line := range []string{
				c, c + c, " " + c, c + " ", " " + c + " ", c + "a", "a" + c, "a" + c + "b", "a " + c, "a " + c + " b", c + " a", "(" + c, c + ")", "(" + c + ")", ")" + c, c + "(",
				`"` + c + `"`, `"a` + c + `b"`, `"` + c + `a"`, `"a` + c + `"`, `"a"` + c, c + `"a"`, `"a"` + c + `"b"`, `"\\` + c + `"`, `"\"` + c + `"`, `"` + c, `"\` + c + `"`,
				"[" + c + "]", "[a" + c + "b]", "a[" + c + "]b", "[]" + c, c + "[]", "a[]" + c + "b[]", "[" + c, "]" + c, "[ ( \" " + c + "]",
				"{" + c + "}", "{1" + c + "}", "{1}" + c, c + "{1}", "a" + strings.Repeat(" ", 1000) + c,
			} {
				expectError(t, line, api.ErrForm)
				expectTurnsError(t, api.ErrForm, line, "x", "b")
				expectTurnsError(t, api.ErrForm, "b", "x", line)
				expectTurnsError(t, api.ErrForm, "b", "x", line, "y", "c")
			}
			continue
		}
		if !strings.Contains(special, c) {
			expectToks(t, c, atom(c))
			expectToks(t, "a"+c+"b", atom("a"+c+"b"))
			expectToks(t, "a "+c+" b", atom("a"), atom(c), atom("b"))
		}
		if c != `"` && c != `\` {
			expectToks(t, `"`+c+`"`, quoted(c))
			expectToks(t, `"a`+c+`b"`, quoted("a"+c+"b"))
		}
		if c != "]" {
			expectToks(t, "["+c+"]", atom("["+c+"]"))
			expectToks(t, "a[b"+c+"d]e", atom("a[b"+c+"d]e"))
		}
	}
	for _, line := range []string{"\u00e4", "a\u0131", "\ufeffa", "\"\u20ac\"", "[\U0001f4ec]", "a\u00a0b", "a\r", "a\r\n", "a\tb", "\u00fe\u007e"} {
		expectError(t, line, api.ErrForm)
	}
}

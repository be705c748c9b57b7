package head_test

import (
	"math"
	"strconv"
	"strings"
	"testing"

	"letterbox/head"
)

// rowOf is texts as one text.
func rowOf(l [][]byte) string {
	s := ""
	for _, text := range l {
		s += "[" + string(text) + "]"
	}
	return s
}

func expect(t *testing.T, what, in, got, want string) {
	t.Helper()
	if got != want {
		t.Errorf("%s of %.300q is %.300q, want %.300q", what, in, got, want)
	}
}

func expectNumber(t *testing.T, what, in string, got, want int) {
	t.Helper()
	if got != want {
		t.Errorf("%s of %.300q is %d, want %d", what, in, got, want)
	}
}

// many is so many bytes that end nothing.
func many(n int) string {
	return strings.Repeat("a", n)
}

// P9.1

// messages are bytes, the texts of their lines, and their head; what is behind it is the body.
var messages = []struct{ in, texts, head string }{
	// no byte, and ends alone
	{"", "", ""},
	{"\n", "[]", "\n"},
	{"\r\n", "[]", "\r\n"},
	{"\r", "[]", "\r"},
	{"\r\r\n", "[\r]", "\r\r\n"},
	{"\r\r", "[\r]", "\r\r"},
	{"\r\r\r\n", "[\r\r]", "\r\r\r\n"},
	{"\n\n", "[][]", "\n"},
	{"\n\r", "[][]", "\n"},
	{"\r\n\r\n", "[][]", "\r\n"},
	{"\r\n\n", "[][]", "\r\n"},
	{"\n\r\n", "[][]", "\n"},
	{"\r\r\n\n", "[\r][]", "\r\r\n\n"},
	{"\n\n\n", "[][][]", "\n"},
	// an empty line at the very beginning
	{"\nx", "[][x]", "\n"},
	{"\r\nx", "[][x]", "\r\n"},
	{"\r\r\nx", "[\r][x]", "\r\r\nx"},
	{"\nx: y\n\nz", "[][x: y][][z]", "\n"},
	// a last line without an end, and one with it
	{"a", "[a]", "a"},
	{"a\n", "[a]", "a\n"},
	{"a\r\n", "[a]", "a\r\n"},
	{"a\r", "[a]", "a\r"},
	{"a\r\r", "[a\r]", "a\r\r"},
	{"a\nb", "[a][b]", "a\nb"},
	{"a\nb\n", "[a][b]", "a\nb\n"},
	{"a\r\nb", "[a][b]", "a\r\nb"},
	{"a\r\nb\r\n", "[a][b]", "a\r\nb\r\n"},
	{"a\nb\r", "[a][b]", "a\nb\r"},
	// a turn in the midst
	{"a\rb", "[a\rb]", "a\rb"},
	{"a\rb\n", "[a\rb]", "a\rb\n"},
	{"a\rb\r\n\nc", "[a\rb][][c]", "a\rb\r\n\n"},
	{"\ra", "[\ra]", "\ra"},
	{"\ra\n\n", "[\ra][]", "\ra\n\n"},
	{"a\n\rb", "[a][\rb]", "a\n\rb"},
	{"a\r\r\nb", "[a\r][b]", "a\r\r\nb"},
	// heads, and what is behind them
	{"a\n\n", "[a][]", "a\n\n"},
	{"a\r\n\r\n", "[a][]", "a\r\n\r\n"},
	{"a\n\r", "[a][]", "a\n\r"},
	{"a\n\nb", "[a][][b]", "a\n\n"},
	{"a\n\nb\n", "[a][][b]", "a\n\n"},
	{"a\n\r\nb\r\n", "[a][][b]", "a\n\r\n"},
	{"a\n\n\n", "[a][][]", "a\n\n"},
	{"a\n\n\r", "[a][][]", "a\n\n"},
	{"a\n\n\nb\n\nc", "[a][][][b][][c]", "a\n\n"},
	{"a\nb\n\nc\nd", "[a][b][][c][d]", "a\nb\n\n"},
	{"a\r\r\n\r\r\n\r\nb", "[a\r][\r][][b]", "a\r\r\n\r\r\n\r\n"},
	// blanks and other bytes are no ends, and make no line an empty one
	{" \n\t\n \t\nb", "[ ][\t][ \t][b]", " \n\t\n \t\nb"},
	{"a\n \n\nb", "[a][ ][][b]", "a\n \n\n"},
	{"\x00\n\x00", "[\x00][\x00]", "\x00\n\x00"},
	{"a\x0bb\x0cc\xc2\x85\xe2\x80\xa8\x1a\x04\n\xff\x80\n\nb", "[a\x0bb\x0cc\xc2\x85\xe2\x80\xa8\x1a\x04][\xff\x80][][b]", "a\x0bb\x0cc\xc2\x85\xe2\x80\xa8\x1a\x04\n\xff\x80\n\n"},
	{"a\\n\\r\\n", "[a\\n\\r\\n]", "a\\n\\r\\n"},
	{".\n.\n\n.\n", "[.][.][][.]", ".\n.\n\n"},
}

func TestMessages(t *testing.T) {
	for _, c := range messages {
		b := []byte(c.in)
		expect(t, "Split", c.in, rowOf(head.Split(b)), c.texts)
		expectNumber(t, "Lines", c.in, head.Lines(b), strings.Count(c.texts, "["))
		expect(t, "Head", c.in, string(head.Head(b)), c.head)
		expect(t, "Body", c.in, string(head.Body(b)), strings.TrimPrefix(c.in, c.head))
		expect(t, "Top with no line", c.in, string(head.Top(b, 0)), c.head)
	}
}

// No byte is no line, in each form that it has.
func TestNoByte(t *testing.T) {
	for _, b := range [][]byte{nil, {}, make([]byte, 0, 9), []byte("a: b\n\nc")[:0]} {
		expectNumber(t, "Split", "", len(head.Split(b)), 0)
		expectNumber(t, "Lines", "", head.Lines(b), 0)
		expectNumber(t, "Fields", "", len(head.Fields(b)), 0)
		for _, n := range []int{math.MinInt, -1, 0, 1, math.MaxInt} {
			expect(t, "Top", "", string(head.Top(b, n)), "")
		}
		expect(t, "Head", "", string(head.Head(b)), "")
		expect(t, "Body", "", string(head.Body(b)), "")
		expect(t, "Stuff", "", string(head.Stuff(b)), ".\r\n")
		if v, ok := head.Get(b, ""); v != "" || ok {
			t.Errorf("Get of no byte is %q, %v", v, ok)
		}
	}
}

// Each byte but the one that ends lines is of a text, but for one turn at its end.
func TestEachByte(t *testing.T) {
	for x := range 256 {
		c := string([]byte{byte(x)})
		in := "b" + c + "b\n" + c + "b\nb" + c + "\n\n" + c
		want, lines := "[b"+c+"b]["+c+"b][b"+c+"][]["+c+"]", 5
		switch c {
		case "\n":
			want, lines = "[b][b][][b][b][][][]", 8
		case "\r":
			want = "[b\rb][\rb][b][][]"
		}
		expect(t, "Split", in, rowOf(head.Split([]byte(in))), want)
		expectNumber(t, "Lines", in, head.Lines([]byte(in)), lines)
	}
}

func TestTop(t *testing.T) {
	for _, c := range []struct {
		in   string
		tops []string // with no line, one, ..; the last one has all
	}{
		{"a: b\r\n\r\n1\r\n2\n3", []string{"a: b\r\n\r\n", "a: b\r\n\r\n1\r\n", "a: b\r\n\r\n1\r\n2\n", "a: b\r\n\r\n1\r\n2\n3"}},
		{"a\n\n1\n2\n", []string{"a\n\n", "a\n\n1\n", "a\n\n1\n2\n"}},
		{"a\n\n1", []string{"a\n\n", "a\n\n1"}},
		{"a\n\n\r", []string{"a\n\n", "a\n\n\r"}},
		{"a\n\n1\r", []string{"a\n\n", "a\n\n1\r"}},
		{"a\n\n\n\r\n1", []string{"a\n\n", "a\n\n\n", "a\n\n\n\r\n", "a\n\n\n\r\n1"}},
		{"\nb\nc", []string{"\n", "\nb\n", "\nb\nc"}},
		{"\n\n\n", []string{"\n", "\n\n", "\n\n\n"}},
		{"a\nb\nc", []string{"a\nb\nc"}},       // no empty line: no body
		{"a\nb\n\r\n", []string{"a\nb\n\r\n"}}, // nothing behind it
		{"a\nb\n\r", []string{"a\nb\n\r"}},
		{"", []string{""}},
		{"\n\r\r\n\r", []string{"\n", "\n\r\r\n", "\n\r\r\n\r"}},
		{"\n.\n..\n", []string{"\n", "\n.\n", "\n.\n..\n"}}, // nothing is stuffed
	} {
		for n, want := range c.tops {
			expect(t, "Top with "+strconv.Itoa(n), c.in, string(head.Top([]byte(c.in), n)), want)
		}
		for _, n := range []int{-1, -2, -1000, math.MinInt32, math.MinInt + 1, math.MinInt} {
			expect(t, "Top with "+strconv.Itoa(n), c.in, string(head.Top([]byte(c.in), n)), c.tops[0])
		}
		for _, more := range []int{0, 1, 2, 1000, math.MaxInt32, 1 << 32} {
			n := len(c.tops) - 1 + more
			expect(t, "Top with "+strconv.Itoa(n), c.in, string(head.Top([]byte(c.in), n)), c.in)
		}
		expect(t, "Top with all there are", c.in, string(head.Top([]byte(c.in), math.MaxInt)), c.in)
	}
}

// TestManyLines has more lines, and longer ones, than any buffer would.
func TestManyLines(t *testing.T) {
	const lines = 100000
	in := strings.Repeat("a: b\r\n", lines) + "\r\n" + strings.Repeat(".c\n", lines) + many(1<<20)
	b := []byte(in)
	expectNumber(t, "Lines", in, head.Lines(b), 2*lines+2)
	expectNumber(t, "Split", in, len(head.Split(b)), 2*lines+2)
	expectNumber(t, "Head", in, len(head.Head(b)), 6*lines+2)
	expectNumber(t, "Body", in, len(head.Body(b)), 3*lines+1<<20)
	expectNumber(t, "Fields", in, len(head.Fields(b)), lines)
	expectNumber(t, "Top", in, len(head.Top(b, lines-1)), 9*lines+2-3)
	expectNumber(t, "Stuff", in, len(head.Stuff(b)), 6*lines+2+5*lines+1<<20+2+3)
	expectNumber(t, "Lines of ends", "", head.Lines([]byte(strings.Repeat("\n", lines))), lines)
}

// P9.3

func TestStuff(t *testing.T) {
	for _, c := range []struct{ in, want string }{
		{"", ""},
		{".", "..\r\n"},
		{".\n", "..\r\n"},
		{".\r\n", "..\r\n"},
		{".\r", "..\r\n"},
		{"..", "...\r\n"},
		{"..\n", "...\r\n"},
		{"...\n", "....\r\n"},
		{".\n.", "..\r\n..\r\n"},
		{".\r\n", "..\r\n"},
		{".a\n..b\n...c\n", "..a\r\n...b\r\n....c\r\n"},
		{"a.\n", "a.\r\n"},
		{"a.b\n", "a.b\r\n"},
		{"a..b..\n", "a..b..\r\n"},
		{" .\n\t.\n", " .\r\n\t.\r\n"},
		{"\r.\n", "\r.\r\n"},
		{".\r.\n", "..\r.\r\n"},
		{".\r\r\n", "..\r\r\n"},
		{"\n", "\r\n"},
		{"\r\n", "\r\n"},
		{"\r", "\r\n"},
		{"\r\r\n", "\r\r\n"},
		{"\n.", "\r\n..\r\n"},
		{"\n\n", "\r\n\r\n"},
		{"\n\r", "\r\n\r\n"},
		{"a", "a\r\n"},
		{"a\n", "a\r\n"},
		{"a\r\n", "a\r\n"},
		{"a\r", "a\r\n"},
		{"a\rb\n", "a\rb\r\n"},
		{"a\nb", "a\r\nb\r\n"},
		{"a\n\nb\n", "a\r\n\r\nb\r\n"},
		{"a: b\r\n\r\n.c\r\n.", "a: b\r\n\r\n..c\r\n..\r\n"},
		{"\x00\xff\x80\n", "\x00\xff\x80\r\n"},
		{"\xb7\n\xef\xbc\x8e\n:\n-\n/\n", "\xb7\r\n\xef\xbc\x8e\r\n:\r\n-\r\n/\r\n"}, // like dots, and beside them
	} {
		expect(t, "Stuff", c.in, string(head.Stuff([]byte(c.in))), c.want+".\r\n")
	}
}

// What was stuffed is read back as the texts that there were.
func TestStuffIsReadBack(t *testing.T) {
	for _, c := range messages {
		sent := string(head.Stuff([]byte(c.in)))
		body, ended := strings.CutSuffix(sent, ".\r\n")
		if !ended || strings.Contains("\r\n"+body, "\r\n.\r\n") {
			t.Errorf("Stuff of %q is %q: ended not once at its end", c.in, sent)
		}
		got := ""
		for _, line := range strings.SplitAfter(body, "\n") {
			if line != "" {
				got += "[" + strings.TrimPrefix(strings.TrimSuffix(line, "\r\n"), ".") + "]"
			}
		}
		expect(t, "Stuff, read back,", c.in, got, c.texts)
	}
}

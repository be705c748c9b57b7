package head_test

import (
	"strings"
	"testing"

	"letterbox/api"
	"letterbox/head"
)

// P9.2

// fieldsOf is fields as one text.
func fieldsOf(l []api.Field) string {
	s := ""
	for _, f := range l {
		s += "[" + f.Name + "|" + f.Value + "]"
	}
	return s
}

// heads are bytes, and their fields.
var heads = []struct{ in, want string }{
	{"", ""},
	{"a: b", "[a|b]"},
	{"a: b\n", "[a|b]"},
	{"a: b\r\n", "[a|b]"},
	{"a: b\r", "[a|b]"},
	{"a: b\r\r\n", "[a|b\r]"},
	{"Subject: Ab C\r\nTO:d\r\n", "[Subject|Ab C][TO|d]"},
	{"a: 1\na: 2\nA: 3", "[a|1][a|2][A|3]"},

	// the head's alone
	{"a: b\n\nc: d", "[a|b]"},
	{"a: b\r\n\r\nc: d\r\n", "[a|b]"},
	{"a: b\n\r", "[a|b]"},
	{"\na: b", ""},
	{"\r\na: b", ""},
	{"\ra: b", "[\ra|b]"},
	{"\r\r\na: b", "[a|b]"}, // a turn is a text, and none of a field
	{"a: b\n\n c", "[a|b]"},
	{"a: b\n\n c\nd: e", "[a|b]"},

	// colons
	{"a:b", "[a|b]"},
	{"a:", "[a|]"},
	{":", "[|]"},
	{":\n", "[|]"},
	{": a", "[|a]"},
	{":a", "[|a]"},
	{"::", "[|:]"},
	{":a:b", "[|a:b]"},
	{"a::b", "[a|:b]"},
	{"a: b: c", "[a|b: c]"},
	{"a : b : c:", "[a|b : c:]"},
	{"a\x3bb", ""},
	{"a\xef\xbc\x9ab\n", ""},
	{"a", ""},
	{"a\nb\nc", ""},
	{"a b\nc: d\ne f", "[c|d]"},

	// blanks at both ends, and blanks alone
	{"a \t : \t b \t ", "[a|b]"},
	{"a\t:\tb\t\r\n", "[a|b]"},
	{"a b\tc :d e\tf", "[a b\tc|d e\tf]"},
	{"a: ", "[a|]"},
	{"a:\t \r\n", "[a|]"},
	{"a\x0b:\x0cb\x0b", "[a\x0b|\x0cb\x0b]"},              // others are none
	{"a\u00a0: \u2003b\u00a0", "[a\u00a0|\u2003b\u00a0]"}, // nor these
	{"a\x00: \x00b\x00 ", "[a\x00|\x00b\x00]"},
	{"a:\rb\r \r\n", "[a|\rb\r]"},
	{"a: b \r\r\n", "[a|b \r]"},
	{"a\xff\x80: \xff\xfe", "[a\xff\x80|\xff\xfe]"},

	// behind a field
	{"a: b\n c", "[a|b c]"},
	{"a: b\n\tc", "[a|b c]"},
	{"Subject: a\r\n b\r\n", "[Subject|a b]"},
	{"a: b \t\n \t c \t\r\nd: e", "[a|b c][d|e]"},
	{"a: b\n c\n\td\n e", "[a|b c d e]"},
	{"a:b\r\n  c \r\n\td\r\nE :  f\t\r\n\r\nG: h", "[a|b c d][E|f]"},
	{"a: b\n c: d\n", "[a|b c: d]"},
	{"a: b\n :\n", "[a|b :]"},
	{"a: b\n c\r\r\n", "[a|b c\r]"},
	{"a: b\n \rc\r\r", "[a|b \rc\r]"},
	{"a: b\n \x0bc\x0c", "[a|b \x0bc\x0c]"},
	{"a: b\n\x0bc", "[a|b]"},
	{"a: b\n\u00a0c", "[a|b]"},
	{"a: 1\n 2\nb: 3\n 4\nc: 5\n 6", "[a|1 2][b|3 4][c|5 6]"},
	{"a: 1\na: 2\n 3", "[a|1][a|2 3]"},

	// behind a field that has no value, or no name
	{"a:\n b", "[a| b]"},
	{"a: \n\tb\n", "[a| b]"},
	{"a:\n b\n c", "[a| b c]"},
	{":\n b", "[| b]"},
	{": a\n b", "[|a b]"},

	// of blanks alone
	{"a: b\n ", "[a|b ]"},
	{"a: b\n \n", "[a|b ]"},
	{"a: b\n\t\r\n", "[a|b ]"},
	{"a: b\n \t \n\t\n", "[a|b  ]"},
	{"a: b\n \n c\n", "[a|b  c]"},
	{"a: b\n c\n \nd: e", "[a|b c ][d|e]"},
	{"a:\n \n", "[a| ]"},
	{"a:\n \n b", "[a|  b]"},
	{" \na: b", "[a|b]"},
	{" \n\n\na: b", ""},
	{" ", ""},
	{"\t\r\n", ""},

	// ahead of all fields
	{" a", ""},
	{" a: b", ""},
	{"\ta: b", ""},
	{" :", ""},
	{" a: b\nc: d", "[c|d]"},
	{" a: b\n\tc: d\ne: f\n g", "[e|f g]"},
	{" a\n b\n\nc: d", ""},

	// behind one that is none
	{"a: b\nc\n d", "[a|b]"},
	{"a: b\nc\n d: e", "[a|b]"},
	{"a: b\nc\n d\n\te", "[a|b]"},
	{"a: b\nc\n d: e\n f: g\nh: i", "[a|b][h|i]"},
	{"a: b\nc\n \n d: e\n", "[a|b]"},
	{"a: b\n c\nd\n e\nf: g\n h", "[a|b c][f|g h]"},
	{"a\n b: c\nd: e\n", "[d|e]"},
	{"a\nb\n c\nd: e\n f", "[d|e f]"},
	{"a: b\nc\nd\n e", "[a|b]"},
	{"a: b\n\r\r\n c", "[a|b]"},
}

func TestFields(t *testing.T) {
	for _, c := range heads {
		expect(t, "Fields", c.in, fieldsOf(head.Fields([]byte(c.in))), c.want)
		if !strings.Contains(c.in, "\r") {
			in := strings.ReplaceAll(c.in, "\n", "\r\n")
			expect(t, "Fields", in, fieldsOf(head.Fields([]byte(in))), c.want)
		}
	}
}

// Each byte begins a line: two of them as blanks, one as an end of the head, and one as a ':'.
func TestEachBeginning(t *testing.T) {
	for x := range 256 {
		c := string([]byte{byte(x)})
		want := "[a|b][" + c + "c|d]"
		switch c {
		case " ", "\t":
			want = "[a|b c: d]"
		case "\n":
			want = "[a|b]"
		case ":":
			want = "[a|b][|c: d]"
		}
		in := "a: b\n" + c + "c: d"
		expect(t, "Fields", in, fieldsOf(head.Fields([]byte(in))), want)
	}
}

// Each byte stands at both ends of names and values: two of them are left out.
func TestEachEnd(t *testing.T) {
	for x := range 256 {
		c := string([]byte{byte(x)})
		want := "[b" + c + "|" + c + "d" + c + " " + c + "e" + c + "]"
		switch c {
		case " ", "\t":
			want = "[b|d e]"
		case "\n":
			want = "[|]" // what is behind the line of a ':' alone is none, and the line behind that is empty
		case ":":
			want = "[b|::d: :e:]"
		}
		in := "b" + c + ":" + c + "d" + c + "\r\n " + c + "e" + c + "\r\n"
		expect(t, "Fields", in, fieldsOf(head.Fields([]byte(in))), want)
	}
}

// A value that goes on for many lines.
func TestLongValue(t *testing.T) {
	const lines = 100000
	in := "a:\n" + strings.Repeat(" \tbcd\t\r\n", lines) + "e:f"
	l := head.Fields([]byte(in))
	if len(l) != 2 || l[0].Value != strings.Repeat(" bcd", lines) || l[1].Value != "f" {
		t.Errorf("%d fields", len(l))
	}
	v, ok := head.Get([]byte("a: "+many(1<<20)), "A")
	if !ok || v != many(1<<20) {
		t.Errorf("a long value: %v, %d bytes", ok, len(v))
	}
}

func TestGet(t *testing.T) {
	const in = "Subject: one\r\nSUBJECT: two\r\n more\r\nx-Y_9: y\r\n go\r\nEmpty:\r\nempty: no\r\n no-name: none\r\n\t: z\r\nK \u00c4: k\r\nZ[: 1\r\n : \r\nlast\r\n: nameless\r\n: other\r\n\r\nbody: b\r\nx: late\r\n"
	for _, c := range []struct {
		name, want string
		has        bool
	}{
		{"Subject", "one", true},
		{"subject", "one", true},
		{"SUBJECT", "one", true},
		{"sUbJeCt", "one", true},
		{"subjec", "", false},
		{"subjectt", "", false},
		{"subject ", "", false},
		{" subject", "", false},
		{"subject:", "", false},
		{"X-y_9", "y go", true},
		{"x-y_8", "", false},
		{"x-y\x7f9", "", false},
		{"empty", "", true},
		{"k \u00c4", "k", true},
		{"K \u00c4", "k", true},
		{"K \u00e4", "", false},
		{"\u212a \u00c4", "", false}, // Kelvin's sign folds to a k elsewhere
		{"Z[", "1 :", true},
		{"z[", "1 :", true},
		{"z{", "", false},
		{"last", "", false},
		{"no-name", "", false},
		{"", "nameless", true},
		{"body", "", false},
		{"x", "", false},
		{"\xff", "", false},
	} {
		if v, ok := head.Get([]byte(in), c.name); v != c.want || ok != c.has {
			t.Errorf("Get of %q is %q, %v; want %q, %v", c.name, v, ok, c.want, c.has)
		}
	}
	if v, ok := head.Get([]byte("a\n b: c"), ""); v != "" || ok {
		t.Errorf("Get of no name is %q, %v", v, ok)
	}
	if v, ok := head.Get([]byte("Subject: a\r\n b\r\n"), "subject"); v != "a b" || !ok {
		t.Errorf("Get of the chapter's example is %q, %v", v, ok)
	}
	if v, ok := head.Get([]byte("a\x00: 1\na: 2\n"), "A\x00"); v != "1" || !ok {
		t.Errorf("Get of a name with a 00 is %q, %v", v, ok)
	}
}

func TestSame(t *testing.T) {
	for _, c := range []struct {
		a, b string
		want bool
	}{
		{"", "", true},
		{"", "a", false},
		{"a", "a", true},
		{"a", "A", true},
		{"Z", "z", true},
		{"a", "b", false},
		{"a", "B", false},
		{"aB", "Ab", true},
		{"a", "ab", false},
		{"ab", "abc", false},
		{"ab", "b", false},
		{"abc", "abd", false},
		{"Xbc", "abC", false},
		{"a", "a ", false},
		{"a", "a\x00", false},
		{"@", "`", false},
		{"[", "{", false},
		{"\\", "|", false},
		{"]", "}", false},
		{"^", "~", false},
		{"_", "\x7f", false},
		{" ", "\x00", false},
		{"\r", "-", false},
		{"1", "\x11", false},
		{"\xc1", "\xe1", false},
		{"\xe1", "\xe1", true},
		{"\u00c4", "\u00e4", false},
		{"\u00c4", "\u00c4", true},
		{"\u0391", "\u03b1", false},
		{"k", "\u212a", false},
		{"K", "\u212a", false},
		{"s", "\u017f", false},
		{"aaa", "\u212a", false}, // as many bytes as that sign has
		{"\xff", "\xfe", false},
		{"\xff", "\ufffd", false},
		{"\xff\xff\xff", "\ufffd", false},
		{"ABCDEFGHIJKLMNOPQRSTUVWXYZ", "abcdefghijklmnopqrstuvwxyz", true},
		{"Content-Type", "cONTENT-tYPE", true},
		{many(1 << 20), strings.ToUpper(many(1 << 20)), true},
		{many(1 << 20), many(1<<20-1) + "b", false},
	} {
		if got := head.Same(c.a, c.b); got != c.want {
			t.Errorf("Same of %.60q and %.60q is %v", c.a, c.b, got)
		}
		if got := head.Same(c.b, c.a); got != c.want {
			t.Errorf("Same of %.60q and %.60q is %v", c.b, c.a, got)
		}
	}
}

// TestEachPair holds each byte against each other one.
func TestEachPair(t *testing.T) {
	const great, small = "ABCDEFGHIJKLMNOPQRSTUVWXYZ", "abcdefghijklmnopqrstuvwxyz"
	for x := range 256 {
		for y := range 256 {
			a, b := string([]byte{byte(x)}), string([]byte{byte(y)})
			at := strings.Index(great+small, a)
			want := a == b || at >= 0 && (small + great)[at:at+1] == b
			if head.Same(a, b) != want || head.Same("x"+a, "X"+b) != want || head.Same(a+"X", b+"x") != want {
				t.Errorf("Same of %q and %q is %v", a, b, !want)
			}
		}
	}
}

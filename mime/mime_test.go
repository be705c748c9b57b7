package mime_test

import (
	"strconv"
	"strings"
	"testing"

	"letterbox/api"
	"letterbox/mime"
)

func expect(t *testing.T, what, in, got, want string) {
	t.Helper()
	if got != want {
		t.Errorf("%s of %.300q is %.300q, want %.300q", what, in, got, want)
	}
}

func expectNumber(t *testing.T, what, in string, got, want int) {
	t.Helper()
	if got != want {
		t.Errorf("%s of %.300q is %d, want %d", what, in, got, want)
	}
}

// typeOf is what Type tells, as one text.
func typeOf(s string) string {
	main, sub, boundary := mime.Type([]byte(s))
	return "[" + main + "][" + sub + "][" + boundary + "]"
}

// partsOf is the bytes of each part.
func partsOf(s string, l []api.Part) string {
	row := ""
	for _, p := range l {
		row += "[" + s[p.From:p.To] + "]"
	}
	return row
}

// placesOf is the places of each part.
func placesOf(l []api.Part) string {
	row := ""
	for _, p := range l {
		row += "[" + strconv.Itoa(p.From) + " " + strconv.Itoa(p.To) + "]"
	}
	return row
}

// P10.1

// kinds are what is behind the name of the field, and what Type tells.
var kinds = []struct{ value, want string }{
	// an empty one, and one of blanks
	{"", "[text][plain][]"},
	{" ", "[text][plain][]"},
	{" \t ", "[text][plain][]"},
	{";", "[text][plain][]"},
	{" ; ; ", "[text][plain][]"},
	// one without a stroke, and with nothing on one side of it
	{"text", "[text][plain][]"},
	{"multipart", "[text][plain][]"},
	{"html", "[text][plain][]"},
	{"a\\b", "[text][plain][]"},
	{"a;b/c", "[text][plain][]"},
	{"a; /c", "[text][plain][]"},
	{";a/b", "[text][plain][]"},
	{"/", "[text][plain][]"},
	{"//", "[text][plain][]"},
	{"/b", "[text][plain][]"},
	{"a/", "[text][plain][]"},
	{" \t/b", "[text][plain][]"},
	{"a/ \t", "[text][plain][]"},
	{"a/;b", "[text][plain][]"},
	{"a/ ;b", "[text][plain][]"},
	{"/b/c", "[text][plain][]"},
	{"//c", "[text][plain][]"},
	// one with it, and with two
	{"a/b", "[a][b][]"},
	{"text/plain", "[text][plain][]"},
	{"multipart/mixed", "[multipart][mixed][]"},
	{"a/b/c", "[a][b/c][]"},
	{"a//", "[a][/][]"},
	{"a//b", "[a][/b][]"},
	{"a/b/", "[a][b/][]"},
	{"a/b:c=d", "[a][b:c=d][]"},
	{"boundary=x/y", "[boundary=x][y][]"},
	// blanks around it, and within it
	{" a/b ", "[a][b][]"},
	{"\t a/b\t \t", "[a][b][]"},
	{" a/b \t; c", "[a][b][]"},
	{" a / b ", "[a ][ b][]"},
	{" a\t/\tb ", "[a\t][\tb][]"},
	{"a b/c d", "[a b][c d][]"},
	{"a/\x0b", "[a][\x0b][]"},
	{"\x00/\x0c", "[\x00][\x0c][]"},
	{"\xc2\xa0a/b\xc2\xa0", "[\xc2\xa0a][b\xc2\xa0][]"},
	{"\ra/b\r;", "[\ra][b\r][]"},
	// great letters, and what is none
	{"Text/HTML", "[text][html][]"},
	{"ABCDEFGHIJKLMNOPQRSTUVWXYZ/AbcdefghijklmnopqrstuvwxyZ", "[abcdefghijklmnopqrstuvwxyz][abcdefghijklmnopqrstuvwxyz][]"},
	{"@A/Z[", "[@a][z[][]"},
	{"a`/{z", "[a`][{z][]"},
	{"É/\xc3\x9c", "[É][Ü][]"},
	{"\xe2\x84\xaa/\xc5\xbf", "[\xe2\x84\xaa][\xc5\xbf][]"},
	{"İ/I", "[İ][i][]"},
	{"\xc1\xc9/\xff\xda", "[\xc1\xc9][\xff\xda][]"},
	{"ÀA/Àa\xff", "[Àa][Àa\xff][]"},
	{"0/9", "[0][9][]"},
	// further texts, none of which is a boundary
	{"a/b;", "[a][b][]"},
	{"a/b;;;", "[a][b][]"},
	{"a/b;c", "[a][b][]"},
	{"a/b;boundary", "[a][b][]"},
	{"a/b;boundary;", "[a][b][]"},
	{"a/b; boundary x", "[a][b][]"},
	{"a/b;=", "[a][b][]"},
	{"a/b;=x", "[a][b][]"},
	{"a/b;c=boundary", "[a][b][]"},
	{"a/b;c=boundary=x", "[a][b][]"},
	{"a/b;=boundary=x", "[a][b][]"},
	{"a/b;boundaryx=y", "[a][b][]"},
	{"a/b;boundary2=y", "[a][b][]"},
	{"a/b;boundary*=y", "[a][b][]"},
	{"a/b;xboundary=y", "[a][b][]"},
	{"a/b;boundar=y", "[a][b][]"},
	{"a/b;bound ary=y", "[a][b][]"},
	{"a/b;\"boundary\"=y", "[a][b][]"},
	{"a/b;boundary:y", "[a][b][]"},
	{"a/b boundary=x", "[a][b boundary=x][]"},
	{"a/b;\xe2\x84\xaaboundary=x", "[a][b][]"},
	{"a/b;bo\xc5\xbfundary=x", "[a][b][]"},
	// one that is
	{"a/b;boundary=x", "[a][b][x]"},
	{"a/b;boundary=x;", "[a][b][x]"},
	{"a/b;boundary=", "[a][b][]"},
	{"a/b;boundary= \t", "[a][b][]"},
	{"a/b;boundary=x=y", "[a][b][x=y]"},
	{"a/b;boundary==", "[a][b][=]"},
	{"a/b;boundary==x", "[a][b][=x]"},
	{"a/b;boundary=boundary=x", "[a][b][boundary=x]"},
	{"a/b;boundary=x/y", "[a][b][x/y]"},
	{"a/b; boundary = x ", "[a][b][x]"},
	{"a/b \t; \tboundary\t =\t x y \t;z", "[a][b][x y]"},
	{"a/b;BOUNDARY=X", "[a][b][X]"},
	{"a/b;BounDarY=AbZ", "[a][b][AbZ]"},
	{"a/b;c;d=e;;boundary=x;f", "[a][b][x]"},
	{"a/b;boundary=\xc3\x89\xff", "[a][b][\xc3\x89\xff]"},
	{"a/b;boundary=\rx\r;", "[a][b][\rx\r]"},
	{"a/b;boundary=--", "[a][b][--]"},
	// twice, and behind what begins as it does
	{"a/b;boundary=x;boundary=y", "[a][b][x]"},
	{"a/b;boundary=;boundary=y", "[a][b][]"},
	{"a/b;boundary=\"\";boundary=y", "[a][b][]"},
	{"a/b;Boundary=x;boundary=y", "[a][b][x]"},
	{"a/b;boundary;boundary=y", "[a][b][y]"},
	{"a/b;boundaryx=x;boundary=y", "[a][b][y]"},
	{"a/b;boundary x=x;boundary=y", "[a][b][y]"},
	{"boundary=x;boundary=y", "[text][plain][y]"},
	// with quotes
	{"a/b;boundary=\"x\"", "[a][b][x]"},
	{"a/b;boundary= \"x y\" ", "[a][b][x y]"},
	{"a/b;boundary=\" x\t\"", "[a][b][ x\t]"},
	{"a/b;boundary=\"", "[a][b][\"]"},
	{"a/b;boundary= \" ", "[a][b][\"]"},
	{"a/b;boundary=\"\"", "[a][b][]"},
	{"a/b;boundary=\" \"", "[a][b][ ]"},
	{"a/b;boundary=\"\"\"", "[a][b][\"]"},
	{"a/b;boundary=\"\"\"\"", "[a][b][\"\"]"},
	{"a/b;boundary=\"\"x\"\"", "[a][b][\"x\"]"},
	{"a/b;boundary=\"x", "[a][b][\"x]"},
	{"a/b;boundary=x\"", "[a][b][x\"]"},
	{"a/b;boundary=x\"y", "[a][b][x\"y]"},
	{"a/b;boundary=\"x\"y", "[a][b][\"x\"y]"},
	{"a/b;boundary=x\"y\"", "[a][b][x\"y\"]"},
	{"a/b;boundary='x'", "[a][b]['x']"},
	{"a/b;boundary=\\\"x\\\"", "[a][b][\\\"x\\\"]"},
	{"a/b;boundary=\"x;y\"", "[a][b][\"x]"},
	{"a/b;c=\"d;boundary=x;e\"", "[a][b][x]"},
	{"a/b;\"c;boundary=x", "[a][b][x]"},
	// where the kind is told as text, plain
	{";boundary=x", "[text][plain][x]"},
	{"multipart;boundary=x", "[text][plain][x]"},
	{"/b; boundary=\"x\"", "[text][plain][x]"},
	{"a/; BOUNDARY = x", "[text][plain][x]"},
}

func TestKinds(t *testing.T) {
	for _, c := range kinds {
		for _, name := range []string{"Content-Type:", "content-type: ", "CONTENT-TYPE \t:\t "} {
			for _, rest := range []string{"\n", "\r\n", "\n\n", "\r\n\r\nbody", "\nTo: x\n\n"} {
				s := name + c.value + rest
				expect(t, "Type", s, typeOf(s), c.want)
			}
		}
		if s := "content-type:" + c.value; !strings.HasSuffix(s, "\r") { // that would be of the line's end
			expect(t, "Type", s, typeOf(s), c.want)
		}
	}
}

// Which field it is that tells, and that it is of the head.
func TestWhichField(t *testing.T) {
	for _, c := range []struct{ in, want string }{
		{"", "[text][plain][]"},
		{"\n", "[text][plain][]"},
		{"a/b", "[text][plain][]"},
		{"To: a/b;boundary=c\n\n", "[text][plain][]"},
		{"X-Content-Type: a/b;boundary=c\n\n", "[text][plain][]"},
		{"Content-Types: a/b;boundary=c\n\n", "[text][plain][]"},
		{"Content-Typ: a/b;boundary=c\n\n", "[text][plain][]"},
		{"Content Type: a/b;boundary=c\n\n", "[text][plain][]"},
		{"Content-Type a/b;boundary=c\n\n", "[text][plain][]"},
		{"boundary: c\n\n", "[text][plain][]"},
		{"\nContent-Type: a/b;boundary=c\n\n", "[text][plain][]"},
		{"To: d\n\nContent-Type: a/b;boundary=c\n\n", "[text][plain][]"},
		{" Content-Type: a/b;boundary=c\n\n", "[text][plain][]"},
		{"To: d\n Content-Type: a/b;boundary=c\n\n", "[text][plain][]"},
		{"To: d\nContent-Type: a/b;boundary=c\n\n", "[a][b][c]"},
		{"none\nContent-Type: a/b;boundary=c", "[a][b][c]"},
		{"Content-Type: a/b;boundary=c\nContent-Type: d/e;boundary=f\n\n", "[a][b][c]"},
		{"Content-Type: a/b\nContent-Type: d/e;boundary=f\n\n", "[a][b][]"},
		{"Content-Type:\nContent-Type: d/e;boundary=f\n\n", "[text][plain][]"},
		{"content-TYPE: a\nContent-Type: d/e;boundary=f\n\n", "[text][plain][]"},
		{"Content-Type:\r\n a/b;\r\n\tboundary=c\r\n\r\n", "[a][b][c]"},
		{"Content-Type: a/\n b\n ;boundary\n =\n \"c\n d\"\n\n", "[a][ b][c d]"},
		{"Content-Type: a\n /b; bound\n ary=c\n\n", "[a ][b][]"},
		{"Content-Type: a/b;boundary=c\n d\n\n e\n", "[a][b][c d]"},
	} {
		expect(t, "Type", c.in, typeOf(c.in), c.want)
	}
}

// Each byte, but those that have a meaning, is of the kind and of the boundary as it is.
func TestEachByte(t *testing.T) {
	for x := range 256 {
		c := string([]byte{byte(x)})
		if strings.Contains("\n;", c) {
			continue
		}
		lower := c
		if x >= 'A' && x <= 'Z' {
			lower = string([]byte{byte(x + 32)})
		}
		want := "[p" + lower + "q][r" + lower + "s][t" + c + "u]"
		if c == "/" {
			want = "[p][q/r/s][t/u]"
		}
		s := "Content-Type: p" + c + "q/r" + c + "s;boundary=t" + c + "u\n\n"
		if c == "/" {
			s = "Content-Type: p/q/r/s;boundary=t/u\n\n"
		}
		expect(t, "Type", s, typeOf(s), want)
		s = "Content-Type: a/b;boundar" + c + "=x;boundary" + c + "=y;" + c + "boundary=z\n\n"
		switch c {
		case "y", "Y":
			want = "[a][b][x]"
		case " ", "\t":
			want = "[a][b][y]"
		case "=":
			want = "[a][b][=y]"
		default:
			want = "[a][b][]"
		}
		expect(t, "Type", s, typeOf(s), want)
	}
}

// P10.2

const top = "content-type: multipart/mixed; boundary=b\n\n"

// bodies are what stands behind top, and the bytes of its parts.
var bodies = []struct{ in, want string }{
	// no mark at all
	{"", ""},
	{"\n", ""},
	{"x", ""},
	{"x\r\ny\r\n", ""},
	{"b", ""},
	{"-b", ""},
	{"--", ""},
	{"--\n--\n", ""},
	// a mark as the first line and as the last one
	{"--b", "[]"},
	{"--b\n", "[]"},
	{"--b\r\n", "[]"},
	{"--b\r", "[]"},
	{"--b\nx", "[x]"},
	{"--b\r\nx", "[x]"},
	{"\n--b", "[]"},
	{"x\n--b", "[]"},
	{"x\ny\r\n\r\n--b\r\n", "[]"},
	{"x\n--b\ny", "[y]"},
	{"--b\nx\n--b", "[x][]"},
	{"--b\nx\n--b\n", "[x][]"},
	{"--b\nx\n--b\r\n", "[x][]"},
	{"--b\nx\n--b\r", "[x][]"},
	// two marks one behind the other
	{"--b\n--b", "[][]"},
	{"--b\n--b\n", "[][]"},
	{"--b\r\n--b\r\n--b\r\n", "[][][]"},
	{"--b\n--b\nx\n--b\n--b\ny", "[][x][][y]"},
	{"--b\n--b--", "[]"},
	{"--b\r\n--b--\r\n", "[]"},
	{"--b\n--b\n--b--", "[][]"},
	// an end, and what is behind it
	{"--b\nx\n--b--", "[x]"},
	{"--b\nx\n--b--\n", "[x]"},
	{"--b\nx\n--b--\r", "[x]"},
	{"--b\nx\n--b--\r\n", "[x]"},
	{"--b\nx\n--b--\ny", "[x]"},
	{"--b\nx\n--b--\n--b\ny", "[x]"},
	{"--b\nx\n--b--\n--b\ny\n--b--\n", "[x]"},
	{"--b\nx\n--b--\n--b--\n--b", "[x]"},
	{"--b\nx\n--b\ny\n--b--\nz\n--b\nz", "[x][y]"},
	// an end without a mark
	{"--b--", ""},
	{"--b--\n", ""},
	{"x\n--b--\r\n", ""},
	{"--b--\n--b\nx", ""},
	{"x\r\n--b--\r\n--b\r\nx\r\n--b--\r\n", ""},
	// lines that begin as they do, and others that are none
	{"--bb\nx", ""},
	{"--b \nx", ""},
	{"--b\t\nx", ""},
	{" --b\nx", ""},
	{"\t--b\nx", ""},
	{"\r--b\nx", ""},
	{"--b\r\r\nx", ""},
	{"--b\r\r", ""},
	{"--b\rx", ""},
	{"--b\x00\nx", ""},
	{"--B\nx", ""},
	{"-- b\nx", ""},
	{"--\nb\nx", ""},
	{"---b\nx", ""},
	{"\"--b\"\nx", ""},
	{"--\"b\"\nx", ""},
	{"--c\nx", ""},
	{"--b-\nx", ""},
	{"--b\nx\n--b-\ny\n--b---\nz", "[x\n--b-\ny\n--b---\nz]"},
	{"--b\nx\n--b--y\n--b-- \n --b--\n--b --\n--b", "[x\n--b--y\n--b-- \n --b--\n--b --][]"},
	{"--b\nx\n--b--\r\r\ny", "[x\n--b--\r\r\ny]"},
	{"--b\nx\n--b\r\r\n--B--\ny", "[x\n--b\r\r\n--B--\ny]"},
	{"--b\nx\n--b--b--\n--b----\n", "[x\n--b--b--\n--b----]"},
	{"--b\nx --b\ny--b--\n", "[x --b\ny--b--]"},
	// how the last line of a part ends
	{"--b\nx\n", "[x]"},
	{"--b\nx\r\n", "[x]"},
	{"--b\nx\r", "[x\r]"},
	{"--b\nx\r\r", "[x\r\r]"},
	{"--b\nx\r\r\n", "[x\r]"},
	{"--b\nx\n\n", "[x\n]"},
	{"--b\nx\r\n\r\n", "[x\r\n]"},
	{"--b\nx\n\r", "[x\n\r]"},
	{"--b\nx\n\r\n", "[x\n]"},
	{"--b\nx\r\n\n", "[x\r\n]"},
	{"--b\nx\n--b\ny\n--b--", "[x][y]"},
	{"--b\nx\r\n--b\ny\r\n--b--", "[x][y]"},
	{"--b\nx\r\r\n--b\ny\r\r\n--b--", "[x\r][y\r]"},
	{"--b\nx\n\n--b\ny\r\n\r\n--b--", "[x\n][y\r\n]"},
	{"--b\nx \n--b\ny\t\r\n--b--", "[x ][y\t]"},
	{"--b\nx\ny\r\nz", "[x\ny\r\nz]"},
	// a part of an end alone, and of blanks
	{"--b\n\n", "[]"},
	{"--b\n\r\n", "[]"},
	{"--b\n\r", "[\r]"},
	{"--b\n\r\r\n", "[\r]"},
	{"--b\n\n--b\n\r\n--b--", "[][]"},
	{"--b\r\n\n--b\r\n\r\n--b--", "[][]"},
	{"--b\n\n\n--b\n\r\n\r\n--b--", "[\n][\r\n]"},
	{"--b\n \n--b\n\t\r\n--b--", "[ ][\t]"},
	{"--b\r\n\r\n", "[]"},
	{"--b\r\n\r", "[\r]"},
	// other bytes
	{"--b\n\x00\xff\xfe\n--b\n\xc3\x89\n", "[\x00\xff\xfe][\xc3\x89]"},
	{"--b\n--b\xff\n--\xffb\n", "[--b\xff\n--\xffb]"},
	// heads within
	{"--b\nTo: x\n\ny\n--b\n\nz\n--b--\n", "[To: x\n\ny][\nz]"},
	{"--b\ncontent-type: multipart/x; boundary=c\n\n--c\nx\n--c--\n--b\ny", "[content-type: multipart/x; boundary=c\n\n--c\nx\n--c--][y]"},
}

func TestBodies(t *testing.T) {
	for _, c := range bodies {
		for _, top := range []string{top, strings.ReplaceAll(top, "\n", "\r\n"), "To: x\n" + top, strings.Replace(top, "=b", " = \"b\" ; charset=x", 1)} {
			s := top + c.in
			expect(t, "Parts", s, partsOf(s, mime.Parts([]byte(s))), c.want)
			expectNumber(t, "Parts", s, len(mime.Parts([]byte(s))), strings.Count(c.want, "["))
		}
	}
}

// The places are those in the whole of it.
func TestPlaces(t *testing.T) {
	const short = "Content-Type:multipart/x;boundary=b\n\n" // 37 bytes
	for _, c := range []struct{ in, want string }{
		{short + "--b", "[40 40]"},
		{short + "--b\n", "[41 41]"},
		{short + "--b\r\n", "[42 42]"},
		{short + "--b\r", "[41 41]"},
		{short + "--b\n\n", "[41 41]"},
		{short + "--b\n\r\n", "[41 41]"},
		{short + "--b\n\r", "[41 42]"},
		{short + "--b\r\n\r\n", "[42 42]"},
		{short + "--b\n--b\n--b--", "[41 41][45 45]"},
		{short + "--b\nx", "[41 42]"},
		{short + "--b\nx\r\n", "[41 42]"},
		{short + "x\n--b\nyy\n--b\r\nzzz\r\n--b--\r\nx", "[43 45][51 54]"},
		{short + "--b\none\n--b\ntwo", "[41 44][49 52]"},
		{"To: x\n" + short + "--b\nx\n--b--", "[47 48]"},
		{"Content-Type:multipart/x;boundary=b\r\n\r\n--b\nx\n--b--", "[43 44]"},
		{"Content-Type:multipart/x;boundary=b\n\n\n\n--b\nx\n--b--", "[43 44]"},
	} {
		expect(t, "Parts", c.in, placesOf(mime.Parts([]byte(c.in))), c.want)
	}
}

// What has no parts, whatever its lines are; marks in the head are none.
func TestNoParts(t *testing.T) {
	const body = "\n\n--b\nx\n--b--\n--\ny\n----\n--\"\"\nz"
	for _, in := range []string{
		"", "\n", "--b\nx", "--b\n\nx\n--b--", "content-type: multipart/mixed; boundary=b", "content-type: multipart/mixed; boundary=b\n--b\nx\n--b--\n",
		"To: x" + body, body,
		"content-type: text/mixed; boundary=b" + body,
		"content-type: multipart; boundary=b" + body,
		"content-type: multipart/; boundary=b" + body,
		"content-type: /multipart; boundary=b" + body,
		"content-type: x/multipart; boundary=b" + body,
		"content-type: multipart /x; boundary=b" + body,
		"content-type: multiparts/x; boundary=b" + body,
		"content-type: multipar/x; boundary=b" + body,
		"content-type: m\xc3\xbcltipart/x; boundary=b" + body,
		"content-type: text/plain\ncontent-type: multipart/x; boundary=b" + body,
		"content-type: multipart/x" + body,
		"content-type: multipart/x; boundary" + body,
		"content-type: multipart/x; boundary=" + body,
		"content-type: multipart/x; boundary=\"\"" + body,
		"content-type: multipart/x; boundary= ; boundary=b" + body,
		"content-type: multipart/x; boundary=c" + body,
		"content-type: multipart/x; boundary=B" + body,
		"content-type: multipart/x boundary=b" + body,
		"\n" + top + body,
	} {
		expectNumber(t, "Parts", in, len(mime.Parts([]byte(in))), 0)
	}
	for _, in := range []string{
		"content-type: MultiPart/x; boundary=b" + body,
		"content-type: multipart//; boundary=b" + body,
		"content-type: multipart/ x;boundary=b;boundary=c" + body,
		"content-type: multipart/x\n\t; boundary=b" + body,
	} {
		expect(t, "Parts", in, partsOf(in, mime.Parts([]byte(in))), "[x]")
	}
}

// Boundaries that look like something else.
func TestBoundaries(t *testing.T) {
	for _, c := range []struct{ boundary, body, want string }{
		{"--", "----\nx\n------\n", "[x]"},
		{"--", "--\nx\n----\ny\n--\nz", "[y\n--\nz]"},
		{"-", "---\nx\n-----\n--\n", "[x]"},
		{"b--", "--b--\nx\n--b\ny\n--b----\nz", "[x\n--b\ny]"},
		{"b\r", "--b\r\nx", "[x]"}, // the turn is of the line's end
		{"b\r;", "--b\r\r\nx\r\n--b\r--\r\n", "[x]"},
		{"b\r;", "--b\r\nx\n--b\r\r\ny\n--b\r", "[y\n--b\r]"},
		{"\"", "--\"\nx\n--\"--\n", "[x]"},
		{"\" b\"", "-- b\nx\n--b\n-- b--\n", "[x\n--b]"},
		{"\"b \"", "--b\ny\n--b \nx\n--b --\n", "[x]"},
		{"\"b", "--b\ny\n--\"b\nx", "[x]"},
		{"b c", "--b\ny\n--b c\nx", "[x]"},
		{"b\n c", "--b\ny\n--b c\nx", "[x]"},
		{"\xff\x00", "--\xff\nx\n--\xff\x00\ny\n--\xff\x00--", "[y]"},
		{":", "--:\nx\n--:--", "[x]"},
		{"AbC", "--abc\nx\n--ABC\n--AbC\ny", "[y]"},
	} {
		s := "Content-Type: multipart/x; boundary=" + c.boundary + "\n\n" + c.body
		expect(t, "Parts", s, partsOf(s, mime.Parts([]byte(s))), c.want)
	}
}

// So many marks, a line in each part, and what is behind them.
func TestMaxParts(t *testing.T) {
	for _, n := range []int{1, 2, api.MaxParts - 1, api.MaxParts, api.MaxParts + 1, 2 * api.MaxParts, 300} {
		for _, rest := range []string{"", "--b", "--b--", "--b--\n", "--b--\n--b\ny\n", "--b\n--b--\n--b\ny\n", "--b\ny\n--b--", "y"} {
			s := top
			for i := range n {
				s += "--b\nx" + strconv.Itoa(i) + "\n"
			}
			s += rest
			want := ""
			open := 0 // marks so far
			for line := range strings.Lines(s[len(top):]) {
				text := strings.TrimSuffix(line, "\n")
				if text == "--b--" {
					break
				}
				if text == "--b" && open < api.MaxParts {
					open++
					want += "]["
					continue
				}
				want += line
			}
			want = strings.ReplaceAll(want+"]", "\n]", "]")[1:]
			l := mime.Parts([]byte(s))
			expectNumber(t, "Parts", s, len(l), open)
			expect(t, "Parts", s, partsOf(s, l), want)
		}
	}
	s := top + strings.Repeat("--b\n", api.MaxParts+2) + "--b--\n--b\n"
	expect(t, "Parts", s, partsOf(s, mime.Parts([]byte(s))), strings.Repeat("[]", api.MaxParts-1)+"[--b\n--b]")
	s = top + strings.Repeat("--b\r\n", api.MaxParts)
	expect(t, "Parts", s, partsOf(s, mime.Parts([]byte(s))), strings.Repeat("[]", api.MaxParts))
}

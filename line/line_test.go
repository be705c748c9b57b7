package line_test

import (
	"bytes"
	"math"
	"strconv"
	"strings"
	"testing"

	"letterbox/api"
	"letterbox/line"
)

// many is so many bytes that end nothing.
func many(n int) string {
	return strings.Repeat("a", n)
}

// textOf is an event as a text.
func textOf(e api.Event) string {
	switch {
	case e.Kind == api.EventLine:
		return "[" + string(e.Data) + "]"
	case e.Kind == api.EventLiteral:
		return "{" + string(e.Data) + "}"
	case e.Kind == api.EventLong && len(e.Data) == 0:
		return "long"
	}
	return "?" + strconv.Itoa(e.Kind) + string(e.Data)
}

// allOf is all events that there are, as a text.
func allOf(l *line.Lines) string {
	s := ""
	for range api.MaxBuffer + 2 { // a line has a byte at least, and one literal may have none
		e, ok := l.Next()
		if !ok {
			if e.Kind != 0 || len(e.Data) != 0 {
				s += "beside nothing: " + textOf(e)
			}
			return s
		}
		s += textOf(e)
	}
	return s + "and no end of it"
}

func expect(t *testing.T, what string, got, want api.Errno) {
	t.Helper()
	if got != want {
		t.Errorf("%s: error %d, want %d", what, got, want)
	}
}

func expectLen(t *testing.T, what string, l *line.Lines, want int) {
	t.Helper()
	if got := l.Len(); got != want {
		t.Errorf("%s: Len %d, want %d", what, got, want)
	}
}

// expectTold wants just these events, and so many bytes that wait behind them.
func expectTold(t *testing.T, what string, l *line.Lines, want string, left int) {
	t.Helper()
	if got := allOf(l); got != want {
		t.Errorf("%s: told %q, want %q", what, got, want)
	}
	expectLen(t, what, l, left)
	if got := allOf(l); got != "" {
		t.Errorf("%s: told behind all: %q", what, got)
	}
	expectLen(t, what+", asked again", l, left)
}

func feed(t *testing.T, l *line.Lines, s string) {
	t.Helper()
	was := l.Len()
	expect(t, "Feed", l.Feed([]byte(s)), api.OK)
	expectLen(t, "Feed", l, was+len(s))
}

func want(t *testing.T, l *line.Lines, n int) {
	t.Helper()
	was := l.Len()
	expect(t, "Want", l.Want(n), api.OK)
	expectLen(t, "Want", l, was)
}

// step is a piece that is fed, what is told behind it, and how many wait then.
type step struct {
	in, told string
	left     int
}

func expectSteps(t *testing.T, what string, l *line.Lines, steps ...step) {
	t.Helper()
	for i, s := range steps {
		feed(t, l, s.in)
		expectTold(t, what+", piece "+strconv.Itoa(i), l, s.told, s.left)
	}
}

// P8.1

func TestNothing(t *testing.T) {
	l := line.New()
	expectTold(t, "a new one", l, "", 0)
	expect(t, "Feed of nil", l.Feed(nil), api.OK)
	expect(t, "Feed of no byte", l.Feed([]byte{}), api.OK)
	expect(t, "Feed of spare room", l.Feed(make([]byte, 0, 9)), api.OK)
	expectTold(t, "no byte", l, "", 0)
	feed(t, l, "a")
	expect(t, "Feed of nil", l.Feed(nil), api.OK)
	expectTold(t, "no byte behind one", l, "", 1)
	expectSteps(t, "behind no byte", l, step{"\n", "[a]", 0})
}

func TestBytesWait(t *testing.T) {
	l := line.New()
	for i, s := range []string{"", "a", "\n", "\r\n\r\n", "", many(300), "\x00"} {
		feed(t, l, s) // Len is what was, and these
		if i == 2 {
			expectLen(t, "a line that is not asked for", l, 2)
		}
	}
	expectTold(t, "all", l, "[a][][]", 301)
}

// Feed errs at one byte above MaxBuffer, however many of them wait already, and takes nothing then.
func TestBuffer(t *testing.T) {
	const full = api.MaxBuffer
	for _, waiting := range []int{0, 1, 2, api.MaxLine, api.MaxLine + 1, api.MaxLine + 2, full / 2, full - 2, full - 1, full} {
		for _, byteOf := range []string{"a", "\n", "\r"} {
			l := line.New()
			feed(t, l, strings.Repeat(byteOf, waiting))
			for _, above := range []int{1, 2, 100, full, full + 1, 1 << 20} {
				expect(t, "too many", l.Feed(bytes.Repeat([]byte(byteOf), full-waiting+above)), api.ErrLong)
				expectLen(t, "too many", l, waiting)
			}
			expect(t, "Feed of nil", l.Feed(nil), api.OK)
			if waiting < full {
				feed(t, l, strings.Repeat(byteOf, full-waiting-1))
				expect(t, "too many", l.Feed([]byte(byteOf+byteOf)), api.ErrLong)
				feed(t, l, byteOf)
			}
			expect(t, "one too many", l.Feed([]byte(byteOf)), api.ErrLong)
			expectLen(t, "full", l, full)
			told := "" // they are dropped
			if byteOf == "\n" {
				told = strings.Repeat("[]", full)
			}
			expectTold(t, "full of "+strconv.Quote(byteOf), l, told, 0)
			feed(t, l, strings.Repeat("b", full))
			expect(t, "one too many again", l.Feed([]byte("b")), api.ErrLong)
		}
	}
}

// What erred leaves no byte behind, nor anything of a line or a literal.
func TestFeedThatErrs(t *testing.T) {
	above := []byte(strings.Repeat("x\r\n", api.MaxBuffer/3+1))
	l := line.New()
	expect(t, "Feed", l.Feed(above), api.ErrLong)
	expectTold(t, "nothing ahead", l, "", 0)
	feed(t, l, "ab")
	expect(t, "Feed", l.Feed(above), api.ErrLong)
	expectTold(t, "an open line", l, "", 2)
	want(t, l, 3)
	expect(t, "Feed", l.Feed(above), api.ErrLong)
	expectTold(t, "a literal", l, "", 2)
	expectSteps(t, "a literal", l, step{"\nc\r\n", "{ab\n}[c]", 0}, step{many(302), "", 0})
	expect(t, "Feed", l.Feed(append(above, "\n"...)), api.ErrLong)
	expectTold(t, "a line that is dropped", l, "", 0)
	expectSteps(t, "a line that is dropped", l, step{"d\ne\n", "long[e]", 0})
}

// What is taken or dropped waits no more: there is room again.
func TestRoomAgain(t *testing.T) {
	l := line.New()
	for range 50 {
		feed(t, l, "0123456789\r\n"+many(api.MaxBuffer-12))
		expect(t, "full", l.Feed([]byte("b")), api.ErrLong)
		if e, ok := l.Next(); !ok || textOf(e) != "[0123456789]" {
			t.Errorf("told %v, %q", ok, textOf(e))
		}
		expectLen(t, "a line is taken", l, api.MaxBuffer-12)
		expect(t, "one too many", l.Feed([]byte(many(13))), api.ErrLong)
		feed(t, l, many(12))
		expectTold(t, "dropped", l, "", 0)
		expectSteps(t, "ended", l, step{"\n", "long", 0})
		want(t, l, 1000)
		feed(t, l, many(api.MaxBuffer-1)+"\n")
		if e, ok := l.Next(); !ok || textOf(e) != "{"+many(1000)+"}" {
			t.Errorf("told %v, %q", ok, textOf(e))
		}
		expect(t, "one too many", l.Feed([]byte(many(1001))), api.ErrLong)
		expectTold(t, "the rest", l, "long", 0)
	}
}

func TestWantArguments(t *testing.T) {
	for _, n := range []int{-1, -2, math.MinInt, api.MaxBody + 1, api.MaxBody + 2, api.MaxBuffer, 1 << 32, math.MaxInt} {
		l := line.New()
		feed(t, l, "ab\n")
		expect(t, "Want", l.Want(n), api.ErrArg)
		expectTold(t, "no literal is wanted", l, "[ab]", 0)
		want(t, l, 2)
		expect(t, "Want", l.Want(n), api.ErrArg)
		expectSteps(t, "another is wanted", l, step{"a", "", 1}, step{"\nb\n", "{a\n}[b]", 0})
	}
	for _, n := range []int{0, 1, 2, api.MaxLine + 1, api.MaxLine + 2, api.MaxBody - 1, api.MaxBody} {
		l := line.New()
		want(t, l, n)
		feed(t, l, many(n)+"b\n")
		expectTold(t, "Want of "+strconv.Itoa(n), l, "{"+many(n)+"}[b]", 0)
	}
}

// P8.2: lines

func TestEnds(t *testing.T) {
	for _, c := range []step{
		{"\n", "[]", 0},
		{"\r\n", "[]", 0},
		{"\r\r\n", "[\r]", 0},
		{"\r\r\r\n", "[\r\r]", 0},
		{"\r", "", 1},
		{"\r\r", "", 2},
		{"a", "", 1},
		{"a\r", "", 2},
		{"a\rb", "", 3},
		{"a\n", "[a]", 0},
		{"a\r\n", "[a]", 0},
		{"a\r\r\n", "[a\r]", 0},
		{"a\rb\n", "[a\rb]", 0},
		{"a\rb\r\n", "[a\rb]", 0},
		{"\ra\n", "[\ra]", 0},
		{"\ra\r\n", "[\ra]", 0},
		{"a\n\r", "[a]", 1},
		{"a\n\r\n", "[a][]", 0},
		{"\n\n", "[][]", 0},
		{"\n\r\n\n", "[][][]", 0},
		{"a\r\nb", "[a]", 1},
		{"a\nb\r\nc\n\nd\r", "[a][b][c][]", 2},
		{"\x00\xff\x80\n", "[\x00\xff\x80]", 0},
		{"\x0b\x0c\xc2\x85\xe2\x80\xa8\x1a\x04\n", "[\x0b\x0c\xc2\x85\xe2\x80\xa8\x1a\x04]", 0}, // no others end lines
		{" \t a \t \n", "[ \t a \t ]", 0},
		{"a\\n\\r\n", "[a\\n\\r]", 0},
		{"a{3}\nabc\n", "[a{3}][abc]", 0}, // no literal, as none is wanted
	} {
		l := line.New()
		feed(t, l, c.in)
		expectTold(t, strconv.Quote(c.in), l, c.told, c.left)
		l = line.New()
		told := ""
		for i := range len(c.in) {
			feed(t, l, c.in[i:i+1])
			told += allOf(l)
		}
		if told != c.told || l.Len() != c.left {
			t.Errorf("%q byte by byte: told %q and %d wait, want %q and %d", c.in, told, l.Len(), c.told, c.left)
		}
	}
}

func TestEachByteOfALine(t *testing.T) {
	for x := range 256 {
		s := string([]byte{byte(x)})
		if s == "\n" {
			continue
		}
		l := line.New()
		expectSteps(t, strconv.Quote(s), l, step{s, "", 1}, step{"b" + s, "", 3}, step{"b\r\n", "[" + s + "b" + s + "b]", 0})
	}
}

// TestOneAtATime asks for a line and looks at what waits behind it.
func TestOneAtATime(t *testing.T) {
	l := line.New()
	feed(t, l, "ab\r\nc\n\n\r\nrest")
	left := l.Len()
	for _, c := range []struct {
		told  string
		bytes int
	}{{"[ab]", 4}, {"[c]", 2}, {"[]", 1}, {"[]", 2}} {
		e, ok := l.Next()
		left -= c.bytes
		if !ok || textOf(e) != c.told || l.Len() != left {
			t.Errorf("told %v, %q, and %d wait; want %q and %d", ok, textOf(e), l.Len(), c.told, left)
		}
	}
	expectTold(t, "the rest", l, "", 4)
}

// P8.2: lines that are too long

// TestLengths goes through the lengths around MaxLine: in one piece, cut at each place, and byte by byte.
func TestLengths(t *testing.T) {
	for _, n := range []int{0, 1, 2, api.MaxLine - 2, api.MaxLine - 1, api.MaxLine, api.MaxLine + 1, api.MaxLine + 2, api.MaxLine + 3, 2 * api.MaxLine, 3000} {
		for _, end := range []string{"\n", "\r\n", "\r\r\n", "\rb\n"} {
			text := many(n) + strings.TrimSuffix(strings.TrimSuffix(end, "\n"), "\r")
			told := "long"
			if len(text) <= api.MaxLine {
				told = "[" + text + "]"
			}
			s := many(n) + end
			for at := range len(s) + 1 {
				l := line.New()
				feed(t, l, s[:at])
				got := allOf(l)
				feed(t, l, s[at:]+"next\n")
				if got += allOf(l); got != told+"[next]" || l.Len() != 0 {
					t.Errorf("%d bytes and %q, cut at %d: told %q, and %d wait", n, end, at, got, l.Len())
				}
			}
			l := line.New()
			got := ""
			for i := range len(s) {
				feed(t, l, s[i:i+1])
				got += allOf(l)
			}
			if got != told || l.Len() != 0 {
				t.Errorf("%d bytes and %q, byte by byte: told %q, and %d wait", n, end, got, l.Len())
			}
		}
	}
}

// TestOpen has as many bytes wait without an end as may be a line yet, and more.
func TestOpen(t *testing.T) {
	const open = api.MaxLine + 1
	for _, last := range []string{"a", "\r"} {
		for n := 1; n <= open; n++ {
			l := line.New()
			expectSteps(t, "may be a line yet", l, step{many(n-1) + last, "", n})
		}
		for _, n := range []int{open + 1, open + 2, 1000, api.MaxBuffer - 1, api.MaxBuffer} {
			l := line.New()
			expectSteps(t, "is none any more", l, step{many(n-1) + last, "", 0}, step{"\n", "long", 0}, step{"b\n", "[b]", 0})
		}
	}
	l := line.New()
	expectSteps(t, "a turn at its end", l, step{many(open-1) + "\r", "", open}, step{"\n", "[" + many(open-1) + "]", 0})
	expectSteps(t, "no turn at its end", l, step{many(open), "", open}, step{"\n", "long", 0})
	expectSteps(t, "a turn too late", l, step{many(open), "", open}, step{"\r", "", 0}, step{"\n", "long", 0})
	expectSteps(t, "two turns", l, step{many(open-1) + "\r", "", open}, step{"\r", "", 0}, step{"\n", "long", 0})
	expectSteps(t, "turns alone", l, step{strings.Repeat("\r", open), "", open}, step{"\n", "[" + strings.Repeat("\r", open-1) + "]", 0})
	expectSteps(t, "behind a line", l, step{"b\n" + many(open), "[b]", open}, step{"a", "", 0}, step{"\n", "long", 0})
}

// Nothing is dropped ahead of a Next, and none is dropped that has its end.
func TestDroppedByNextAlone(t *testing.T) {
	l := line.New()
	feed(t, l, many(1000))
	feed(t, l, many(1000))
	expectLen(t, "not asked yet", l, 2000)
	feed(t, l, "\nb")
	expectTold(t, "asked with its end", l, "long", 1)
	feed(t, l, many(3000)+"\n"+many(api.MaxLine+2))
	if e, ok := l.Next(); !ok || textOf(e) != "long" || l.Len() != api.MaxLine+2 {
		t.Errorf("told %v, %q, and %d wait", ok, textOf(e), l.Len())
	}
	expectTold(t, "the next one", l, "", 0)
	expectSteps(t, "the next one", l, step{"\n", "long", 0})
}

func TestDropped(t *testing.T) {
	const open = api.MaxLine + 1
	for what, steps := range map[string][]step{
		"in one piece":                  {{many(1000) + "\n", "long", 0}},
		"in one piece, with a turn":     {{many(1000) + "\r\n", "long", 0}},
		"in one piece, and what comes":  {{many(1000) + "\nb\n\nc", "long[b][]", 1}, {"d\n", "[cd]", 0}},
		"and its end":                   {{many(1000), "", 0}, {"\n", "long", 0}, {"b\n", "[b]", 0}},
		"and its end, with a turn":      {{many(1000), "", 0}, {"\r\n", "long", 0}, {"b\r\n", "[b]", 0}},
		"and its end in pieces":         {{many(1000), "", 0}, {"\r", "", 1}, {"\n", "long", 0}, {"\n", "[]", 0}},
		"a turn dropped":                {{many(1000) + "\r", "", 0}, {"\n", "long", 0}, {"\r\n", "[]", 0}},
		"and what comes":                {{many(1000), "", 0}, {"\nb\nc", "long[b]", 1}, {"\n", "[c]", 0}},
		"and an empty line":             {{many(1000), "", 0}, {"\n\n", "long[]", 0}},
		"some more that wait":           {{many(1000), "", 0}, {"b", "", 1}, {"c", "", 2}, {"d\ne\n", "long[e]", 0}},
		"as many more as may wait":      {{many(open + 1), "", 0}, {many(open), "", open}, {"\nb\n", "long[b]", 0}},
		"as many more as a line has":    {{many(open + 1), "", 0}, {many(api.MaxLine) + "\n", "long", 0}, {"b\n", "[b]", 0}},
		"dropped twice":                 {{many(open + 1), "", 0}, {many(open), "", open}, {"b", "", 0}, {"\nb\n", "long[b]", 0}},
		"dropped in many pieces":        {{many(1000), "", 0}, {many(1000), "", 0}, {many(4096), "", 0}, {many(302), "", 0}, {"\n", "long", 0}, {"b\n", "[b]", 0}},
		"one behind the other":          {{many(1000), "", 0}, {"\n" + many(1000), "long", 0}, {"\n" + many(1000) + "\nb\n", "longlong[b]", 0}},
		"no byte between":               {{many(1000), "", 0}, {"", "", 0}, {"\n", "long", 0}, {"", "", 0}},
		"a line of MaxLine behind it":   {{many(1000), "", 0}, {"\n" + many(api.MaxLine) + "\r", "long", open}, {"\n", "[" + many(api.MaxLine) + "]", 0}},
		"turns in its midst":            {{strings.Repeat("\ra", 400), "", 0}, {"\r\r\n\r\r\n", "long[\r]", 0}},
		"ahead of it, lines":            {{"b\n\r\nc\n" + many(1000), "[b][][c]", 0}, {"\nd\n", "long[d]", 0}},
		"what looks like a literal":     {{many(1000) + "{3}", "", 0}, {"\nabc\n", "long[abc]", 0}},
		"one byte behind what may wait": {{many(open), "", open}, {"a", "", 0}, {"a", "", 1}, {"\n", "long", 0}},
	} {
		expectSteps(t, what, line.New(), steps...)
	}
}

// P8.2: literals

func TestLiterals(t *testing.T) {
	l := line.New()
	want(t, l, 0)
	expectTold(t, "of no byte, and none waits", l, "{}", 0)
	feed(t, l, "a\n")
	want(t, l, 0)
	expectTold(t, "of no byte, and some wait", l, "{}[a]", 0)
	want(t, l, 1)
	expectTold(t, "of one byte", l, "", 0)
	expectSteps(t, "of one byte", l, step{"\n", "{\n}", 0}, step{"\n", "[]", 0})
	want(t, l, 5)
	expectSteps(t, "with ends among them", l, step{"a\r\nb\r\n", "{a\r\nb\r}[]", 0})
	want(t, l, 4)
	expectSteps(t, "in pieces", l, step{"\n", "", 1}, step{"", "", 1}, step{"\r\n", "", 3}, step{"\rb", "{\n\r\n\r}", 1}, step{"\n", "[b]", 0})
	feed(t, l, "a\r\nb\nc\n")
	want(t, l, 4)
	expectTold(t, "while they wait already", l, "{a\r\nb}[][c]", 0)
	feed(t, l, "a\nb")
	want(t, l, 4)
	expectTold(t, "while some of them wait", l, "", 3)
	expectSteps(t, "while some of them wait", l, step{"\n\n", "{a\nb\n}[]", 0})
	feed(t, l, "a\r")
	want(t, l, 2)
	expectTold(t, "a turn", l, "{a\r}", 0)
	expectSteps(t, "a turn", l, step{"\n", "[]", 0})
}

// TestLiteralsOfEachLength has a literal come a byte too few, and then that byte.
func TestLiteralsOfEachLength(t *testing.T) {
	for n := 1; n <= api.MaxBody; n++ {
		for _, byteOf := range []string{"a", "\n"} {
			l := line.New()
			want(t, l, n)
			text := strings.Repeat(byteOf, n)
			expectSteps(t, "a literal", l, step{text[1:], "", n - 1}, step{byteOf, "{" + text + "}", 0}, step{"b\n", "[b]", 0})
		}
	}
}

// While a literal is wanted nothing is dropped, and no line is told, however much waits.
func TestWantedIsAheadOfAll(t *testing.T) {
	l := line.New()
	want(t, l, api.MaxBody)
	expectSteps(t, "long ones", l, step{many(api.MaxLine + 1), "", 301}, step{"a", "", 302}, step{many(400), "", 702}, step{many(497), "", 1199})
	expectSteps(t, "long ones", l, step{"b\n", "{" + many(1199) + "b}[]", 0})
	want(t, l, api.MaxBody)
	expectSteps(t, "lines", l, step{strings.Repeat("\n", 1199), "", 1199}, step{"\r\n\n", "{" + strings.Repeat("\n", 1199) + "\r}[][]", 0})
	want(t, l, 3)
	expectSteps(t, "what is behind it is dropped", l, step{"bcd" + many(302), "{bcd}", 0}, step{"\n", "long", 0})
	feed(t, l, "b\n"+many(302))
	want(t, l, 2)
	if e, ok := l.Next(); !ok || textOf(e) != "{b\n}" || l.Len() != 302 {
		t.Errorf("told %v, %q, and %d wait", ok, textOf(e), l.Len())
	}
	expectTold(t, "dropped by the next call", l, "", 0)
}

// TestWantTwice: the next bytes are those of the last Want.
func TestWantTwice(t *testing.T) {
	l := line.New()
	want(t, l, 5)
	want(t, l, 2)
	expectSteps(t, "fewer", l, step{"abc\n", "{ab}[c]", 0})
	want(t, l, 2)
	want(t, l, 5)
	expectSteps(t, "more", l, step{"abc\n", "", 4}, step{"de\n", "{abc\nd}[e]", 0})
	want(t, l, 3)
	want(t, l, 3)
	expectSteps(t, "as many", l, step{"abcdef\n", "{abc}[def]", 0})
	want(t, l, 3)
	want(t, l, 0)
	expectTold(t, "none behind three", l, "{}", 0)
	want(t, l, 0)
	want(t, l, 0)
	want(t, l, 1)
	expectSteps(t, "one behind none", l, step{"a\n", "{a}[]", 0})
	want(t, l, 3)
	feed(t, l, "ab")
	expectTold(t, "asked between", l, "", 2)
	want(t, l, 1)
	expectTold(t, "asked between", l, "{a}", 1)
	want(t, l, 2)
	expectSteps(t, "one behind the other", l, step{"\nc\n", "{b\n}[c]", 0})
}

// A line that is being dropped goes on behind a literal, up to the next end that is not of a literal.
func TestWantWhileDropping(t *testing.T) {
	l := line.New()
	feed(t, l, many(1000))
	expectTold(t, "dropped", l, "", 0)
	want(t, l, 3)
	expectSteps(t, "a literal", l, step{"a\n", "", 2}, step{"b", "{a\nb}", 0}, step{"c", "", 1}, step{"\nd\n", "long[d]", 0})
	feed(t, l, many(1000))
	expectTold(t, "dropped", l, "", 0)
	want(t, l, 0)
	expectSteps(t, "of no byte", l, step{"", "{}", 0}, step{"\r\nd\n", "long[d]", 0})
	feed(t, l, many(1000))
	expectTold(t, "dropped", l, "", 0)
	feed(t, l, "ab\nc\n")
	want(t, l, 4)
	expectTold(t, "while some wait", l, "{ab\nc}long", 0)
	expectSteps(t, "behind it", l, step{"d\n", "[d]", 0})
	feed(t, l, many(1000))
	want(t, l, 3)
	expectTold(t, "ahead of what would be dropped", l, "{aaa}", 0)
	expectSteps(t, "ahead of what would be dropped", l, step{"\nd\n", "long[d]", 0})
	feed(t, l, many(302))
	want(t, l, 2)
	expectTold(t, "so that too few are left", l, "{aa}", 300)
	expectSteps(t, "so that too few are left", l, step{"\n", "[" + many(300) + "]", 0})
}

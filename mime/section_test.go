package mime_test

import (
	"math"
	"strconv"
	"strings"
	"testing"

	"letterbox/api"
	"letterbox/mime"
)

// multi is a message of such parts.
func multi(boundary string, parts ...string) string {
	s := "content-type: multipart/x; boundary=" + boundary + "\n\n"
	for _, p := range parts {
		s += "--" + boundary + "\n" + p + "\n"
	}
	return s + "--" + boundary + "--"
}

// nested is a message so deep within others, each its only part; their boundaries are told apart by numbers.
func nested(n int, inner string) string {
	return nestedFrom(0, n, inner)
}

// nestedFrom is what nested has at the depth from.
func nestedFrom(from, n int, inner string) string {
	var ahead, behind strings.Builder
	for i := from; i < n; i++ {
		ahead.WriteString("content-type: multipart/x; boundary=b" + strconv.Itoa(i) + "\n\n--b" + strconv.Itoa(i) + "\n")
	}
	for i := n - 1; i >= from; i-- {
		behind.WriteString("\n--b" + strconv.Itoa(i) + "--")
	}
	return ahead.String() + inner + behind.String()
}

// none stands for what is not there.
const none = "\x00none"

// sectionOf is what Section tells.
func sectionOf(t *testing.T, s string, path []int) string {
	t.Helper()
	b, ok := mime.Section([]byte(s), path)
	if !ok {
		if len(b) > 0 {
			t.Errorf("Section %v of %.300q is none, and %q", path, s, b)
		}
		return none
	}
	return string(b)
}

// P10.3

const (
	plainText = "k: v\n\nbody"
	headAlone = "a: b"
)

var inner = multi("c", "a: b\n\ndeep", "\nlast", headAlone)

var whole = multi("b", plainText, inner, "", "\n")

func TestSections(t *testing.T) {
	for _, c := range []struct {
		in   string
		path []int
		want string
	}{
		// no number
		{"", nil, ""},
		{"x", nil, "x"},
		{plainText, nil, plainText},
		{plainText, []int{}, plainText},
		{whole, nil, whole},
		// of a message without parts
		{"", []int{1}, ""},
		{"", []int{2}, none},
		{"", []int{0}, none},
		{"", []int{-1}, none},
		{"", []int{1, 1}, none},
		{"x", []int{1}, ""},
		{"\n", []int{1}, ""},
		{"\nx", []int{1}, "x"},
		{"\r\nx\r\n", []int{1}, "x\r\n"},
		{plainText, []int{1}, "body"},
		{plainText, []int{0}, none},
		{plainText, []int{-1}, none},
		{plainText, []int{2}, none},
		{plainText, []int{math.MaxInt}, none},
		{plainText, []int{math.MinInt}, none},
		{plainText, []int{1, 1}, none},
		{plainText, []int{1, 0}, none},
		{plainText, []int{1, 2}, none},
		{plainText, []int{1, 1, 1, 1}, none},
		{plainText, []int{1, 1, 1, 1, 1}, none},
		{top, []int{1}, ""},
		{top, []int{2}, none},
		{top, []int{1, 1}, none},
		{top + "x\n--b--\n--b\ny", []int{1}, "x\n--b--\n--b\ny"},
		{"content-type: multipart/x\n\n--b\nx", []int{1}, "--b\nx"},
		{"content-type: text/x; boundary=b\n\n--b\nx", []int{1}, "--b\nx"},
		{"content-type: text/x; boundary=b\n\n--b\nx", []int{1, 1}, none},
		// of one with parts
		{whole, []int{0}, none},
		{whole, []int{-1}, none},
		{whole, []int{5}, none},
		{whole, []int{6}, none},
		{whole, []int{math.MaxInt}, none},
		{whole, []int{math.MinInt}, none},
		{whole, []int{1 << 32}, none},
		{whole, []int{1<<32 + 1}, none},
		{whole, []int{1}, plainText},
		{whole, []int{2}, inner},
		{whole, []int{3}, ""},
		{whole, []int{4}, "\n"},
		{top + "--b\nx", []int{1}, "x"},
		{top + "--b\nx", []int{2}, none},
		// a further number behind that
		{whole, []int{1, 1}, "body"},
		{whole, []int{1, 0}, none},
		{whole, []int{1, -1}, none},
		{whole, []int{1, 2}, none},
		{whole, []int{1, 1, 1}, none},
		{whole, []int{1, 1, 1, 1}, none},
		{whole, []int{3, 1}, ""},
		{whole, []int{3, 2}, none},
		{whole, []int{3, 1, 1}, none},
		{whole, []int{4, 1}, ""},
		{whole, []int{0, 1}, none},
		{whole, []int{5, 1}, none},
		// of a part that has parts
		{whole, []int{2, 0}, none},
		{whole, []int{2, -1}, none},
		{whole, []int{2, 1}, "a: b\n\ndeep"},
		{whole, []int{2, 2}, "\nlast"},
		{whole, []int{2, 3}, headAlone},
		{whole, []int{2, 4}, none},
		{whole, []int{2, 1, 1}, "deep"},
		{whole, []int{2, 2, 1}, "last"},
		{whole, []int{2, 3, 1}, ""},
		{whole, []int{2, 1, 2}, none},
		{whole, []int{2, 1, 0}, none},
		{whole, []int{2, 4, 1}, none},
		{whole, []int{2, 1, 1, 1}, none},
		{whole, []int{2, 1, 1, 1, 1}, none},
		{inner, []int{1}, "a: b\n\ndeep"},
		{inner, []int{1, 1}, "deep"},
		// one boundary for both: the outer one's marks come first
		{multi("b", multi("b", "x", "y")), []int{1}, "content-type: multipart/x; boundary=b\n"},
		{multi("b", multi("b", "x", "y")), []int{1, 1}, ""},
		{multi("b", multi("b", "x", "y")), []int{2}, "x"},
		{multi("b", multi("b", "x", "y")), []int{3}, "y"},
		{multi("b", multi("b", "x", "y")), []int{4}, none},
	} {
		if got := sectionOf(t, c.in, c.path); got != c.want {
			t.Errorf("Section %v of %.300q is %.300q, want %.300q", c.path, c.in, got, c.want)
		}
	}
}

// Of a body that is one message deeper than a path may tell, and of less deep ones.
func TestSectionsDeep(t *testing.T) {
	for n := range api.MaxDeep + 4 {
		for _, text := range []string{plainText, multi("x", "k: v\n\none", "\ntwo")} {
			s := nested(n, text)
			for long := range api.MaxDeep + 4 {
				path := make([]int, long)
				for i := range path {
					path[i] = 1
				}
				want := none
				switch {
				case long > api.MaxDeep:
				case long <= n:
					want = nestedFrom(long, n, text)
				case text == plainText && long == n+1:
					want = "body"
				case text != plainText && long == n+1:
					want = "k: v\n\none"
				case text != plainText && long == n+2:
					want = "one"
				}
				if got := sectionOf(t, s, path); got != want {
					t.Errorf("Section %v of %.300q is %.300q, want %.300q", path, s, got, want)
				}
			}
		}
	}
}

// Paths that are far too long, of ones alone and of others.
func TestLongPaths(t *testing.T) {
	for _, s := range []string{"", plainText, whole, nested(9, plainText)} {
		for _, long := range []int{api.MaxDeep + 1, 100, 1 << 20} {
			for _, n := range []int{-1, 0, 1, 2, math.MaxInt} {
				path := make([]int, long)
				for i := range path {
					path[i] = n
				}
				expect(t, "Section of a path too long", s, sectionOf(t, s, path), none)
			}
		}
	}
}

func TestCounts(t *testing.T) {
	for _, c := range []struct {
		in   string
		want int
	}{
		{"", 1},
		{"\n", 1},
		{"x", 1},
		{plainText, 1},
		{headAlone, 1},
		{"content-type: text/html\n\nx", 1},
		{"content-type: text/html; boundary=b\n\n--b\nx\n--b\ny", 1},
		{"content-type: multipart; boundary=b\n\n--b\nx\n--b\ny", 1},
		// a multipart without a part
		{top, 1},
		{top + "x\ny", 1},
		{top + "--b--\n--b\nx\n--b\ny", 1},
		{multi("b"), 1},
		{"content-type: multipart/x\n\n--b\nx\n--b\ny", 1},
		// of parts
		{top + "--b", 1},
		{top + "--b\n--b", 2},
		{multi("b", "x"), 1},
		{multi("b", "x", "y"), 2},
		{multi("b", "", "", ""), 3},
		{multi("b", plainText, headAlone, "\n"), 3},
		{multi("b", make([]string, api.MaxParts-1)...), api.MaxParts - 1},
		{multi("b", make([]string, api.MaxParts)...), api.MaxParts},
		{multi("b", make([]string, api.MaxParts+1)...), api.MaxParts},
		// of parts within parts
		{inner, 3},
		{whole, 6},
		{multi("b", whole), 7}, // the inner one's marks are the outer one's, its head is a part
		{multi("d", whole), 6},
		{multi("d", whole, "x", inner), 10},
		{multi("d", multi("e"), multi("f", "x"), multi("g", "x", "y")), 4},
		{multi("d", multi("e", multi("f", "x", "y"), "z"), "z"), 4},
		{multi("b", multi("b", "x", "y")), 3},
		{multi("d", multi("e", make([]string, api.MaxParts)...), multi("f", make([]string, api.MaxParts+9)...)), 2 * api.MaxParts},
	} {
		expectNumber(t, "Count", c.in, mime.Count([]byte(c.in)), c.want)
	}
}

// Parts count down to MaxDeep: what has parts there is one.
func TestCountsDeep(t *testing.T) {
	three := multi("x", "1", "2", "3")
	for n := range api.MaxDeep + 5 {
		want := 3
		if n >= api.MaxDeep {
			want = 1
		}
		s := nested(n, three)
		expectNumber(t, "Count", s, mime.Count([]byte(s)), want)
		s = nested(n, multi("x", three, "2", multi("y", "3", "4")))
		want = 4 // one boundary for both: the inner one's end is the outer one's
		if n >= api.MaxDeep {
			want = 1
		}
		expectNumber(t, "Count", s, mime.Count([]byte(s)), want)
		s = nested(n, multi("z", three, "2", multi("y", "3", "4")))
		switch {
		case n >= api.MaxDeep:
			want = 1
		case n == api.MaxDeep-1:
			want = 3
		default:
			want = 6
		}
		expectNumber(t, "Count", s, mime.Count([]byte(s)), want)
	}
}

// full is a message of as many parts as may be, so deep.
func full(depth int) string {
	if depth == 0 {
		return "x"
	}
	l := make([]string, api.MaxParts)
	for i := range l {
		l[i] = full(depth - 1)
	}
	return multi("b"+strconv.Itoa(depth), l...)
}

func TestCountsOfManyParts(t *testing.T) {
	want := 1
	for depth := range api.MaxDeep {
		expectNumber(t, "Count", "a full one", mime.Count([]byte(full(depth))), want)
		want *= api.MaxParts
	}
	expectNumber(t, "Count", "a full one", mime.Count([]byte(full(api.MaxDeep))), want)
	expectNumber(t, "Count", "one deeper than full", mime.Count([]byte(multi("z", full(api.MaxDeep)))), want/api.MaxParts)
}

// Great ones: what is told takes a time that grows as they do.
func TestGreatMessages(t *testing.T) {
	deep := nested(1<<16, plainText)
	expectNumber(t, "Count", deep, mime.Count([]byte(deep)), 1)
	if got := sectionOf(t, deep, []int{1, 1, 1, 1}); !strings.HasPrefix(got, "content-type: multipart/x; boundary=b4\n") {
		t.Errorf("Section of a deep one is %.300q", got)
	}
	const n = 1 << 21
	for _, in := range []struct {
		s           string
		parts, some int
	}{
		{top + strings.Repeat("--b\n", n), api.MaxParts, 4*(n-api.MaxParts) - 1},
		{top + "--b\n" + strings.Repeat("--c\n", n), 1, 4*n - 1},
		{top + "--b\n" + strings.Repeat("\n", n), 1, n - 1},
		{top + "--b\n" + strings.Repeat("\r", n), 1, n},
		{top + "--b\n" + strings.Repeat("x", n), 1, n},
		{top + strings.Repeat("-", n), 0, 0},
		{"content-type: multipart/x" + strings.Repeat(";", n) + "boundary=b\n\n--b\nx", 1, 1},
		{"content-type: multipart/x;" + strings.Repeat("=", n) + ";boundary=b\n\n--b\nx", 1, 1},
		{strings.Repeat("a:b\n", n) + top + "--b\nx", 1, 1},
		{"content-type: multipart/x" + strings.Repeat("\n ;", n) + "boundary=b\n\n--b\nx", 1, 1},
		{"content-type: multipart/x;boundary=" + strings.Repeat("b", n) + "\n\n--b\nx\n--" + strings.Repeat("b", n) + "\nyy", 1, 2},
	} {
		b := []byte(in.s)
		l := mime.Parts(b)
		expectNumber(t, "Parts", in.s, len(l), in.parts)
		expectNumber(t, "Count", in.s, mime.Count(b), max(in.parts, 1))
		if len(l) > 0 {
			expectNumber(t, "the last part", in.s, l[len(l)-1].To-l[len(l)-1].From, in.some)
		}
	}
}

package line_test

import (
	"bytes"
	"math"
	"math/rand"
	"slices"
	"strconv"
	"strings"
	"testing"

	"letterbox/api"
	"letterbox/line"
)

// P8.3

// asked is how long a literal a line asks for: none, if it does not end with a number in braces.
func asked(text string) (int, bool) {
	at := strings.LastIndexByte(text, '{')
	if at < 0 || !strings.HasSuffix(text, "}") {
		return 0, false
	}
	n, err := strconv.Atoi(text[at+1 : len(text)-1])
	return n, err == nil && n >= 0 && n <= api.MaxBody
}

// eventsOf is what is to be told of a whole text in which lines ask for literals, and what is left of it.
func eventsOf(s string) (events []string, rest string) {
	for {
		at := strings.Index(s, "\n")
		if at < 0 {
			return events, s
		}
		text := strings.TrimSuffix(s[:at], "\r")
		s = s[at+1:]
		if len(text) > api.MaxLine {
			events = append(events, "long")
			continue
		}
		events = append(events, "["+text+"]")
		if n, ok := asked(text); ok {
			if n > len(s) {
				return events, s
			}
			events = append(events, "{"+s[:n]+"}")
			s = s[n:]
		}
	}
}

// piecewise is what is told of pieces: Next is asked behind each till it is false, and a line's literal is wanted as it is told.
func piecewise(t *testing.T, l *line.Lines, pieces []string) []string {
	t.Helper()
	var events []string
	for _, p := range pieces {
		expect(t, "Feed", l.Feed([]byte(p)), api.OK)
		for {
			e, ok := l.Next()
			if !ok {
				break
			}
			events = append(events, textOf(e))
			if n, ok := asked(string(e.Data)); ok && e.Kind == api.EventLine {
				want(t, l, n)
			}
		}
	}
	return events
}

// expectPieces wants of pieces what is told of the whole text.
func expectPieces(t *testing.T, pieces []string) {
	t.Helper()
	s := strings.Join(pieces, "")
	events, rest := eventsOf(s)
	l := line.New()
	if got := piecewise(t, l, pieces); !slices.Equal(got, events) {
		t.Errorf("pieces %.300q: told %.300q, want %.300q", pieces, got, events)
	}
	if len(rest) <= api.MaxLine+1 {
		expectLen(t, "what is left", l, len(rest))
	}
}

// cut is a text in pieces of up to so many bytes.
func cut(r *rand.Rand, s string, most int) []string {
	var pieces []string
	for len(s) > 0 {
		n := min(len(s), r.Intn(most+1))
		pieces = append(pieces, s[:n])
		s = s[n:]
	}
	return pieces
}

// drawnText is lines, long ones and literals among them.
func drawnText(r *rand.Rand) string {
	var b strings.Builder
	for range 1 + r.Intn(6) {
		switch r.Intn(8) {
		case 0, 1:
			b.WriteString(strings.Repeat("ab", r.Intn(4)))
		case 2:
			b.WriteString(many(api.MaxLine - 3 + r.Intn(8)))
		case 3:
			b.WriteString(many(r.Intn(1500)))
		case 4:
			b.WriteString("\r\r\nc\r"[:r.Intn(6)])
		case 5:
			n := r.Intn(12)
			b.WriteString("x{" + strconv.Itoa(n) + "}\r\n")
			for range n {
				b.WriteByte("\n\ra{}0"[r.Intn(6)])
			}
		case 6:
			n := api.MaxLine + r.Intn(api.MaxBody-api.MaxLine+3)
			b.WriteString("{" + strconv.Itoa(n) + "}\n" + many(r.Intn(api.MaxBody)))
		case 7:
			b.WriteString(many(api.MaxLine-5+r.Intn(4)) + "{2}")
		}
		b.WriteString([]string{"\n", "\r\n", "\r\r\n", "\r", ""}[r.Intn(5)])
	}
	return b.String()
}

func TestEachCut(t *testing.T) {
	for _, s := range []string{
		"a\r\nb\n\r\n\rc\r\r\n\n",
		"a{3}\r\n\n\r\nb{0}\nc{1}\n\n\n",
		"{0}\n{0}\r\n{1}\n{{1}\r\n\r\n",
		"{3}\n{2}\n{2}\r\n\r\n\n{1202}\nd\n",
		"\r\n\r\n\r\r\r\n\ra",
	} {
		for set := range 1 << 12 { // the first places, in all ways together
			var pieces []string
			from := 0
			for at := range min(12, len(s)) {
				if set>>at&1 == 1 {
					pieces = append(pieces, s[from:at])
					from = at
				}
			}
			expectPieces(t, append(pieces, s[from:]))
		}
		for one := range len(s) + 1 {
			for two := one; two <= len(s); two++ {
				expectPieces(t, []string{s[:one], s[one:two], s[two:]})
			}
		}
	}
}

func TestEachCutOfLongLines(t *testing.T) {
	for _, n := range []int{api.MaxLine - 1, api.MaxLine, api.MaxLine + 1, api.MaxLine + 2} {
		for _, end := range []string{"\n", "\r\n", "\r\r\n"} {
			s := many(n) + end + "b{4}\r\n\n\r\n\n" + many(n) + end
			for at := range len(s) + 1 {
				expectPieces(t, []string{s[:at], s[at:]})
				expectPieces(t, []string{s[:at/2], s[at/2 : at], s[at:]})
			}
		}
	}
}

func TestPieces(t *testing.T) {
	r := rand.New(rand.NewSource(1))
	for range 3000 {
		s := drawnText(r)
		for _, most := range []int{1, 3, 50, 400, 2500} {
			expectPieces(t, cut(r, s, most))
		}
	}
}

// A piece may be as great as there is room for.
func TestGreatPieces(t *testing.T) {
	r := rand.New(rand.NewSource(2))
	for range 300 {
		s := strings.Repeat(drawnText(r)+"\n", 20)
		l := line.New()
		var got []string
		for rest := s; rest != ""; {
			n := min(len(rest), api.MaxBuffer-l.Len())
			if n < len(rest) {
				expect(t, "one too many", l.Feed([]byte(rest[:n+1])), api.ErrLong)
			}
			got = append(got, piecewise(t, l, []string{rest[:n]})...)
			rest = rest[n:]
		}
		if events, _ := eventsOf(s); !slices.Equal(got, events) {
			t.Errorf("told %.300q, want %.300q", got, events)
		}
	}
}

// plain is what the chapter says that Lines keeps, in its words.
type plain struct {
	waits   string
	wanted  int // none: less than 0
	dropped bool
}

// next is the next event as a text: none is "".
func (p *plain) next() string {
	if p.wanted >= 0 {
		if len(p.waits) < p.wanted {
			return ""
		}
		told := "{" + p.waits[:p.wanted] + "}"
		p.waits, p.wanted = p.waits[p.wanted:], -1
		return told
	}
	ahead, behind, has := strings.Cut(p.waits, "\n")
	if !has {
		if len(p.waits) > api.MaxLine+1 {
			p.waits, p.dropped = "", true
		}
		return ""
	}
	ahead = strings.TrimSuffix(ahead, "\r")
	long := p.dropped || len(ahead) > api.MaxLine
	p.waits, p.dropped = behind, false
	if long {
		return "long"
	}
	return "[" + ahead + "]"
}

// TestRandomCalls makes calls in any order, so that Next and Want come wherever they may.
func TestRandomCalls(t *testing.T) {
	r := rand.New(rand.NewSource(3))
	for range 1500 {
		l, p := line.New(), plain{wanted: -1}
		for range 60 {
			switch r.Intn(6) {
			case 0, 1, 2:
				s := drawnText(r)
				good := len(p.waits)+len(s) <= api.MaxBuffer
				if e := l.Feed([]byte(s)); good != (e == api.OK) || !good && e != api.ErrLong {
					t.Fatalf("Feed of %d, and %d wait: error %d", len(s), len(p.waits), e)
				}
				if good {
					p.waits += s
				}
			case 3, 4:
				want := p.next()
				e, ok := l.Next()
				if ok != (want != "") || ok && textOf(e) != want || !ok && (e.Kind != 0 || len(e.Data) != 0) {
					t.Fatalf("told %v, %.300q; want %.300q", ok, textOf(e), want)
				}
			case 5:
				n := []int{-1, 0, 1, 5, 400, api.MaxBody, api.MaxBody + 1}[r.Intn(7)]
				good := n >= 0 && n <= api.MaxBody
				if e := l.Want(n); good != (e == api.OK) || !good && e != api.ErrArg {
					t.Fatalf("Want of %d: error %d", n, e)
				}
				if good {
					p.wanted = n
				}
			}
			expectLen(t, "random calls", l, len(p.waits))
		}
	}
}

func FuzzPieces(f *testing.F) {
	f.Add("a\r\nb{3}\n\n\r\nc\n", 1)
	f.Add(many(302)+"\r\nb\n", 301)
	f.Fuzz(func(t *testing.T, s string, size int) {
		if len(s) > 1<<16 || size < 1 || size > api.MaxBuffer-api.MaxBody {
			return
		}
		var pieces []string
		for p := range slices.Chunk([]byte(s), size) {
			pieces = append(pieces, string(p))
		}
		expectPieces(t, pieces)
	})
}

// soil overwrites a list and the spare room behind its end.
func soil(p []byte) {
	p = p[:cap(p)]
	for i := range p {
		p[i] ^= 0xff
	}
}

func TestFeedLeavesWhatIsHandedIn(t *testing.T) {
	const text = "ab\r\nc{2}\n\n\rd\nrest and some more that stands behind it"
	for from := range len(text) {
		for to := from; to <= len(text); to++ {
			all := []byte(text)
			l := line.New()
			expect(t, "Feed", l.Feed(all[from:to]), api.OK)
			feed(t, l, "more\n")
			if string(all) != text {
				t.Errorf("Feed of %d to %d: what was handed in is %q", from, to, all)
			}
			soil(all)
			events, _ := eventsOf(text[from:to] + "more\n")
			if got := piecewise(t, l, []string{""}); !slices.Equal(got, events) {
				t.Errorf("Feed of %d to %d, overwritten since: told %q, want %q", from, to, got, events)
			}
			if !bytes.Equal(all, overwritten(text)) {
				t.Errorf("Next behind Feed of %d to %d: what was handed in is %q", from, to, all)
			}
		}
	}
}

// overwritten is what soil makes of a text.
func overwritten(s string) []byte {
	p := []byte(s)
	for i := range p {
		p[i] ^= 0xff
	}
	return p
}

// TestWhatIsToldStays overwrites half of what is told, and holds the others against what they were.
func TestWhatIsToldStays(t *testing.T) {
	r := rand.New(rand.NewSource(4))
	for range 300 {
		l := line.New()
		s := strings.Repeat(drawnText(r), 3)
		var got []string
		var held []api.Event
		for _, p := range cut(r, s, 500) {
			b := []byte(p)
			expect(t, "Feed", l.Feed(b), api.OK)
			for {
				e, ok := l.Next()
				if !ok {
					break
				}
				got = append(got, textOf(e))
				held = append(held, e)
				if n, ok := asked(string(e.Data)); ok && e.Kind == api.EventLine {
					want(t, l, n)
				}
				if len(held)%2 == 1 {
					soil(e.Data)
				}
			}
			soil(b)
		}
		if events, _ := eventsOf(s); !slices.Equal(got, events) {
			t.Errorf("told %.300q, want %.300q", got, events)
		}
		for i, e := range held {
			if i%2 == 1 && textOf(e) != got[i] {
				t.Errorf("what was told %.300q is %.300q now", got[i], textOf(e))
			}
		}
	}
}

// What waits is apart from the spare room behind what was told.
func TestSpareRoomOfWhatIsTold(t *testing.T) {
	l := line.New()
	feed(t, l, "a\n\nbcd\nefgh")
	first, _ := l.Next()
	second, _ := l.Next()
	_ = append(first.Data, "xyzxyzxyzxyz"...)
	_ = append(second.Data, "xyzxyzxyzxyz"...)
	third, _ := l.Next()
	soil(first.Data)
	soil(second.Data)
	want(t, l, 2)
	fourth, _ := l.Next()
	_ = append(fourth.Data, "xyz"...)
	if textOf(third) != "[bcd]" || textOf(fourth) != "{ef}" {
		t.Errorf("told %q and %q", textOf(third), textOf(fourth))
	}
	expectSteps(t, "the rest", l, step{"\n", "[gh]", 0})
	if textOf(third) != "[bcd]" || textOf(fourth) != "{ef}" {
		t.Errorf("told %q and %q, later", textOf(third), textOf(fourth))
	}
}

func TestNil(t *testing.T) {
	var l *line.Lines
	for _, b := range [][]byte{nil, {}, []byte("a\n"), make([]byte, api.MaxBuffer+1)} {
		expect(t, "Feed", l.Feed(b), api.ErrArg)
	}
	for _, n := range []int{math.MinInt, -1, 0, 1, api.MaxBody, api.MaxBody + 1, math.MaxInt} {
		expect(t, "Want", l.Want(n), api.ErrArg)
		expectTold(t, "nil", l, "", 0)
	}
}

// One that New did not make is one of none, too.
func TestZeroValue(t *testing.T) {
	var l line.Lines
	expectTold(t, "a zero value", &l, "", 0)
	expectSteps(t, "a zero value", &l, step{"a\r\nb", "[a]", 1})
	want(t, &l, 1)
	expectTold(t, "a zero value", &l, "{b}", 0)
}

// TestTwo has two of them, which have nothing in common.
func TestTwo(t *testing.T) {
	one, two := line.New(), line.New()
	expectSteps(t, "one", one, step{many(302), "", 0})
	expectSteps(t, "two", two, step{"a\nb", "[a]", 1})
	want(t, two, 3)
	expectSteps(t, "one", one, step{"\nc\n", "long[c]", 0})
	expectSteps(t, "two", two, step{"\n\nd\n", "{b\n\n}[d]", 0})
}

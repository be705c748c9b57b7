package lex_test

import (
	"fmt"
	"math/rand"
	"regexp"
	"slices"
	"strconv"
	"strings"
	"testing"

	"letterbox/api"
	"letterbox/lex"
)

var (
	// aToken is one at the beginning of a line, as the chapter has it; an atom's part, if more of it is none of the kind.
	aToken = regexp.MustCompile(`\A(?:\(|\)|"(?:[ -!#-\[\]-~]|\\["\\])*"|(?:[!#-'*-Z\\-~]|\[[ -\\^-~]*\])+)`)
	// aWant is what a line wants by.
	aWant = regexp.MustCompile(`\{([0-9]{1,7})\}\z`)
	// anEscape is a byte that stands for itself.
	anEscape = regexp.MustCompile(`\\(["\\])`)
)

// plainWants is what Wants is to tell, and the line ahead of it.
func plainWants(line string) (ahead string, n int, wants bool) {
	found := aWant.FindStringSubmatch(line)
	if found == nil {
		return line, 0, false
	}
	n, _ = strconv.Atoi(found[1])
	return strings.TrimSuffix(line, found[0]), n, true
}

// plainTok is the token that a text is.
func plainTok(text string) api.Tok {
	switch text[:1] {
	case "(":
		return open
	case ")":
		return shut
	case `"`:
		return quoted(anEscape.ReplaceAllString(text[1:len(text)-1], "$1"))
	}
	return atom(text)
}

// plainLine is the tokens of all behind l, and of a line.
func plainLine(l []api.Tok, line string) ([]api.Tok, api.Errno) {
	for {
		line = strings.TrimLeft(line, " ")
		if line == "" {
			return l, api.OK
		}
		if len(l) == api.MaxToks {
			return nil, api.ErrLong
		}
		text := aToken.FindString(line)
		if text == "" {
			return nil, api.ErrForm
		}
		line = strings.TrimPrefix(line, text)
		l = append(l, plainTok(text))
		if l[len(l)-1].Kind == api.TokAtom && line != "" && !strings.Contains(` ()"`, line[:1]) {
			return nil, api.ErrForm
		}
	}
}

// plainLex is what Lex is to tell.
func plainLex(lines, lits [][]byte) ([]api.Tok, api.Errno) {
	if len(lines) != len(lits)+1 {
		return nil, api.ErrForm
	}
	texts := make([]string, len(lines))
	for i, line := range lines {
		texts[i] = string(line)
		if i < len(lits) {
			ahead, n, wants := plainWants(texts[i])
			if !wants || n != len(lits[i]) {
				return nil, api.ErrForm
			}
			texts[i] = ahead
		}
	}
	var l []api.Tok
	for i, text := range texts {
		var e api.Errno
		if l, e = plainLine(l, text); e != api.OK {
			return nil, e
		}
		if i == len(lits) {
			break
		}
		if len(l) == api.MaxToks {
			return nil, api.ErrLong
		}
		l = append(l, quoted(string(lits[i])))
	}
	return l, api.OK
}

// expectPlain wants of a command what plainLex tells, and of each of its lines what plainWants does; and tells what it was.
func expectPlain(t *testing.T, lines, lits [][]byte) api.Errno {
	t.Helper()
	want, e := plainLex(lines, lits)
	expectLex(t, lines, lits, want, e)
	for _, line := range lines {
		n, wants := lex.Wants(line)
		if _, m, has := plainWants(string(line)); n != m || wants != has {
			t.Errorf("Wants of %.300q is %d, %t; want %d, %t", line, n, wants, m, has)
		}
	}
	return e
}

// Each short line of these kinds, alone and around a literal, and behind all tokens but one that there may be.
func TestShortLines(t *testing.T) {
	all := map[api.Errno]int{}
	few := strings.Repeat("a ", api.MaxToks-1)
	for letters, longest := range map[string]int{` a("[]\)`: 6, "{}01 \"x-": 5, ` a()"\[]{}01` + "\x1f\x7f\xff'": 4} {
		var longer func(line string)
		longer = func(line string) {
			all[expectPlain(t, rows(line), nil)]++
			if len(line) <= 3 {
				all[expectPlain(t, rows(few+line), nil)]++
				all[expectPlain(t, rows(line+"{1}", line), rows("x"))]++
				all[expectPlain(t, rows(line, line), rows("x"))]++
			}
			if len(line) == longest {
				return
			}
			for at := range len(letters) {
				longer(line + letters[at:at+1])
			}
		}
		longer("")
	}
	if all[api.OK] < 100000 || all[api.ErrForm] < 100000 || all[api.ErrLong] < 1000 {
		t.Errorf("the test's own: %v", all)
	}
}

// Each byte in place of another, or more, and one less; and pieces alone.
func TestEachByteAtEachPlace(t *testing.T) {
	for _, line := range []string{
		"a fetch 1:* (flags body.peek[1 (a) \"b]<0>) x", `a login "an\"n" "p\\w" {3}`, `a["]"b"]"c`, "a{1}(b)[ ]{12}", `"\\""\""`, strings.Repeat("(", 62) + "a b",
	} {
		for at := range len(line) + 1 {
			for x := range 256 {
				c := string([]byte{byte(x)})
				others := []string{line[:at] + c + line[at:], line[:at] + c + c + line[at:]}
				if at < len(line) {
					others = append(others, line[:at]+c+line[at+1:])
				}
				for _, other := range others {
					expectPlain(t, rows(other), nil)
					expectPlain(t, rows(other, "b"), rows("xyz"))
					expectPlain(t, rows("{4}", other), rows("x\x00\"y"))
				}
			}
			if at < len(line) {
				expectPlain(t, rows(line[:at]+line[at+1:]), nil)
			}
			for behind := at; behind <= len(line); behind++ {
				expectPlain(t, rows(line[at:behind]), nil)
				expectPlain(t, rows(line[at:behind]+"{0}", line[at:behind]), rows(""))
			}
		}
	}
}

// drawnLine is tokens and blanks; of a few lines a byte is another one.
func drawnLine(r *rand.Rand, most int) string {
	var b strings.Builder
	for range r.Intn(most + 1) {
		if r.Intn(4) == 0 {
			b.WriteString(lex.Quote(drawnText(r, 4)))
		} else {
			b.WriteString(pieces[r.Intn(len(pieces))].text)
		}
		b.WriteString([]string{"", " ", " ", "  "}[r.Intn(4)])
	}
	line := []byte(b.String())
	if len(line) > 0 && r.Intn(30) == 0 {
		line[r.Intn(len(line))] = byte(r.Intn(256))
	}
	return string(line)
}

func TestRandomCommands(t *testing.T) {
	r := rand.New(rand.NewSource(3))
	all := map[api.Errno]int{}
	for range 50000 {
		literals := max(0, r.Intn(8)-2)
		most := 1 + r.Intn(3)*60/(literals+1)
		command := make([]string, 2*literals+1)
		for i := range command {
			command[i] = drawnLine(r, most)
			if i%2 == 1 {
				b := make([]byte, r.Intn(15))
				r.Read(b)
				command[i] = string(b)
			}
		}
		lines, lits := turns(command...)
		if literals > 0 && r.Intn(20) == 0 {
			at := r.Intn(literals)
			lits[at] = append(lits[at], 'x')
		}
		all[expectPlain(t, lines, lits)]++
	}
	if all[api.OK] < 10000 || all[api.ErrForm] < 3000 || all[api.ErrLong] < 3000 {
		t.Errorf("the test's own: %v", all)
	}
}

func FuzzLex(f *testing.F) {
	for _, p := range pieces {
		f.Add(p.text, "x", p.text)
	}
	f.Add("a {1}", "x", "")
	f.Fuzz(func(t *testing.T, first, body, last string) {
		if len(first)+len(body)+len(last) > 1<<12 {
			return
		}
		expectPlain(t, rows(first), nil)
		expectPlain(t, rows(first, last), rows(body))
		lines, lits := turns(first, body, last, body, first)
		expectPlain(t, lines, lits)
	})
}

// What holds everywhere

// soil overwrites a list and the spare room behind its end.
func soil(p []byte) {
	p = p[:cap(p)]
	for i := range p {
		p[i] ^= 0xff
	}
}

// Lines and literals as pieces of one row of bytes, with others around them: none of them changes, nor is kept.
func TestWhatIsHandedInStays(t *testing.T) {
	const row = `..a "b\"c" (d[e f]{5}..li)t"..g {3}..xyz..h "\\"..`
	all := []byte(row)
	piece := func(text string) []byte {
		at := strings.Index(row, text)
		return all[at : at+len(text)]
	}
	commandOf := func() [][]byte {
		return [][]byte{piece(`a "b\"c" (d[e f]{5}`), piece("g {3}"), piece(`h "\\"`), piece("li)t\""), piece("xyz"), piece("..")}
	}
	room := commandOf()
	was := fmt.Sprintf("%q", room)
	lines, lits := room[:3], room[3:5]
	want := toks(atom("a"), quoted(`b"c`), open, atom("d[e f]"), quoted(`li)t"`), atom("g"), quoted("xyz"), atom("h"), quoted(`\`))
	got, e := lex.Lex(lines, lits)
	n, wants := lex.Wants(lines[0])
	if string(all) != row || fmt.Sprintf("%q", room) != was {
		t.Errorf("what was handed in was changed: %q, %q", all, room)
	}
	soil(all)
	clear(room)
	if e != api.OK || !slices.Equal(got, want) || n != 5 || !wants {
		t.Errorf("what was told became %q, error %d, once what was handed in was overwritten", told(got), e)
	}
	expectLex(t, lines, lits, nil, api.ErrForm) // lines of nothing want no literals
	soil(all)
	copy(room, commandOf())
	expectLex(t, lines, lits, want, api.OK)
}

// What is refused is neither changed nor kept, too.
func TestWhatIsRefusedStays(t *testing.T) {
	full := strings.Repeat("a ", api.MaxToks)
	for _, line := range append([]string{full + "b"}, wrong...) {
		lines, lits := turns(line, "x", "b")
		for _, lit := range []string{"x", "xy"} {
			lits[0] = []byte(lit)
			was := fmt.Sprintf("%q %q", lines, lits)
			l, e := lex.Lex(lines, lits)
			if e == api.OK || len(l) != 0 || fmt.Sprintf("%q %q", lines, lits) != was {
				t.Errorf("Lex of %s is %q, error %d, and leaves %q %q", was, told(l), e, lines, lits)
			}
			expectToks(t, "a (b)", atom("a"), open, atom("b"), shut)
		}
	}
}

// What no argument is told, or a nil one.
func TestNothing(t *testing.T) {
	if n, wants := lex.Wants(nil); n != 0 || wants {
		t.Errorf("Wants of nil is %d, %t", n, wants)
	}
	expectLex(t, nil, nil, nil, api.ErrForm)
	expectLex(t, [][]byte{}, [][]byte{}, nil, api.ErrForm)
	expectLex(t, nil, [][]byte{nil}, nil, api.ErrForm)
	expectLex(t, [][]byte{nil}, [][]byte{nil}, nil, api.ErrForm)
	expectLex(t, [][]byte{nil, nil}, [][]byte{nil}, nil, api.ErrForm)
	for _, line := range [][]byte{nil, {}} {
		expectLex(t, [][]byte{line}, nil, nil, api.OK)
		expectLex(t, [][]byte{line}, [][]byte{}, nil, api.OK)
		for _, lit := range [][]byte{nil, {}} {
			expectLex(t, [][]byte{[]byte("{0}"), line}, [][]byte{lit}, toks(quoted("")), api.OK)
			expectLex(t, [][]byte{[]byte("a{0}"), []byte("{0}"), line}, [][]byte{lit, lit}, toks(atom("a"), quoted(""), quoted("")), api.OK)
			expectLex(t, [][]byte{[]byte("{1}"), line}, [][]byte{lit}, nil, api.ErrForm)
		}
	}
	expectQuote(t, "", `""`)
}

// What Lex answers is new each time, its spare room too; and stays, whatever is called later.
func TestAnswersAreNew(t *testing.T) {
	for n := 1; n <= api.MaxToks; n++ {
		line := strings.Repeat("a(", n)[:n]
		want, _ := plainLex(rows(line), nil)
		first, _ := lex.Lex(rows(line), nil)
		second, _ := lex.Lex(rows(line), nil)
		for i := range first[:cap(first)] {
			first[:cap(first)][i] = quoted("other")
		}
		spare := slices.Clone(second[:cap(second)])
		third, _ := lex.Lex(rows(line), nil)
		for range 3 {
			third = append(third, shut)
		}
		expectError(t, line+"\x00", []api.Errno{api.ErrForm, api.ErrLong}[n/api.MaxToks])
		if !slices.Equal(second, want) || !slices.Equal(second[:cap(second)], spare) {
			t.Errorf("an answer became %q", told(second[:cap(second)]))
		}
		expectToks(t, line, want...)
	}
}

func TestAnswersStay(t *testing.T) {
	r := rand.New(rand.NewSource(4))
	var texts, quotes []string
	var answers [][]api.Tok
	for range 500 {
		s := drawnText(r, 20)
		texts, quotes = append(texts, s), append(quotes, lex.Quote(s))
		l, _ := lex.Lex(rows(quotes[len(quotes)-1]), nil)
		answers = append(answers, l)
	}
	for i, s := range texts {
		if quotes[i] != quoteOf(s) || !slices.Equal(answers[i], toks(quoted(s))) {
			t.Errorf("of %q there were told %q and %q", s, quotes[i], told(answers[i]))
		}
	}
}

func TestCallsSideBySide(t *testing.T) {
	done := make(chan bool)
	for k := range 8 {
		go func() {
			defer func() { done <- true }()
			r := rand.New(rand.NewSource(int64(k)))
			for range 500 {
				lines, lits := turns(drawnLine(r, 20), drawnText(r, 9), drawnLine(r, 20))
				expectPlain(t, lines, lits)
				s := drawnText(r, 9)
				expectQuote(t, s, quoteOf(s))
			}
		}()
	}
	for range 8 {
		<-done
	}
}

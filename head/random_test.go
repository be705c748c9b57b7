package head_test

import (
	"math/rand"
	"strconv"
	"strings"
	"testing"

	"letterbox/api"
	"letterbox/head"
)

// plain is bytes as the chapter's words have them: lines, with their ends, and how many of them are the head.
type plain struct {
	lines []string
	heads int
}

func plainOf(s string) plain {
	var p plain
	line := ""
	for i := range len(s) {
		line += s[i : i+1]
		if s[i] == '\n' || i == len(s)-1 {
			p.lines = append(p.lines, line)
			line = ""
		}
	}
	p.heads = len(p.lines)
	for i, line := range p.lines {
		if plainText(line) == "" {
			p.heads = i + 1
			break
		}
	}
	return p
}

func plainText(line string) string {
	if n := len(line); n > 0 && line[n-1] == '\n' {
		line = line[:n-1]
	}
	if n := len(line); n > 0 && line[n-1] == '\r' {
		line = line[:n-1]
	}
	return line
}

// top is the head, and so many lines more.
func (p plain) top(n int) string {
	return strings.Join(p.lines[:min(p.heads+max(n, 0), len(p.lines))], "")
}

func (p plain) fields() []api.Field {
	var l []api.Field
	ahead := false // there is a field that blanks are added to
	for _, line := range p.lines[:p.heads] {
		text := plainText(line)
		if text == "" {
			continue
		}
		if text[0] == ' ' || text[0] == '\t' {
			if ahead {
				l[len(l)-1].Value += " " + inner(text)
			}
			continue
		}
		at := strings.Index(text, ":")
		ahead = at >= 0
		if ahead {
			l = append(l, api.Field{Name: inner(text[:at]), Value: inner(text[at+1:])})
		}
	}
	return l
}

// inner is a text without blanks at both ends.
func inner(s string) string {
	for s != "" && (s[0] == ' ' || s[0] == '\t') {
		s = s[1:]
	}
	for s != "" && (s[len(s)-1] == ' ' || s[len(s)-1] == '\t') {
		s = s[:len(s)-1]
	}
	return s
}

func (p plain) stuffed() string {
	s := ""
	for _, line := range p.lines {
		if text := plainText(line); text != "" && text[0] == '.' {
			s += "." + text + "\r\n"
		} else {
			s += text + "\r\n"
		}
	}
	return s + ".\r\n"
}

func (p plain) texts() string {
	s := ""
	for _, line := range p.lines {
		s += "[" + plainText(line) + "]"
	}
	return s
}

// shifted is a text whose letters, from the first one on, are so many bytes further.
func shifted(s string, first byte, by int) string {
	b := []byte(s)
	for i, c := range b {
		if c >= first && c < first+26 {
			b[i] = byte(int(c) + by)
		}
	}
	return string(b)
}

func small(s string) string { return shifted(s, 'A', 32) }

func great(s string) string { return shifted(s, 'a', -32) }

// expectPlain holds all calls against the chapter's words.
func expectPlain(t *testing.T, s string) {
	t.Helper()
	p, b := plainOf(s), []byte(s)
	expect(t, "Split", s, rowOf(head.Split(b)), p.texts())
	expectNumber(t, "Split", s, len(head.Split(b)), len(p.lines))
	expectNumber(t, "Lines", s, head.Lines(b), len(p.lines))
	expect(t, "Head", s, string(head.Head(b)), p.top(0))
	expect(t, "Body", s, string(head.Body(b)), s[len(p.top(0)):])
	expect(t, "Head and Body", s, string(head.Head(b))+string(head.Body(b)), s)
	for n := -1; n <= len(p.lines)-p.heads+1; n++ {
		expect(t, "Top with "+strconv.Itoa(n), s, string(head.Top(b, n)), p.top(n))
	}
	expect(t, "Stuff", s, string(head.Stuff(b)), p.stuffed())
	l := p.fields()
	expect(t, "Fields", s, fieldsOf(head.Fields(b)), fieldsOf(l))
	for i := len(l) - 1; i >= 0; i-- {
		want := l[i].Value
		for _, f := range l[:i] {
			if small(f.Name) == small(l[i].Name) {
				want = f.Value
				break
			}
		}
		for _, name := range []string{l[i].Name, small(l[i].Name), great(l[i].Name)} {
			if v, ok := head.Get(b, name); !ok || v != want {
				t.Errorf("Get of %q of %q is %q, %v; want %q", name, s, v, ok, want)
			}
		}
	}
	if v, ok := head.Get(b, "no:ne"); ok || v != "" {
		t.Errorf("Get of a name that %q has not is %q", s, v)
	}
	expect(t, "what was handed in", s, string(b), s)
}

// TestShortTexts goes through all texts of so few bytes.
func TestShortTexts(t *testing.T) {
	for _, bytes := range []string{"\n\ra: .", "\n a:", "\n\r", "\n\tb"} {
		most := 9
		if len(bytes) > 4 {
			most = 6
		}
		row := []string{""}
		for range most {
			var longer []string
			for _, s := range row {
				for i := range len(bytes) {
					longer = append(longer, s+bytes[i:i+1])
				}
			}
			row = longer
			if len(row) > 70000 {
				break
			}
			for _, s := range row {
				expectPlain(t, s)
			}
		}
	}
}

// drawn is a text of lines as heads have them, and others.
func drawn(r *rand.Rand) string {
	var b strings.Builder
	for range r.Intn(10) {
		switch r.Intn(12) {
		case 0, 1, 2:
			b.WriteString([]string{"a", "B ", "Ab", "aB\t", "c-d", "", "c d"}[r.Intn(7)] + ":" + []string{" e", "f ", "", " \t", "g: h", "i\tj"}[r.Intn(6)])
		case 3, 4:
			b.WriteString([]string{" ", "\t", "  "}[r.Intn(3)] + []string{"k", "l m\t", "", " ", "n: o", ".p"}[r.Intn(6)])
		case 5:
			b.WriteString([]string{"q", "r s", ".", "..", ".t", "u."}[r.Intn(6)])
		case 6, 7:
			for range r.Intn(12) {
				b.WriteByte("\n\r\t :.aAzZ@[\x00\x1f"[r.Intn(14)])
			}
		}
		b.WriteString([]string{"\n", "\r\n", "\r\r\n", "\r", "", "\n\n", "\r\n\r\n"}[r.Intn(20)%7])
	}
	return b.String()
}

func TestRandomTexts(t *testing.T) {
	r := rand.New(rand.NewSource(1))
	for range 30000 {
		expectPlain(t, drawn(r))
	}
}

func FuzzTexts(f *testing.F) {
	for _, c := range messages {
		f.Add(c.in)
	}
	for _, c := range heads {
		f.Add(c.in)
	}
	f.Fuzz(func(t *testing.T, s string) {
		if len(s) <= 1<<12 {
			expectPlain(t, s)
		}
	})
}

// P9.4

// soil overwrites a list and the spare room behind its end.
func soil(p []byte) {
	p = p[:cap(p)]
	for i := range p {
		p[i] ^= 0xff
	}
}

const letter = "Subject: a\r\n b\r\nTo: c\nnone\n d\n\r\n.e\r\n..f\n\n\r\ng.\r\nlast"

// answers are all that is told of bytes, lists of bytes alone.
func answers(b []byte) [][]byte {
	l := [][]byte{head.Head(b), head.Body(b), head.Top(b, -1), head.Top(b, 0), head.Top(b, 1), head.Top(b, 99), head.Stuff(b), head.Head(b), head.Body(b), head.Top(b, 1), head.Stuff(b)}
	l = append(l, head.Split(b)...)
	return append(l, head.Split(b)...)
}

func TestHeadAndBodyAreAll(t *testing.T) {
	for _, c := range messages {
		b := []byte(c.in)
		expect(t, "Head and Body", c.in, string(head.Head(b))+string(head.Body(b)), c.in)
	}
	for _, c := range heads {
		b := []byte(c.in)
		expect(t, "Head and Body", c.in, string(head.Head(b))+string(head.Body(b)), c.in)
	}
	for at := range len(letter) + 1 {
		b := []byte(letter[at:])
		expect(t, "Head and Body", letter[at:], string(head.Head(b))+string(head.Body(b)), letter[at:])
	}
}

// What is handed in stays what it is, and what stands around it too; what is told stays, whatever becomes of that.
func TestWhatIsHandedInIsLeft(t *testing.T) {
	for from := range len(letter) + 1 {
		for to := from; to <= len(letter); to++ {
			all := []byte(letter)
			b := all[from:to]
			told, fields, field := answers(b), head.Fields(b), ""
			if len(fields) > 0 {
				field, _ = head.Get(b, fields[0].Name)
			}
			expect(t, "what was handed in", letter, string(all), letter)
			soil(all)
			for i, want := range answers([]byte(letter[from:to])) {
				expect(t, "an answer, once its bytes are overwritten,", letter[from:to], string(told[i]), string(want))
			}
			expect(t, "Fields, once their bytes are overwritten,", letter[from:to], fieldsOf(fields), fieldsOf(plainOf(letter[from:to]).fields()))
			if len(fields) > 0 {
				expect(t, "Get, once its bytes are overwritten,", letter[from:to], field, fields[0].Value)
			}
		}
	}
}

// TestAnswersAreApart overwrites each answer and its spare room: neither what was handed in nor any other answer knows.
func TestAnswersAreApart(t *testing.T) {
	for from := range len(letter) + 1 {
		b := []byte(letter[from:])
		told, fields := answers(b), head.Fields(b)
		for i, l := range told {
			was := string(l)
			soil(l)
			expect(t, "what was handed in", letter[from:], string(b), letter[from:])
			for j, want := range answers([]byte(letter[from:])) {
				if i != j {
					expect(t, "an answer, once another is overwritten,", letter[from:], string(told[j]), string(want))
				}
			}
			soil(l)
			expect(t, "an answer that was put right", letter[from:], string(l), was)
		}
		for i := range fields[:cap(fields)] {
			fields[:cap(fields)][i] = api.Field{Name: "x", Value: "y"}
		}
		expect(t, "Fields, asked again,", letter[from:], fieldsOf(head.Fields(b)), fieldsOf(plainOf(letter[from:]).fields()))
	}
}

// No row of Split's knows what is put behind another's end, nor in its place.
func TestRowsOfSplit(t *testing.T) {
	b := []byte(letter)
	one, two := head.Split(b), head.Split(b)
	want := plainOf(letter).texts()
	for i := range one {
		_ = append(one[i], "xyzxyzxyzxyzxyzxyz"...)
	}
	expect(t, "Split, written behind,", letter, rowOf(one), want)
	for i := range one[:cap(one)] {
		one[:cap(one)][i] = []byte("x")
	}
	expect(t, "Split, while another is overwritten,", letter, rowOf(two), want)
	expect(t, "what was handed in", letter, string(b), letter)
}

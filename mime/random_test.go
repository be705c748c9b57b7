package mime_test

import (
	"math/rand"
	"strconv"
	"strings"
	"testing"

	"letterbox/api"
	"letterbox/head"
	"letterbox/mime"
)

// small is A to Z as a to z.
func small(s string) string {
	b := []byte(s)
	for i, c := range b {
		if 'A' <= c && c <= 'Z' {
			b[i] = c + 32
		}
	}
	return string(b)
}

// inmost is a text without blanks at both ends.
func inmost(s string) string {
	for s != "" && (s[0] == ' ' || s[0] == '\t') {
		s = s[1:]
	}
	for s != "" && (s[len(s)-1] == ' ' || s[len(s)-1] == '\t') {
		s = s[:len(s)-1]
	}
	return s
}

// plainType is Type as the chapter's words have it.
func plainType(s string) (main, sub, boundary string) {
	value, _ := head.Get([]byte(s), "content-type")
	texts := strings.Split(value, ";")
	kind := small(inmost(texts[0]))
	main, sub = "text", "plain"
	if at := strings.Index(kind, "/"); at > 0 && at < len(kind)-1 {
		main, sub = kind[:at], kind[at+1:]
	}
	for _, text := range texts[1:] {
		at := strings.Index(text, "=")
		if at < 0 || small(inmost(text[:at])) != "boundary" {
			continue
		}
		boundary = inmost(text[at+1:])
		if n := len(boundary); n >= 2 && boundary[0] == '"' && boundary[n-1] == '"' {
			boundary = boundary[1 : n-1]
		}
		return main, sub, boundary
	}
	return main, sub, ""
}

// plainLine is where a line begins and ends, its end too, and its text.
type plainLine struct {
	from, to int
	text     string
}

func plainLines(s string, from int) []plainLine {
	var l []plainLine
	for i := from; i < len(s); i++ {
		if s[i] == '\n' || i == len(s)-1 {
			text := s[from : i+1]
			if text[len(text)-1] == '\n' {
				text = text[:len(text)-1]
			}
			if text != "" && text[len(text)-1] == '\r' {
				text = text[:len(text)-1]
			}
			l = append(l, plainLine{from, i + 1, text})
			from = i + 1
		}
	}
	return l
}

// plainParts is Parts as the chapter's words have it: first the lines that are marks or the end, then what is between each two.
func plainParts(s string) []api.Part {
	main, _, boundary := plainType(s)
	if main != "multipart" || boundary == "" {
		return nil
	}
	var found []plainLine
	close := plainLine{from: len(s)}
	for _, line := range plainLines(s, len(head.Head([]byte(s)))) {
		if line.text == "--"+boundary+"--" {
			close = line
			break
		}
		if line.text == "--"+boundary && len(found) < api.MaxParts {
			found = append(found, line)
		}
	}
	var l []api.Part
	for i, mark := range found {
		behind := close
		if i+1 < len(found) {
			behind = found[i+1]
		}
		p := api.Part{From: mark.to, To: behind.from}
		if p.To > p.From && s[p.To-1] == '\n' {
			p.To--
			if p.To > p.From && s[p.To-1] == '\r' {
				p.To--
			}
		}
		l = append(l, p)
	}
	return l
}

func plainSection(s string, path []int) string {
	if len(path) == 0 {
		return s
	}
	l := plainParts(s)
	switch {
	case len(path) > api.MaxDeep:
	case len(l) == 0 && len(path) == 1 && path[0] == 1:
		return string(head.Body([]byte(s)))
	case path[0] >= 1 && path[0] <= len(l):
		return plainSection(s[l[path[0]-1].From:l[path[0]-1].To], path[1:])
	}
	return none
}

// plainCount is Count of what is at that depth.
func plainCount(s string, depth int) int {
	n := 0
	if depth < api.MaxDeep {
		for _, p := range plainParts(s) {
			n += plainCount(s[p.From:p.To], depth+1)
		}
	}
	return max(n, 1) // no part counts as none
}

// expectPaths holds Section against the chapter's words, of all paths that lead somewhere and of those right beside them.
func expectPaths(t *testing.T, s string, path []int, at string) {
	t.Helper()
	was := append([]int{}, path...)
	if got, want := sectionOf(t, s, path), plainSection(s, path); got != want {
		t.Errorf("Section %v of %.300q is %.300q, want %.300q", path, s, got, want)
	}
	for i, n := range was {
		expectNumber(t, "a number of the path", s, path[i], n)
	}
	if len(path) > api.MaxDeep || at == none {
		return
	}
	for n := -1; n <= len(plainParts(at))+2; n++ {
		longer := append(append([]int{}, path...), n)
		expectPaths(t, s, longer, plainSection(at, longer[len(path):]))
	}
}

// expectPlain holds all calls against the chapter's words.
func expectPlain(t *testing.T, s string) {
	t.Helper()
	main, sub, boundary := plainType(s)
	expect(t, "Type", s, typeOf(s), "["+main+"]["+sub+"]["+boundary+"]")
	b := []byte(s)
	expect(t, "Parts", s, placesOf(mime.Parts(b)), placesOf(plainParts(s)))
	expectNumber(t, "Count", s, mime.Count(b), plainCount(s, 0))
	expect(t, "what was handed in", s, string(b), s)
	expectPaths(t, s, nil, s)
}

// rowsOf is all rows of so many of the words.
func rowsOf(n int, words ...string) []string {
	rows := []string{""}
	for range n {
		var longer []string
		for _, row := range rows {
			for _, word := range words {
				longer = append(longer, row+word)
			}
		}
		rows = longer
	}
	return rows
}

// TestShortTypes goes through all fields of so few words.
func TestShortTypes(t *testing.T) {
	for n := range 6 {
		for _, row := range rowsOf(n, ";", "=", "\"", "/", " ", "boundary", "BoundarY", "\tc", "\n ") {
			s := "Content-Type:" + row + "\n\nx"
			main, sub, boundary := plainType(s)
			expect(t, "Type", s, typeOf(s), "["+main+"]["+sub+"]["+boundary+"]")
			s = "Content-Type:a/B;" + row + "boundary=\"" + row + "\"\n\nx"
			main, sub, boundary = plainType(s)
			expect(t, "Type", s, typeOf(s), "["+main+"]["+sub+"]["+boundary+"]")
		}
	}
}

// TestShortBodies goes through all bodies of so few lines, and of so few bytes.
func TestShortBodies(t *testing.T) {
	for n := range 6 {
		for _, row := range rowsOf(n, "--b\n", "--b\r\n", "--b--\n", "\n", "\r\n", "x\n", "--b") {
			expectPlain(t, top+row)
		}
	}
	for n := range 8 {
		for _, row := range rowsOf(n, "\n", "\r", "-", "b") {
			s := top + "--b\n" + row
			expect(t, "Parts", s, placesOf(mime.Parts([]byte(s))), placesOf(plainParts(s)))
			s = top + row
			expect(t, "Parts", s, placesOf(mime.Parts([]byte(s))), placesOf(plainParts(s)))
		}
	}
}

// drawn is a message as they are, or nearly one.
func drawn(r *rand.Rand, depth int) string {
	boundary := []string{"b", "c", "b--", "B c"}[r.Intn(4)]
	ends := []string{"\n", "\r\n"}
	end := func() string { return ends[r.Intn(2)] }
	var b strings.Builder
	switch r.Intn(5) {
	case 0, 1, 2:
		b.WriteString([]string{"", "To: x\n", "none\n"}[r.Intn(3)] + "Content-Type: " + []string{"multipart/x", "Multipart/Y", "multipart", "text/html"}[r.Intn(5)%4] + []string{";", " ; ", ";a=b;", ";\r\n "}[r.Intn(4)])
		b.WriteString([]string{"boundary=" + boundary, "Boundary = " + boundary + " ", "boundary=\"" + boundary + "\"", "boundary"}[r.Intn(9)%4] + end())
	case 3:
		b.WriteString("k: v" + end())
	}
	b.WriteString([]string{end(), end(), end(), ""}[r.Intn(4)])
	marks := 6
	if r.Intn(20) == 0 {
		marks = 40
	}
	for range r.Intn(marks) {
		switch r.Intn(9) {
		case 0, 1, 2, 3:
			b.WriteString("--" + boundary + []string{"", "", "", "\r", " ", "-"}[r.Intn(6)] + end())
		case 4:
			b.WriteString("--" + boundary + "--" + end())
		case 5, 6:
			if depth > 0 {
				b.WriteString(drawn(r, depth-1) + []string{end(), end(), ""}[r.Intn(3)])
			}
		case 7:
			b.WriteString([]string{"x", "", "y z\r", "-", "--"}[r.Intn(5)] + end())
		case 8:
			for range r.Intn(6) {
				b.WriteByte("\n\r\t -b;="[r.Intn(8)])
			}
		}
	}
	return b.String()
}

func TestRandomMessages(t *testing.T) {
	r := rand.New(rand.NewSource(1))
	for range 20000 {
		expectPlain(t, drawn(r, r.Intn(api.MaxDeep+3)))
	}
}

func FuzzMessages(f *testing.F) {
	for _, c := range kinds {
		f.Add("content-type:" + c.value + "\n\n--x\n--x--")
	}
	for _, c := range bodies {
		f.Add(top + c.in)
	}
	f.Add(whole)
	f.Add(nested(api.MaxDeep+1, plainText))
	f.Fuzz(func(t *testing.T, s string) {
		if len(s) <= 1<<11 {
			expectPlain(t, s)
		}
	})
}

// P10.4

// soil overwrites a list and the spare room behind its end.
func soil(p []byte) {
	p = p[:cap(p)]
	for i := range p {
		p[i] ^= 0xff
	}
}

// paths lead to all of whole, and beside it.
func paths() [][]int {
	return [][]int{nil, {}, {1}, {2}, {3}, {4}, {5}, {0}, {1, 1}, {1, 2}, {2, 1}, {2, 1, 1}, {2, 2}, {2, 2, 1}, {2, 3, 1}, {1, 1, 1, 1, 1}}
}

// sections are all that is told of bytes, lists of bytes alone.
func sections(b []byte) [][]byte {
	var l [][]byte
	for _, path := range append(paths(), paths()...) {
		section, _ := mime.Section(b, path)
		l = append(l, section)
	}
	return l
}

// What is handed in stays what it is, and what stands around it too; what is told stays, whatever becomes of that.
func TestWhatIsHandedInIsLeft(t *testing.T) {
	for to := range len(whole) + 1 {
		for _, from := range []int{0, 1, to / 2, to} {
			from = min(from, to)
			all, want := []byte(whole), whole[from:to]
			b := all[from:to]
			main, sub, boundary := mime.Type(b)
			parts, told := mime.Parts(b), sections(b)
			expectNumber(t, "Count", want, mime.Count(b), plainCount(want, 0))
			expect(t, "what was handed in", whole, string(all), whole)
			soil(all)
			expect(t, "Type, once its bytes are overwritten,", want, "["+main+"]["+sub+"]["+boundary+"]", typeOf(want))
			expect(t, "Parts, once their bytes are overwritten,", want, placesOf(parts), placesOf(plainParts(want)))
			for i, section := range sections([]byte(want)) {
				expect(t, "Section, once its bytes are overwritten,", want, string(told[i]), string(section))
			}
		}
	}
}

// A path stays what it is, and what stands around it too.
func TestPathsAreLeft(t *testing.T) {
	all := []int{1, 2, 1, 1, 2, 2, 1, 4, 0, -1, 5}
	for from := range all {
		for to := from; to <= len(all); to++ {
			got := sectionOf(t, whole, all[from:to])
			expect(t, "Section of "+strconv.Itoa(from)+" to "+strconv.Itoa(to), whole, got, plainSection(whole, all[from:to]))
			for i, n := range []int{1, 2, 1, 1, 2, 2, 1, 4, 0, -1, 5} {
				expectNumber(t, "a number of the path", whole, all[i], n)
			}
		}
	}
}

// TestAnswersAreApart overwrites each answer and its spare room: neither what was handed in nor any other answer knows.
func TestAnswersAreApart(t *testing.T) {
	for _, s := range []string{"", "x", plainText, inner, whole} {
		b := append(make([]byte, 0, 2*len(s)+64), s...)
		spare := b[:cap(b)]
		told := sections(b)
		for i, l := range told {
			was := string(l)
			soil(l)
			expect(t, "what was handed in", s, string(b), s)
			expect(t, "the room behind it", s, string(spare[len(s):]), strings.Repeat("\x00", len(spare)-len(s)))
			for j, want := range sections([]byte(s)) {
				if i != j {
					expect(t, "Section, once another is overwritten,", s, string(told[j]), string(want))
				}
			}
			soil(l)
			expect(t, "Section that was put right", s, string(l), was)
		}
		one, two := mime.Parts(b), mime.Parts(b)
		for i := range one[:cap(one)] {
			one[:cap(one)][i] = api.Part{From: -7, To: -8}
		}
		expect(t, "Parts, while others are overwritten,", s, placesOf(two), placesOf(plainParts(s)))
		expect(t, "Parts, asked again,", s, placesOf(mime.Parts(b)), placesOf(plainParts(s)))
	}
}

// No byte has a kind, and no part, in each form that it has.
func TestNoByte(t *testing.T) {
	for _, b := range [][]byte{nil, {}, make([]byte, 0, 9), []byte(whole)[:0]} {
		main, sub, boundary := mime.Type(b)
		expect(t, "Type", "", main+" "+sub+" "+boundary, "text plain ")
		expectNumber(t, "Parts", "", len(mime.Parts(b)), 0)
		expectNumber(t, "Count", "", mime.Count(b), 1)
		for _, path := range [][]int{nil, {}, {1}} {
			if section, ok := mime.Section(b, path); len(section) > 0 || !ok {
				t.Errorf("Section %v of no byte is %q, %v", path, section, ok)
			}
		}
		for _, path := range [][]int{{0}, {2}, {-1}, {1, 1}} {
			if section, ok := mime.Section(b, path); len(section) > 0 || ok {
				t.Errorf("Section %v of no byte is %q, %v", path, section, ok)
			}
		}
	}
}

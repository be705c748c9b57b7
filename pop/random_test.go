package pop_test

import (
	"fmt"
	"math/rand"
	"slices"
	"strconv"
	"strings"
	"testing"

	"letterbox/api"
	"letterbox/box"
	"letterbox/pop"
)

// plain is a session in which what the chapter says is done with lists of words, beside a store and locks of its own.
type plain struct {
	conn   int
	over   bool
	named  []string // nobody, or one
	user   string
	box    api.Box
	marked map[int]bool // by places
}

func (p *plain) take(line string, x place) (string, bool) {
	if p.over {
		return no, true
	}
	var words []string
	for _, word := range strings.Split(line, " ") {
		if word != "" {
			words = append(words, word)
		}
	}
	if len(words) == 0 {
		return no, false
	}
	small := []byte(words[0])
	for i, c := range small {
		if strings.IndexByte("ABCDEFGHIJKLMNOPQRSTUVWXYZ", c) >= 0 {
			small[i] = c | 0x20
		}
	}
	words[0] = string(small)
	if p.user == "" {
		return p.ahead(words, line, x), p.over
	}
	return p.behind(words, x), p.over
}

func (p *plain) ahead(words []string, line string, x place) string {
	switch all := strings.Join(words, " "); {
	case words[0] == "user" && len(words) == 2:
		p.named = words[1:]
		return yes
	case words[0] == "pass":
		named := p.named
		p.named = nil
		pass := strings.TrimLeft(line, " ")[len("pass"):]
		if len(pass) < 2 || len(named) == 0 || !x.s.Check(named[0], pass[1:]) || !x.l.Take(named[0], p.conn) {
			return no
		}
		p.user, p.marked = named[0], map[int]bool{}
		p.box, _ = x.s.Get(p.user, "inbox")
		return fmt.Sprintf("+OK %d\r\n", len(p.box.L))
	case all == "capa":
		return able
	case all == "quit":
		p.over = true
		return yes
	}
	return no
}

// there are the places that are not marked.
func (p *plain) there() []int {
	var l []int
	for at := range p.box.L {
		if !p.marked[at+1] {
			l = append(l, at+1)
		}
	}
	return l
}

// at is the place that a word tells; 0, if it is not there.
func (p *plain) at(word string) int {
	for _, place := range p.there() {
		for digits := 1; digits <= 7; digits++ {
			if fmt.Sprintf("%0*d", digits, place) == word {
				return place
			}
		}
	}
	return 0
}

func (p *plain) fact(name string, place int) string {
	m := p.box.L[place-1]
	if name == "list" {
		return fmt.Sprintf("%d %d", place, len(m.Body))
	}
	return fmt.Sprintf("%d %d.%d", place, p.box.Validity, m.UID)
}

func (p *plain) behind(words []string, x place) string {
	name, count := words[0], len(words)-1
	switch fmt.Sprint(name, count) {
	case "stat0":
		sum := 0
		for _, place := range p.there() {
			sum += len(p.box.L[place-1].Body)
		}
		return fmt.Sprintf("+OK %d %d\r\n", len(p.there()), sum)
	case "list0", "uidl0":
		l := []string{"+OK"}
		for _, place := range p.there() {
			l = append(l, p.fact(name, place))
		}
		return strings.Join(append(l, ".", ""), "\r\n")
	case "noop0":
		return yes
	case "capa0":
		return able
	case "rset0":
		p.marked = map[int]bool{}
		return yes
	case "quit0":
		return p.quit(x)
	case "list1", "uidl1", "retr1", "dele1", "top2":
		if place := p.at(words[1]); place > 0 {
			return p.one(words, place)
		}
	}
	return no
}

func (p *plain) one(words []string, place int) string {
	body := string(p.box.L[place-1].Body)
	switch words[0] {
	case "dele":
		p.marked[place] = true
		return yes
	case "retr":
		return yes + sent(body, -1)
	case "top":
		n, e := strconv.Atoi(words[2])
		if e != nil || len(words[2]) > 7 || strings.ContainsAny(words[2], "+-") {
			return no
		}
		return yes + sent(body, n)
	}
	return "+OK " + p.fact(words[0], place) + "\r\n"
}

// sent is a body as it is sent, or its head and so many lines more.
func sent(body string, lines int) string {
	var all strings.Builder
	behindHead := false
	for _, line := range strings.SplitAfter(body, "\n") {
		if line == "" {
			continue
		}
		if behindHead && lines >= 0 {
			if lines == 0 {
				break
			}
			lines--
		}
		text := strings.TrimSuffix(strings.TrimSuffix(line, "\n"), "\r")
		behindHead = behindHead || text == ""
		if strings.HasPrefix(text, ".") {
			text = "." + text
		}
		all.WriteString(text + "\r\n")
	}
	return all.String() + ".\r\n"
}

func (p *plain) quit(x place) string {
	p.over = true
	x.l.Free(p.conn)
	var uids []int
	for at, m := range p.box.L {
		if p.marked[at+1] {
			uids = append(uids, m.UID)
		}
	}
	user := p.user
	p.user = ""
	if len(uids) > 0 {
		if _, e := x.s.Do(api.Change{Kind: api.ChangeExpunge, User: user, Box: "inbox", UIDs: uids}); e != api.OK {
			return no
		}
	}
	return yes
}

// piece is one of a list, whichever.
func piece(r *rand.Rand, l ...string) string {
	return l[r.Intn(len(l))]
}

// randomLine is a line that is mostly a command.
func randomLine(r *rand.Rand) string {
	names := []string{"user", "pass", "capa", "stat", "list", "uidl", "retr", "top", "dele", "dele", "dele", "rset", "noop", "quit", "what", ""}
	name := piece(r, names...)
	great := min(r.Intn(6), len(name)) // so many letters of it
	name = strings.ToUpper(name[:great]) + name[great:]
	line := piece(r, "", "", "", " ", "  ") + name
	for range r.Intn(3 + r.Intn(2)) {
		line += piece(r, " ", " ", " ", "  ")
		line += piece(r, "ann", "bob", "p", "q", "0", "1", "2", "3", "4", "5", "6", "03", "0000002", "00000002", "+1", "-1", "x", "", "9999999", "10000000")
	}
	return line + piece(r, "", "", "", " ", "  ")
}

// randomBody is a message of some short lines.
func randomBody(r *rand.Rand) string {
	var all strings.Builder
	for range r.Intn(8) {
		all.WriteString(piece(r, "a: b", "", ".", "..", ".x", "x", "\r", "\xff", "a.") + piece(r, "\n", "\r\n"))
	}
	return all.String() + piece(r, "", ".", "x", "\r")
}

// randomChange is one that comes from beside the sessions.
func randomChange(r *rand.Rand) api.Change {
	user := piece(r, "ann", "bob")
	if r.Intn(3) > 0 {
		return api.Change{Kind: api.ChangeAppend, User: user, Box: "inbox", Flags: r.Intn(api.AllFlags + 1), Body: []byte(randomBody(r))}
	}
	first := 1 + r.Intn(12)
	return api.Change{Kind: api.ChangeExpunge, User: user, Box: "inbox", UIDs: []int{first, first + 1 + r.Intn(3)}}
}

// expectSame wants the same of both stores and both locks.
func expectSame(t *testing.T, what string, x, y place) {
	t.Helper()
	for _, user := range []string{"ann", "bob"} {
		a, _ := x.s.Get(user, "inbox")
		b, _ := y.s.Get(user, "inbox")
		if !box.Same(a, b) {
			t.Errorf("%s: the inbox of %s: %v, want %v", what, user, a, b)
		}
		one, has := x.l.Holder(user)
		other, had := y.l.Holder(user)
		if one != other || has != had {
			t.Errorf("%s: the drop of %s: %d, %t; want %d, %t", what, user, one, has, other, had)
		}
	}
}

// TestRandomSessions holds some sessions of one store against plain ones of another.
func TestRandomSessions(t *testing.T) {
	seen := map[string]int{} // how often an answer was of some kind: the test's own lines reach all
	for seed := range 400 {
		r := rand.New(rand.NewSource(int64(seed)))
		bodies := []string{randomBody(r), randomBody(r), randomBody(r), randomBody(r)}[:r.Intn(5)]
		x, y := begin(t, bodies...), begin(t, bodies...)
		x.enrol(t, "bob", "q", "b")
		y.enrol(t, "bob", "q", "b")
		sessions, plains := make([]*pop.Pop, 3), make([]*plain, 3)
		for conn := range sessions {
			sessions[conn], plains[conn] = pop.New(conn), &plain{conn: conn}
		}
		var script []string // the lines that a session of some conn goes on with
		conn := 0
		for step := range 300 {
			what := fmt.Sprintf("seed %d, step %d", seed, step)
			if r.Intn(12) == 0 {
				c := randomChange(r)
				x.s.Do(c)
				y.s.Do(c)
			}
			if len(script) == 0 {
				conn = r.Intn(3)
				script = []string{randomLine(r)}
				if r.Intn(6) == 0 {
					script = []string{"user ann", "pass p"}
				} else if r.Intn(10) == 0 {
					script = []string{"user bob", "pass q"}
				}
			}
			line := script[0]
			script = script[1:]
			want, wantOver := plains[conn].take(line, y)
			got, over := sessions[conn].Take([]byte(line), x.s, x.l)
			if got != want || over != wantOver {
				t.Fatalf("%s: %q: %q, %t; want %q, %t", what, line, got, over, want, wantOver)
			}
			if sessions[conn].User() != plains[conn].user {
				t.Fatalf("%s: User is %q, want %q", what, sessions[conn].User(), plains[conn].user)
			}
			expectSame(t, what, x, y)
			if word := strings.Fields(strings.ToLower(line)); got != no {
				seen[word[0]+strconv.FormatBool(plains[conn].user != "")]++
			}
			if over && r.Intn(4) == 0 {
				sessions[conn], plains[conn] = pop.New(conn), &plain{conn: conn}
			}
		}
	}
	for _, kind := range []string{"userfalse", "capafalse", "quitfalse", "passtrue", "stattrue", "listtrue", "uidltrue", "retrtrue", "toptrue", "deletrue", "rsettrue", "nooptrue", "capatrue"} {
		if seen[kind] < 20 {
			t.Errorf("the test's own: %q was there %d times", kind, seen[kind])
		}
	}
}

// TestRandomBytes holds lines of any bytes against plain ones.
func TestRandomBytes(t *testing.T) {
	r := rand.New(rand.NewSource(1))
	x, y := begin(t, "a", "bb"), begin(t, "a", "bb")
	p, q := pop.New(1), &plain{conn: 1}
	letters := "  statlisuderopcq102SLT\t\x00\xff\r\n."
	for step := range 200000 {
		if step == 100000 {
			x.plays(t, p, "user ann", yes, "pass p", "+OK 2\r\n")
			q.take("user ann", y)
			q.take("pass p", y)
		}
		line := make([]byte, r.Intn(9))
		for i := range line {
			line[i] = letters[r.Intn(len(letters))]
		}
		if slices.Contains(strings.Fields(strings.ToLower(string(line))), "quit") {
			continue
		}
		want, wantOver := q.take(string(line), y)
		if got, over := p.Take(line, x.s, x.l); got != want || over != wantOver {
			t.Fatalf("%q: %q, %t; want %q, %t", line, got, over, want, wantOver)
		}
	}
}

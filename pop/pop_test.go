package pop_test

import (
	"fmt"
	"slices"
	"strings"
	"testing"

	"letterbox/api"
	"letterbox/box"
	"letterbox/disk"
	"letterbox/lock"
	"letterbox/pop"
	"letterbox/store"
)

const (
	yes  = "+OK\r\n"
	no   = "-ERR\r\n"
	able = "+OK\r\nTOP\r\nUIDL\r\nUSER\r\n.\r\n"
)

// commands are lines of which each is a command of some kind, or nearly one.
var commands = []string{
	"", " ", "   ", "stat", "list", "list 1", "uidl", "uidl 1", "retr 1", "top 1 0", "dele 1", "rset", "noop", "capa", "quit", "user", "user ann", "user ann b", "pass", "pass p", "pass ",
	"stat 1", "list 1 1", "uidl 1 1", "retr", "retr 1 1", "top", "top 1", "top 1 1 1", "dele", "dele 1 1", "rset 1", "noop 1", "capa 1", "quit 1",
	"apop ann 0123456789abcdef0123456789abcdef", "auth", "stls", "last", "help", "stats", "sta", "quitt", "qui", "1", ".", "+OK", "\x00", "\xff",
}

// place is a store on its disk, and the locks beside it.
type place struct {
	d *disk.Disk
	s *store.Store
	l *lock.Locks
}

// begin is one of ann, of pass p, with some messages in her inbox.
func begin(t testing.TB, bodies ...string) place {
	t.Helper()
	d, e := disk.New(1 << 24)
	if e != api.OK {
		t.Fatal(e)
	}
	s, e := store.Open(d)
	if e != api.OK {
		t.Fatal(e)
	}
	x := place{d, s, lock.New()}
	x.enrol(t, "ann", "p", bodies...)
	return x
}

func (x place) do(t testing.TB, c api.Change) int {
	t.Helper()
	n, e := x.s.Do(c)
	if e != api.OK {
		t.Fatal(c, e)
	}
	return n
}

func (x place) enrol(t testing.TB, user, pass string, bodies ...string) {
	t.Helper()
	x.do(t, api.Change{Kind: api.ChangeUser, User: user, Pass: pass})
	for _, b := range bodies {
		x.add(t, user, b)
	}
}

func (x place) add(t testing.TB, user, body string) {
	t.Helper()
	x.do(t, api.Change{Kind: api.ChangeAppend, User: user, Box: "inbox", Body: []byte(body)})
}

func (x place) expunge(t testing.TB, user string, uids ...int) {
	t.Helper()
	x.do(t, api.Change{Kind: api.ChangeExpunge, User: user, Box: "inbox", UIDs: uids})
}

// uids are those of a user's inbox.
func (x place) uids(user string) []int {
	b, _ := x.s.Get(user, "inbox")
	var l []int
	for _, m := range b.L {
		l = append(l, m.UID)
	}
	return l
}

// takes wants an answer to a line.
func (x place) takes(t testing.TB, p *pop.Pop, line, want string, wantOver bool) {
	t.Helper()
	if got, over := p.Take([]byte(line), x.s, x.l); got != want || over != wantOver {
		t.Errorf("%.60q: %.300q, %t; want %.300q, %t", line, got, over, want, wantOver)
	}
}

// plays plays lines, each with the answer that is wanted; none of them ends the session.
func (x place) plays(t testing.TB, p *pop.Pop, rows ...string) {
	t.Helper()
	for i := 0; i < len(rows); i += 2 {
		x.takes(t, p, rows[i], rows[i+1], false)
	}
}

// ends plays one line that ends the session.
func (x place) ends(t testing.TB, p *pop.Pop, line, want string) {
	t.Helper()
	x.takes(t, p, line, want, true)
}

// logged is a session of ann's.
func (x place) logged(t testing.TB, conn int) *pop.Pop {
	t.Helper()
	p := pop.New(conn)
	x.plays(t, p, "user ann", yes, "pass p", fmt.Sprintf("+OK %d\r\n", len(x.uids("ann"))))
	expectUser(t, p, "ann")
	return p
}

func (x place) expectHolder(t testing.TB, user string, conn int) {
	t.Helper()
	if got, ok := x.l.Holder(user); got != conn || !ok {
		t.Errorf("the drop of %q: %d, %t; want %d", user, got, ok, conn)
	}
}

func (x place) expectFree(t testing.TB, users ...string) {
	t.Helper()
	for _, user := range users {
		if got, ok := x.l.Holder(user); ok {
			t.Errorf("%d has the drop of %q", got, user)
		}
	}
}

func (x place) expectUIDs(t testing.TB, user string, want ...int) {
	t.Helper()
	if got := x.uids(user); !slices.Equal(got, want) {
		t.Errorf("the inbox of %q: %d, want %d", user, got, want)
	}
}

func expectUser(t testing.TB, p *pop.Pop, want string) {
	t.Helper()
	if got := p.User(); got != want {
		t.Errorf("User is %q, want %q", got, want)
	}
}

// P16.1

func TestExample(t *testing.T) {
	x := begin(t)
	x.plays(t, pop.New(0), "stat", no)
}

func TestGreet(t *testing.T) {
	for range 2 {
		if got := pop.Greet(); got != "+OK ready\r\n" {
			t.Errorf("%q", got)
		}
	}
}

func TestLong(t *testing.T) {
	x := begin(t, "a")
	long := func(p *pop.Pop) {
		t.Helper()
		if got := p.Long(); got != no {
			t.Errorf("%q", got)
		}
	}
	long(nil)
	long(&pop.Pop{})
	p := pop.New(1)
	long(p)
	x.plays(t, p, "user ann", yes)
	long(p) // the user is remembered yet
	x.plays(t, p, "pass p", "+OK 1\r\n", "dele 1", yes)
	long(p) // it is marked yet
	x.plays(t, p, "stat", "+OK 0 0\r\n")
	x.expectHolder(t, "ann", 1)
	x.ends(t, p, "quit", yes)
	long(p)
	x.expectUIDs(t, "ann")
}

func TestLogin(t *testing.T) {
	x := begin(t, "one", "two", "three")
	x.enrol(t, "bob", "!~Aa0Zz\"\\.~!")
	x.enrol(t, "abcdefghijkl", "x", "1")
	for _, c := range []struct{ user, pass, want string }{
		{"ann", "p", "+OK 3\r\n"}, {"bob", "!~Aa0Zz\"\\.~!", "+OK 0\r\n"}, {"abcdefghijkl", "x", "+OK 1\r\n"},
	} {
		for _, conn := range []int{0, 1, -1, 7, 1 << 40, -1 << 62} {
			p := pop.New(conn)
			x.plays(t, p, "user "+c.user, yes)
			x.expectFree(t, "ann", "bob", "abcdefghijkl")
			x.plays(t, p, "pass "+c.pass, c.want)
			x.expectHolder(t, c.user, conn)
			expectUser(t, p, c.user)
			x.ends(t, p, "quit", yes)
			x.expectFree(t, "ann", "bob", "abcdefghijkl")
		}
	}
}

// Words stand between blanks, however many; the first one's letters are great or small.
func TestBlanksAndLetters(t *testing.T) {
	x := begin(t, "a: b\n\nc\nd")
	for _, name := range []func(string) string{strings.ToLower, strings.ToUpper, func(s string) string { return strings.ToUpper(s[:1]) + s[1:] }, func(s string) string { return s[:1] + strings.ToUpper(s[1:]) }} {
		for _, ahead := range []string{"", " ", "    "} {
			for _, between := range []string{" ", "  ", "     "} {
				for _, behind := range []string{"", " ", "   "} {
					line := func(words ...string) string {
						return ahead + strings.Join(append([]string{name(words[0])}, words[1:]...), between) + behind
					}
					p := pop.New(1)
					x.plays(t, p, line("capa"), able, line("capa", "x"), no, line("noop"), no, line("user"), no, line("user", "ann", "b"), no, line("user", "ann"), yes, ahead+name("pass")+" p", "+OK 1\r\n")
					x.plays(t, p, line("stat"), "+OK 1 9\r\n", line("list"), yes+"1 9\r\n.\r\n", line("list", "1"), "+OK 1 9\r\n", line("uidl"), yes+"1 1.1\r\n.\r\n", line("uidl", "1"), "+OK 1 1.1\r\n")
					x.plays(t, p, line("retr", "1"), yes+"a: b\r\n\r\nc\r\nd\r\n.\r\n", line("top", "1", "1"), yes+"a: b\r\n\r\nc\r\n.\r\n", line("dele", "1"), yes, line("dele", "1"), no, line("rset"), yes, line("noop"), yes, line("capa"), able)
					x.plays(t, p, line("stat", "1"), no, line("list", "1", "1"), no, line("top", "1"), no, line("top", "1", "1", "1"), no)
					x.ends(t, p, line("quit"), yes)
				}
			}
		}
	}
}

// All else is a letter, and belongs to its word; and none but A to Z has a small one.
func TestWhatIsNoBlankAndNoLetter(t *testing.T) {
	x := begin(t, "a")
	for _, odd := range []string{"\t", "\r", "\n", "\r\n", "\v", "\f", "\x00", "\x1f", "\x7f", "\x80", "\x85", "\xa0", "\xff", "\u0085", "\u00a0", "\u2003", "\u3000", "\ufeff", "_", "-", ",", "\"", "'"} {
		p := pop.New(1)
		x.plays(t, p, "capa"+odd, no, odd+"capa", no, "quit"+odd, no, odd+"quit", no, odd, no, "user"+odd+"ann", no, "user "+odd, yes, "pass p", no)
		x.plays(t, p, "user ann"+odd, yes, "pass p", no, "user "+odd+"ann", yes, "pass p", no, "user ann", yes, "pass p"+odd, no, "user ann", yes, "pass "+odd+"p", no, "user ann", yes, "pass"+odd+"p", no, "pass p", "+OK 1\r\n")
		for _, line := range []string{"stat", "list", "uidl", "rset", "noop", "capa", "quit", "list 1", "uidl 1", "retr 1", "top 1 1", "dele 1"} {
			x.plays(t, p, line+odd, no, odd+line, no)
			if word, others, has := strings.Cut(line, " "); has {
				x.plays(t, p, word+odd+others, no, word+" "+odd+others, no)
			}
		}
		x.plays(t, p, "stat", "+OK 1 1\r\n")
		x.ends(t, p, "quit", yes)
	}
	p := pop.New(1)
	for _, line := range []string{"u\u017fer ann", "U\u017fER ann", "\uff35\uff33\uff25\uff32 ann", "QU\u0130T", "qu\u0131t", "c\u0430pa", "CAP\u0391", "use\x12 ann", "u3er ann", "[apa", "@apa"} {
		x.plays(t, p, line, no)
	}
	x.plays(t, p, "user ann", yes, "pa\u017f\u017f p", no, "PA\u017f\u017f p", no, "pass p", "+OK 1\r\n")
	for _, line := range []string{"\u017ftat", "l\u0130st", "L\u0131ST", "u\u0130dl", "r\u017fet", "\u017fTAT", "QU\u0130T", "ret\u211f 1", "list \u0661", "list \uff11", "retr \u00b9"} {
		x.plays(t, p, line, no)
	}
	x.expectHolder(t, "ann", 1)
}

// Each letter of each command is that one, great or small, and no other byte.
func TestEachByteAtEachPlace(t *testing.T) {
	x := begin(t, "a")
	names := []string{"stat", "list", "uidl", "rset", "noop", "capa"}
	lines := map[string]bool{}
	for _, name := range names {
		lines[name] = true
	}
	p := x.logged(t, 1)
	for _, name := range names {
		for at := range name {
			for c := range 256 {
				if c == ' ' {
					continue // one at an end leaves a shorter word, one within it another
				}
				line := []byte(name)
				line[at] = byte(c)
				small := string(line)
				if 'A' <= c && c <= 'Z' {
					small = name[:at] + string(rune(c+32)) + name[at+1:]
				}
				got, over := p.Take(line, x.s, x.l)
				if (got != no) != lines[small] || over {
					t.Errorf("%q: %q, %t", line, got, over)
				}
			}
		}
	}
}

func TestUserOfAWord(t *testing.T) {
	x := begin(t)
	x.enrol(t, "user", "pass")
	for _, word := range []string{"a", "ann", "ANN", "Ann", "eve", "user", "pass", "1", ".", "\x00", "\xff", "ann\t", "\"ann\"", strings.Repeat("ann", 1<<16)} {
		p := pop.New(1)
		x.plays(t, p, "user "+word, yes)
		expectUser(t, p, "")
		want := no
		if word == "ann" {
			want = "+OK 0\r\n"
		}
		x.plays(t, p, "pass p", want)
		x.l.Free(1)
	}
	p := pop.New(1)
	x.plays(t, p, "USER user", yes, "PASS pass", "+OK 0\r\n")
}

func TestUserOfOtherWords(t *testing.T) {
	x := begin(t)
	p := pop.New(1)
	x.plays(t, p, "user", no, "user ", no, "user    ", no, "user ann ann", no, "user ann  b", no, "user a n n", no, "userann", no, "user ann b c d", no, "user "+strings.Repeat("ann ", 1<<12), no)
	x.plays(t, p, "pass p", no) // none of them was remembered
	x.plays(t, p, "user ann", yes)
	x.plays(t, p, "user", no, "user ann ann", no, "user eve ann", no) // nor do they take the place of one that was
	x.plays(t, p, "pass p", "+OK 0\r\n")
}

func TestSecondUser(t *testing.T) {
	x := begin(t, "a")
	x.enrol(t, "bob", "q")
	p := pop.New(1)
	x.plays(t, p, "user ann", yes, "user bob", yes, "pass p", no, "pass q", no, "user ann", yes, "user ann", yes, "user bob", yes, "pass q", "+OK 0\r\n")
	expectUser(t, p, "bob")
	x.expectFree(t, "ann")
	p = pop.New(2)
	x.plays(t, p, "user eve", yes, "user bob", yes, "user ann", yes, "pass p", "+OK 1\r\n")
	expectUser(t, p, "ann")
	x.expectHolder(t, "bob", 1)
}

// A user is remembered as long as nothing but other commands comes.
func TestCommandsBetweenUserAndPass(t *testing.T) {
	x := begin(t, "a")
	p := pop.New(1)
	x.plays(t, p, "user ann", yes)
	for _, line := range commands {
		if word, _, _ := strings.Cut(strings.TrimLeft(line, " "), " "); word == "pass" || line == "quit" || line == "user ann" {
			continue
		}
		want := no
		if line == "capa" {
			want = able
		}
		x.plays(t, p, line, want)
	}
	expectUser(t, p, "")
	x.plays(t, p, "pass p", "+OK 1\r\n")
}

// All that stands behind the blank is the pass: no blank is a part of any.
func TestBlanksInAndAroundPass(t *testing.T) {
	x := begin(t)
	x.enrol(t, "bob", "pq")
	p := pop.New(1)
	for _, line := range []string{"pass", "pass ", "pass  ", "pass     ", " pass", " pass ", "pass  p", "pass p ", "pass  p ", "pass   p", "pass p p", "pass p x", "pass x p", "PASS  p"} {
		x.plays(t, p, "user ann", yes, line, no)
		x.expectFree(t, "ann")
		x.plays(t, p, "pass p", no) // nobody is remembered
	}
	x.plays(t, p, "user bob", yes, "pass p q", no, "user bob", yes, "pass  pq", no, "user bob", yes, "pass pq ", no, "user bob", yes, "    pass pq", "+OK 0\r\n")
}

func TestWrongPass(t *testing.T) {
	x := begin(t, "a")
	x.enrol(t, "bob", "Secret")
	p := pop.New(1)
	for _, c := range []struct{ user, pass string }{
		{"ann", "q"}, {"ann", "P"}, {"ann", "pp"}, {"ann", "Secret"}, {"bob", "p"}, {"bob", "secret"}, {"bob", "SECRET"}, {"bob", "Secre"}, {"bob", "Secret1"}, {"bob", "\x00"}, {"ann", "p\x00"}, {"ann", strings.Repeat("p", 1<<16)},
		{"eve", "p"}, {"an", "p"}, {"annn", "p"}, {"Ann", "p"}, {"ANN", "p"}, {"p", "ann"}, {"inbox", "p"},
	} {
		x.plays(t, p, "user "+c.user, yes, "pass "+c.pass, no, "pass p", no, "pass Secret", no)
		expectUser(t, p, "")
		x.expectFree(t, "ann", "bob", "eve", c.user)
	}
	x.plays(t, p, "user ann", yes, "pass p", "+OK 1\r\n") // one that failed may go on
}

func TestPassOfNobody(t *testing.T) {
	x := begin(t)
	p := pop.New(1)
	for _, line := range []string{"pass", "pass ", "pass p", "pass ann", "PASS p"} {
		x.plays(t, p, line, no)
		x.expectFree(t, "", "ann")
	}
	expectUser(t, p, "")
}

func TestAnotherConnHasTheDrop(t *testing.T) {
	x := begin(t, "a", "b")
	first, second := x.logged(t, 1), pop.New(2)
	for range 2 {
		x.plays(t, second, "user ann", yes, "pass p", no, "pass p", no, "stat", no, "list", no, "retr 1", no, "dele 1", no)
		expectUser(t, second, "")
		x.expectHolder(t, "ann", 1)
	}
	x.plays(t, second, "user ann", yes, "pass q", no) // a wrong pass takes nothing, too
	x.plays(t, first, "stat", "+OK 2 2\r\n", "dele 1", yes)
	x.ends(t, first, "quit", yes)
	x.plays(t, second, "pass p", no, "user ann", yes, "pass p", "+OK 1\r\n")
	x.expectHolder(t, "ann", 2)
	x.ends(t, second, "quit", yes)
	x.l.Take("ann", 9) // whoever has it
	x.plays(t, pop.New(1), "user ann", yes, "pass p", no)
	x.l.Free(9)
	x.l.Take("ann", 4) // the same conn
	x.plays(t, pop.New(4), "user ann", yes, "pass p", "+OK 1\r\n")
}

func TestWrongPassTakesNothing(t *testing.T) {
	x := begin(t, "a")
	first, second := pop.New(1), pop.New(2)
	x.plays(t, first, "user ann", yes, "pass q", no)
	x.plays(t, second, "user ann", yes, "pass p", "+OK 1\r\n")
	x.expectHolder(t, "ann", 2)
}

func TestDropsOfTwoUsers(t *testing.T) {
	x := begin(t, "a", "b")
	x.enrol(t, "bob", "q", "ccc", "dddd", "e")
	p, q := x.logged(t, 1), pop.New(2)
	x.plays(t, q, "user bob", yes, "pass q", "+OK 3\r\n")
	x.plays(t, p, "uidl", yes+"1 1.1\r\n2 1.2\r\n.\r\n", "dele 1", yes)
	x.plays(t, q, "uidl", yes+"1 2.1\r\n2 2.2\r\n3 2.3\r\n.\r\n", "list 1", "+OK 1 3\r\n", "dele 2", yes, "stat", "+OK 2 4\r\n", "retr 1", yes+"ccc\r\n.\r\n")
	x.plays(t, p, "stat", "+OK 1 1\r\n")
	x.ends(t, p, "quit", yes)
	x.expectFree(t, "ann")
	x.expectHolder(t, "bob", 2)
	x.plays(t, q, "stat", "+OK 2 4\r\n")
	x.ends(t, q, "quit", yes)
	x.expectUIDs(t, "ann", 2)
	x.expectUIDs(t, "bob", 1, 3)
}

func TestAheadOfALogin(t *testing.T) {
	x := begin(t, "a", "b")
	b, _ := x.s.Get("ann", "inbox")
	p := pop.New(1)
	for _, line := range commands {
		want := no
		switch line {
		case "capa":
			want = able
		case "user ann":
			want = yes
		case "quit":
			x.ends(t, pop.New(1), line, yes)
			continue
		}
		x.plays(t, p, line, want)
		if line == "user ann" { // the next pass would log in
			x.plays(t, p, "pass", no)
		}
		expectUser(t, p, "")
		x.expectFree(t, "ann")
	}
	if now, _ := x.s.Get("ann", "inbox"); !box.Same(b, now) {
		t.Error(now)
	}
}

func TestQuitAheadOfALogin(t *testing.T) {
	x := begin(t, "a")
	x.ends(t, pop.New(1), "quit", yes)
	p := pop.New(1)
	x.plays(t, p, "quit 1", no, "quit quit", no, "user ann", yes)
	x.ends(t, p, " QUIT ", yes)
	x.expectFree(t, "ann")
	x.expectUIDs(t, "ann", 1)
}

// Nothing of another session's goes with a quit.
func TestQuitOfOneThatFailed(t *testing.T) {
	x := begin(t, "a")
	p, q := x.logged(t, 1), pop.New(2)
	x.plays(t, p, "dele 1", yes)
	x.plays(t, q, "user ann", yes, "pass p", no)
	x.ends(t, q, "quit", yes)
	x.expectHolder(t, "ann", 1)
	x.expectUIDs(t, "ann", 1)
	x.plays(t, p, "stat", "+OK 0 0\r\n")
}

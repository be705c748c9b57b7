package pop_test

import (
	"fmt"
	"strconv"
	"strings"
	"testing"

	"letterbox/api"
	"letterbox/pop"
	"letterbox/store"
)

// P16.2

func TestStat(t *testing.T) {
	for _, c := range []struct {
		bodies []string
		want   string
	}{
		{nil, "+OK 0 0\r\n"},
		{[]string{""}, "+OK 1 0\r\n"},
		{[]string{"a"}, "+OK 1 1\r\n"},
		{[]string{"a\n", ".\r\n", "\xff\x00"}, "+OK 3 7\r\n"}, // as they are, not as they are sent
		{many(api.MaxMsgs, api.MaxBody), "+OK 24 28800\r\n"},
	} {
		x := begin(t, c.bodies...)
		p := x.logged(t, 1)
		x.plays(t, p, "stat", c.want, "stat", c.want, "stat 1", no, "stat x", no, "stat 1 1", no, "STAT", c.want)
	}
	x := begin(t, "a", "bb", "cccc", "")
	p := x.logged(t, 1)
	x.plays(t, p, "dele 2", yes, "stat", "+OK 3 5\r\n", "dele 4", yes, "stat", "+OK 2 5\r\n", "dele 1", yes, "stat", "+OK 1 4\r\n", "dele 3", yes, "stat", "+OK 0 0\r\n", "rset", yes, "stat", "+OK 4 7\r\n")
}

// many is n bodies of so many bytes.
func many(n, size int) []string {
	l := make([]string, n)
	for i := range l {
		l[i] = strings.Repeat(string(rune('a'+i)), size)
	}
	return l
}

func TestListAndUidlOfNone(t *testing.T) {
	x := begin(t)
	p := x.logged(t, 1)
	x.plays(t, p, "list", yes+".\r\n", "uidl", yes+".\r\n", "list 1", no, "list 0", no, "uidl 1", no, "uidl 0", no, "retr 1", no, "top 1 0", no, "dele 1", no, "rset", yes)
}

func TestListAndUidl(t *testing.T) {
	x := begin(t, "a", "", strings.Repeat("c", 1200), "dd\n")
	x.enrol(t, "bob", "q", "x", "y", "z")
	x.expunge(t, "bob", 2)
	x.add(t, "bob", "last")
	p, q := x.logged(t, 1), pop.New(2)
	x.plays(t, p,
		"list", yes+"1 1\r\n2 0\r\n3 1200\r\n4 3\r\n.\r\n", "uidl", yes+"1 1.1\r\n2 1.2\r\n3 1.3\r\n4 1.4\r\n.\r\n",
		"list 1", "+OK 1 1\r\n", "list 2", "+OK 2 0\r\n", "list 3", "+OK 3 1200\r\n", "list 4", "+OK 4 3\r\n", "list 5", no,
		"uidl 1", "+OK 1 1.1\r\n", "uidl 4", "+OK 4 1.4\r\n", "uidl 5", no,
		"dele 1", yes, "dele 3", yes,
		"list", yes+"2 0\r\n4 3\r\n.\r\n", "uidl", yes+"2 1.2\r\n4 1.4\r\n.\r\n",
		"list 1", no, "list 2", "+OK 2 0\r\n", "list 3", no, "list 4", "+OK 4 3\r\n", "uidl 1", no, "uidl 2", "+OK 2 1.2\r\n", "uidl 3", no,
		"dele 2", yes, "dele 4", yes, "list", yes+".\r\n", "uidl", yes+".\r\n", "list 2", no, "uidl 4", no,
		"list 1 1", no, "uidl 1 1", no, "list 1 x", no)
	x.plays(t, q, "user bob", yes, "pass q", "+OK 3\r\n", // places are not UIDs
		"list", yes+"1 1\r\n2 1\r\n3 4\r\n.\r\n", "uidl", yes+"1 2.1\r\n2 2.3\r\n3 2.4\r\n.\r\n", "uidl 2", "+OK 2 2.3\r\n", "list 3", "+OK 3 4\r\n", "list 4", no, "uidl 4", no, "retr 2", yes+"z\r\n.\r\n")
}

// The validity is that of the inbox, whichever it is.
func TestValidity(t *testing.T) {
	x := begin(t)
	for n := range 60 {
		x.do(t, api.Change{Kind: api.ChangeCreate, User: "ann", Box: "old"})
		x.do(t, api.Change{Kind: api.ChangeDelete, User: "ann", Box: "old"})
		if n == 40 {
			x.enrol(t, "bob", "q", "a")
		}
	}
	x.add(t, "ann", "a")
	p, q := x.logged(t, 1), pop.New(2)
	x.plays(t, p, "uidl", yes+"1 1.1\r\n.\r\n")
	x.plays(t, q, "user bob", yes, "pass q", "+OK 1\r\n", "uidl", yes+"1 43.1\r\n.\r\n", "uidl 1", "+OK 1 43.1\r\n")
}

// The drop is of the inbox alone.
func TestOtherBoxes(t *testing.T) {
	x := begin(t, "a")
	x.do(t, api.Change{Kind: api.ChangeCreate, User: "ann", Box: "a"})
	x.do(t, api.Change{Kind: api.ChangeCreate, User: "ann", Box: "z"})
	x.do(t, api.Change{Kind: api.ChangeAppend, User: "ann", Box: "a", Body: []byte("of another")})
	x.do(t, api.Change{Kind: api.ChangeCopy, User: "ann", Box: "inbox", To: "z", UIDs: []int{1}})
	p := x.logged(t, 1)
	x.plays(t, p, "list", yes+"1 1\r\n.\r\n", "dele 1", yes)
	x.ends(t, p, "quit", yes)
	x.expectUIDs(t, "ann")
	for _, name := range []string{"a", "z"} {
		if b, _ := x.s.Get("ann", name); len(b.L) != 1 {
			t.Errorf("box %q: %v", name, b.L)
		}
	}
}

// expectPlace wants that a word tells a place that is there, or none, of all that ask for one.
func expectPlace(t *testing.T, x place, p *pop.Pop, word string, there int) {
	t.Helper()
	if there == 0 {
		x.plays(t, p, "list "+word, no, "uidl "+word, no, "retr "+word, no, "top "+word+" 1", no, "dele "+word, no)
		return
	}
	size := 30 + there - 1
	body := strings.Repeat(string(rune('a'+there-1)), size)
	x.plays(t, p, "list "+word, fmt.Sprintf("+OK %d %d\r\n", there, size), "uidl "+word, fmt.Sprintf("+OK %d 1.%d\r\n", there, there), "retr "+word, yes+body+"\r\n.\r\n", "top "+word+" 1", yes+body+"\r\n.\r\n")
	x.plays(t, p, "dele "+word, yes, "dele "+word, no, "rset", yes)
}

func TestPlaces(t *testing.T) {
	var bodies []string
	for i := range api.MaxMsgs {
		bodies = append(bodies, strings.Repeat(string(rune('a'+i)), 30+i))
	}
	x := begin(t, bodies...)
	p := x.logged(t, 1)
	for n := range api.MaxMsgs + 8 {
		there := n
		if n > api.MaxMsgs {
			there = 0
		}
		word := strconv.Itoa(n)
		for digits := range 12 {
			long := strings.Repeat("0", max(0, digits-len(word))) + word
			if len(long) <= 7 {
				expectPlace(t, x, p, long, there)
			} else {
				expectPlace(t, x, p, long, 0)
			}
		}
	}
	for _, word := range []string{
		"0", "00", "0000000", "00000000", "00000001", "9999999", "1000000", "10000000", "99999999", "4294967297", "18446744073709551617", "340282366920938463463374607431768211457", strings.Repeat("0", 1<<16) + "1",
		"+1", "-1", "+0", "-0", "1.", ".1", "1.0", "1e0", "0x1", "0b1", "0o1", "1_0", "_1", "1a", "a1", "a", "x", "1,", "1:2", "*", "1\t", "\t1", "1\x00", "\x001", "/", ":", "1/", "1:", "\xff", "\u0661", "\uff11", "\u00b9", "\u2460", "1\u0301", "'1'", "\"1\"", "#1", "one",
	} {
		expectPlace(t, x, p, word, 0)
	}
	x.plays(t, p, "stat", "+OK 24 996\r\n") // nothing was marked
}

// Each byte but the ten digits makes a word that is no number, wherever it stands.
func TestEachByteOfANumber(t *testing.T) {
	x := begin(t, "a\n\nb\nc\n")
	p := x.logged(t, 1)
	for c := range 256 {
		if c == ' ' {
			continue
		}
		digit := c >= '0' && c <= '9'
		for _, word := range []string{string([]byte{byte(c)}), "0" + string([]byte{byte(c)}), string([]byte{byte(c)}) + "1", "0" + string([]byte{byte(c)}) + "1"} {
			n, e := strconv.Atoi(word)
			if !digit {
				n, e = 0, strconv.ErrSyntax
			}
			wantPlace, wantTop := no, no
			if e == nil && n == 1 {
				wantPlace = "+OK 1 7\r\n"
			}
			if e == nil { // the first line is the head with the empty one
				wantTop = yes + strings.Join([]string{"a", "", "b", "c"}[:2+min(n, 2)], "\r\n") + "\r\n.\r\n"
			}
			x.plays(t, p, "list "+word, wantPlace, "top 1 "+word, wantTop)
		}
	}
}

func TestRetr(t *testing.T) {
	for _, c := range []struct{ body, want string }{
		{"", ".\r\n"}, {"a", "a\r\n.\r\n"}, {"a\n", "a\r\n.\r\n"}, {"a\r\n", "a\r\n.\r\n"}, {"\n", "\r\n.\r\n"}, {"\r\n\r\n", "\r\n\r\n.\r\n"}, {"a: b\r\n\r\nc", "a: b\r\n\r\nc\r\n.\r\n"},
		{".", "..\r\n.\r\n"}, {".\r\n", "..\r\n.\r\n"}, {"..\n", "...\r\n.\r\n"}, {".a\n.b\nc.\n..d\n .e", "..a\r\n..b\r\nc.\r\n...d\r\n .e\r\n.\r\n"}, {"a\r\n.\r\nb", "a\r\n..\r\nb\r\n.\r\n"},
		{"\x00\xff\r\r\n\xfe", "\x00\xff\r\r\n\xfe\r\n.\r\n"}, {"+OK\r\n-ERR", "+OK\r\n-ERR\r\n.\r\n"}, {strings.Repeat(".\n", 600), strings.Repeat("..\r\n", 600) + ".\r\n"},
	} {
		x := begin(t, "other", c.body, "more")
		p := x.logged(t, 1)
		x.plays(t, p, "retr 2", yes+c.want, "RETR 02", yes+c.want, "retr 1", yes+"other\r\n.\r\n", "retr 3", yes+"more\r\n.\r\n", "retr 4", no, "retr 0", no, "retr", no, "retr ", no, "retr 2 2", no, "retr 2 0", no, "retr 2 2 2", no)
		x.plays(t, p, "dele 2", yes, "retr 2", no, "retr 3", yes+"more\r\n.\r\n", "rset", yes, "retr 2", yes+c.want)
		x.ends(t, p, "quit", yes)
		if b, _ := x.s.Get("ann", "inbox"); len(b.L) != 3 || b.L[1].Flags != 0 { // telling marks nothing, Seen neither
			t.Error(b.L)
		}
	}
}

func TestTop(t *testing.T) {
	const head = "a: b\r\nc: d\r\n\r\n"
	x := begin(t, "a: b\nc: d\n\n.x\r\ny\n\nz", "no end\nof the head", "", "\nonly\nbody", "a: b\n\n")
	p := x.logged(t, 1)
	x.plays(t, p,
		"top 1 0", yes+head+".\r\n", "top 1 1", yes+head+"..x\r\n.\r\n", "top 1 2", yes+head+"..x\r\ny\r\n.\r\n", "top 1 3", yes+head+"..x\r\ny\r\n\r\n.\r\n",
		"top 1 4", yes+head+"..x\r\ny\r\n\r\nz\r\n.\r\n", "top 1 5", yes+head+"..x\r\ny\r\n\r\nz\r\n.\r\n", "top 1 9999999", yes+head+"..x\r\ny\r\n\r\nz\r\n.\r\n",
		"top 01 002", yes+head+"..x\r\ny\r\n.\r\n", "top 0000001 0000000", yes+head+".\r\n", "top 1 0000001", yes+head+"..x\r\n.\r\n", "top 1 00000001", no, "top 00000001 1", no, "top 1 10000000", no, "top 1 18446744073709551616", no,
		"top 2 0", yes+"no end\r\nof the head\r\n.\r\n", "top 2 1", yes+"no end\r\nof the head\r\n.\r\n", "top 3 0", yes+".\r\n", "top 3 5", yes+".\r\n", "top 4 0", yes+"\r\n.\r\n", "top 4 1", yes+"\r\nonly\r\n.\r\n", "top 4 2", yes+"\r\nonly\r\nbody\r\n.\r\n", "top 5 0", yes+"a: b\r\n\r\n.\r\n", "top 5 1", yes+"a: b\r\n\r\n.\r\n",
		"top", no, "top 1", no, "top 1 ", no, "top 1 1 1", no, "top 1 1 1 1", no, "top 0 0", no, "top 6 0", no, "top 1 -1", no, "top 1 +1", no, "top 1 x", no, "top x 1", no, "top x x", no, "top 1 1.", no, "top 1 *", no, "top 6 x", no,
		"dele 1", yes, "top 1 0", no, "top 1 1", no, "top 2 0", yes+"no end\r\nof the head\r\n.\r\n", "rset", yes, "top 1 0", yes+head+".\r\n")
}

func TestDele(t *testing.T) {
	x := begin(t, "a", "bb", "ccc")
	p := x.logged(t, 1)
	x.plays(t, p, "dele", no, "dele ", no, "dele 0", no, "dele 4", no, "dele x", no, "dele 1 2", no, "dele 1 1", no, "dele 1 x", no, "stat", "+OK 3 6\r\n")
	x.plays(t, p, "dele 2", yes, "dele 2", no, "dele 02", no, "list", yes+"1 1\r\n3 3\r\n.\r\n", "dele 3", yes, "dele 1", yes, "dele 1", no, "dele 2", no, "dele 3", no, "list", yes+".\r\n")
	x.expectUIDs(t, "ann", 1, 2, 3) // ahead of the quit nothing goes
}

func TestRset(t *testing.T) {
	x := begin(t, "a", "bb", "ccc")
	p := x.logged(t, 1)
	x.plays(t, p, "rset", yes, "stat", "+OK 3 6\r\n", "dele 1", yes, "dele 3", yes, "rset 1", no, "rset x", no, "rset 1 3", no, "stat", "+OK 1 2\r\n")
	x.plays(t, p, "rset", yes, "stat", "+OK 3 6\r\n", "list 1", "+OK 1 1\r\n", "list 3", "+OK 3 3\r\n", "rset", yes, "dele 2", yes, "stat", "+OK 2 4\r\n")
	x.ends(t, p, "quit", yes)
	x.expectUIDs(t, "ann", 1, 3)
	p = x.logged(t, 1)
	x.plays(t, p, "dele 1", yes, "dele 2", yes, "rset", yes)
	x.ends(t, p, "quit", yes)
	x.expectUIDs(t, "ann", 1, 3)
}

func TestNoopAndCapa(t *testing.T) {
	x := begin(t, "a")
	p := x.logged(t, 1)
	x.plays(t, p, "noop", yes, "noop 1", no, "noop noop", no, "capa", able, "capa 1", no, "capa capa", no, "dele 1", yes, "noop", yes, "capa", able, "stat", "+OK 0 0\r\n")
}

func TestAllElse(t *testing.T) {
	x := begin(t, "a", "b")
	p := x.logged(t, 1)
	x.plays(t, p, "dele 2", yes)
	for _, line := range []string{
		"", " ", "    ", "user ann", "user", "user bob", "pass p", "pass", "pass q", "what", "apop ann x", "auth", "last", "stls", "stats", "sta", "stat1", "list1", "dele1", "retr1", "1", "1 list", "top1 1", ".", "+OK", "quit1", "quit 1", "quit now", "quit quit", "qui t", "no op", "stat stat", "list list", "-", "\x00", "\xff stat", "stat\r", strings.Repeat("stat ", 1<<12), strings.Repeat("x", 1<<20), strings.Repeat(" ", 1<<20),
	} {
		x.plays(t, p, line, no)
		expectUser(t, p, "ann")
	}
	x.plays(t, p, "stat", "+OK 1 1\r\n")
	x.expectHolder(t, "ann", 1)
	x.plays(t, p, strings.Repeat(" ", 1<<16)+"stat"+strings.Repeat(" ", 1<<16), "+OK 1 1\r\n", "list"+strings.Repeat(" ", 1<<16)+"1"+strings.Repeat(" ", 1<<16), "+OK 1 1\r\n")
}

func TestQuit(t *testing.T) {
	for marks := range 1 << 5 {
		x := begin(t, "1", "2", "3", "4", "5")
		x.expunge(t, "ann", 2)
		x.add(t, "ann", "6")
		uids := []int{1, 3, 4, 5, 6}
		p := x.logged(t, 1)
		var stay []int
		for at := range 5 {
			n := (at*3)%5 + 1 // in an order that does not rise
			if marks>>(n-1)&1 == 1 {
				x.plays(t, p, fmt.Sprint("dele ", n), yes)
			}
		}
		for at, uid := range uids {
			if marks>>at&1 == 0 {
				stay = append(stay, uid)
			}
		}
		x.expectUIDs(t, "ann", uids...)
		x.expectHolder(t, "ann", 1)
		x.ends(t, p, "quit", yes)
		x.expectUIDs(t, "ann", stay...)
		x.expectFree(t, "ann")
	}
}

func TestQuitOfMaxMsgs(t *testing.T) {
	x := begin(t, many(api.MaxMsgs, 3)...)
	p := x.logged(t, 1)
	for n := range api.MaxMsgs {
		x.plays(t, p, fmt.Sprint("dele ", n+1), yes)
	}
	x.ends(t, p, "quit", yes)
	x.expectUIDs(t, "ann")
}

// Where none is marked the store is asked for nothing: a disk that does nothing is not told.
func TestQuitOfNone(t *testing.T) {
	x := begin(t, "a")
	p := x.logged(t, 1)
	x.plays(t, p, "dele 1", yes, "rset", yes)
	x.d.Fuse(0)
	x.ends(t, p, "quit", yes)
	if x.s.Dead() {
		t.Error("something was done")
	}
	x.expectFree(t, "ann")
}

func TestQuitWhereTheDoErrs(t *testing.T) {
	x := begin(t, "a", "b")
	p := x.logged(t, 1)
	x.plays(t, p, "dele 1", yes)
	x.d.Fuse(0)
	x.plays(t, p, "stat", "+OK 1 1\r\n", "quit 1", no)
	x.expectHolder(t, "ann", 1)
	x.ends(t, p, "quit", no)
	if !x.s.Dead() {
		t.Error("nothing was done")
	}
	x.expectFree(t, "ann")
	x.expectUIDs(t, "ann", 1, 2)
	q := x.logged(t, 2) // of a dead store, too
	x.plays(t, q, "retr 1", yes+"a\r\n.\r\n")
	x.ends(t, q, "quit", yes)
	q = x.logged(t, 2)
	x.plays(t, q, "dele 2", yes)
	x.ends(t, q, "quit", no)
	x.expectFree(t, "ann")
	x.expectUIDs(t, "ann", 1, 2)
}

// P0.1: wherever the fuse burns, all that is marked goes, or nothing.
func TestQuitWhereTheFuseBurns(t *testing.T) {
	seen := map[string]int{}
	for fuse := range 40 {
		for draw := range 6 {
			x := begin(t, "a", "b", "c", "d")
			for range 14 { // so that an image comes with the quit
				x.do(t, api.Change{Kind: api.ChangeMark, User: "ann", Box: "inbox", UIDs: []int{1}, Mode: api.ModeAdd, Flags: api.Seen})
			}
			p := x.logged(t, 1)
			x.plays(t, p, "dele 1", yes, "dele 3", yes)
			x.d.Fuse(fuse)
			want := yes
			answer, over := p.Take([]byte("quit"), x.s, x.l)
			if x.s.Dead() { // the Do erred
				want = no
			}
			if answer != want || !over {
				t.Errorf("fuse %d: %q, %t; want %q", fuse, answer, over, want)
			}
			x.expectFree(t, "ann")
			x.d.Crash(draw * 7)
			s, e := store.Open(x.d)
			if e != api.OK {
				t.Fatal(e)
			}
			x.s = s
			if answer == yes || len(x.uids("ann")) == 2 {
				x.expectUIDs(t, "ann", 2, 4)
			} else {
				x.expectUIDs(t, "ann", 1, 2, 3, 4)
			}
			seen[fmt.Sprint(answer, len(x.uids("ann")))]++
		}
	}
	if len(seen) != 3 { // a no where the image alone was not written is of a change that is done all the same
		t.Errorf("the test's own: %v", seen)
	}
}

// The drop is what it was: what comes into the box or leaves it is not told, and what came stays.
func TestDropStays(t *testing.T) {
	x := begin(t, "one", "two", "three")
	p := x.logged(t, 1)
	x.add(t, "ann", "late")
	x.expunge(t, "ann", 2)
	x.do(t, api.Change{Kind: api.ChangeMark, User: "ann", Box: "inbox", UIDs: []int{1}, Mode: api.ModeSet, Flags: api.AllFlags})
	told := []string{"stat", "+OK 3 11\r\n", "list", yes + "1 3\r\n2 3\r\n3 5\r\n.\r\n", "uidl", yes + "1 1.1\r\n2 1.2\r\n3 1.3\r\n.\r\n", "retr 2", yes + "two\r\n.\r\n", "top 2 9", yes + "two\r\n.\r\n", "retr 3", yes + "three\r\n.\r\n", "list 4", no, "retr 4", no, "dele 4", no}
	x.plays(t, p, told...)
	x.expunge(t, "ann", 1, 3, 4)
	x.add(t, "ann", "later")
	x.plays(t, p, told...)
	x.plays(t, p, "dele 2", yes, "dele 3", yes, "rset", yes)
	x.plays(t, p, told...)
	x.plays(t, p, "dele 1", yes, "dele 2", yes)
	x.ends(t, p, "quit", yes) // of what is gone already, too
	x.expectUIDs(t, "ann", 5)
	q := x.logged(t, 1)
	x.plays(t, q, "list", yes+"1 5\r\n.\r\n", "uidl", yes+"1 1.5\r\n.\r\n", "retr 1", yes+"later\r\n.\r\n")
}

func TestQuitOfSomeThatAreGone(t *testing.T) {
	x := begin(t, "one", "two", "three", "four")
	p := x.logged(t, 1)
	x.plays(t, p, "dele 1", yes, "dele 3", yes)
	x.expunge(t, "ann", 1, 2)
	x.add(t, "ann", "five")
	x.ends(t, p, "quit", yes)
	x.expectUIDs(t, "ann", 4, 5)
}

// A drop that was left without a quit keeps all.
func TestNoQuit(t *testing.T) {
	x := begin(t, "one", "two")
	p := x.logged(t, 1)
	x.plays(t, p, "dele 1", yes, "dele 2", yes)
	x.l.Free(1)
	q := x.logged(t, 2)
	x.plays(t, q, "stat", "+OK 2 6\r\n")
	x.ends(t, q, "quit", yes)
	x.expectUIDs(t, "ann", 1, 2)
}

// Behind its quit a session is over, and nothing happens to it.
func TestBehindQuit(t *testing.T) {
	x := begin(t, "a", "b")
	never, was := pop.New(1), x.logged(t, 2)
	x.plays(t, never, "user ann", yes)
	x.ends(t, never, "quit", yes)
	x.plays(t, was, "dele 1", yes)
	x.ends(t, was, "quit", yes)
	x.expectUIDs(t, "ann", 2)
	now := x.logged(t, 2) // the next one of that conn
	x.plays(t, now, "dele 1", yes)
	for _, p := range []*pop.Pop{never, was} {
		for _, line := range append(commands, "user ann", "pass p", "stat", "dele 1", "quit") {
			x.ends(t, p, line, no)
			expectUser(t, p, "")
			if p.Long() != no {
				t.Error("Long")
			}
		}
	}
	x.expectHolder(t, "ann", 2)
	x.expectUIDs(t, "ann", 2)
	x.plays(t, now, "stat", "+OK 0 0\r\n")
}

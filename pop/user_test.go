package pop_test

import (
	"bytes"
	"slices"
	"strings"
	"testing"

	"letterbox/api"
	"letterbox/lock"
	"letterbox/pop"
	"letterbox/store"
)

// P16.3

func TestUser(t *testing.T) {
	x := begin(t, "a")
	x.enrol(t, "bob", "q")
	p := pop.New(1)
	expectUser(t, p, "")
	x.plays(t, p, "user ann", yes)
	expectUser(t, p, "")
	x.plays(t, p, "pass q", no)
	expectUser(t, p, "")
	x.plays(t, p, "user eve", yes, "pass p", no)
	expectUser(t, p, "")
	x.l.Take("ann", 2)
	x.plays(t, p, "user ann", yes, "pass p", no)
	expectUser(t, p, "")
	x.l.Free(2)
	x.plays(t, p, "user bob", yes, "user ann", yes, "pass p", "+OK 1\r\n")
	expectUser(t, p, "ann")
	x.plays(t, p, "user bob", no, "pass q", no, "stat", "+OK 1 1\r\n", "dele 1", yes, "what", no)
	expectUser(t, p, "ann")
}

// P16.4

// Ahead of a login there are three answers, whatever a box has, and nothing of a store or a lock is changed.
func TestNothingIsTold(t *testing.T) {
	full, empty := begin(t, many(api.MaxMsgs, 7)...), begin(t)
	p, q := pop.New(1), pop.New(1)
	words := []string{"user", "pass", "ann", "eve", "q", "stat", "list", "uidl", "retr", "top", "dele", "rset", "noop", "capa", "1", "0", "", "inbox"}
	var told func(line string, deep int)
	told = func(line string, deep int) {
		a, over := p.Take([]byte(line), full.s, full.l)
		b, _ := q.Take([]byte(line), empty.s, empty.l)
		if a != b || over || (a != yes && a != no && a != able) {
			t.Errorf("%q: %q, %q, %t", line, a, b, over)
		}
		if deep == 0 {
			return
		}
		for _, word := range words {
			told(line+" "+word, deep-1)
		}
	}
	for _, word := range words {
		told(word, 3)
	}
	expectUser(t, p, "")
	full.expectFree(t, "ann", "eve", "")
	if len(full.uids("ann")) != api.MaxMsgs {
		t.Error(full.uids("ann"))
	}
}

// Behind a login nothing of another user is told or changed.
func TestOnesOwn(t *testing.T) {
	x := begin(t, "a")
	x.enrol(t, "bob", "q", "b", "bb", "bbb")
	before, _ := x.s.Get("bob", "inbox")
	p := x.logged(t, 1)
	x.plays(t, p, "list", yes+"1 1\r\n.\r\n", "retr 1", yes+"a\r\n.\r\n", "retr 2", no, "user bob", no, "pass q", no, "stat", "+OK 1 1\r\n", "dele 1", yes)
	x.ends(t, p, "quit", yes)
	if now, _ := x.s.Get("bob", "inbox"); len(now.L) != 3 || now.Next != before.Next {
		t.Error(now)
	}
	x.expectFree(t, "ann", "bob")
}

func TestNilPop(t *testing.T) {
	x := begin(t, "a")
	var p *pop.Pop
	for _, line := range commands {
		x.ends(t, p, line, no)
		expectUser(t, p, "")
	}
	if a, over := p.Take(nil, nil, nil); a != no || !over {
		t.Errorf("%q, %t", a, over)
	}
	if p.Long() != no {
		t.Error("Long")
	}
	x.expectFree(t, "ann", "")
	x.expectUIDs(t, "ann", 1)
}

// One that New did not make is one at its beginning.
func TestZeroValue(t *testing.T) {
	x := begin(t, "a")
	var p pop.Pop
	expectUser(t, &p, "")
	x.plays(t, &p, "stat", no, "pass p", no, "user ann", yes, "pass p", "+OK 1\r\n")
	x.expectHolder(t, "ann", 0)
	x.ends(t, &p, "quit", yes)
}

// Of a nil Store no Check is true, and no Take of nil Locks.
func TestNilStoreAndNilLocks(t *testing.T) {
	x := begin(t, "a")
	for _, y := range []place{{x.d, nil, x.l}, {x.d, x.s, nil}, {x.d, nil, nil}} {
		p := pop.New(1)
		y.plays(t, p, "", no, "capa", able, "stat", no, "user ann", yes, "pass p", no)
		expectUser(t, p, "")
		x.expectFree(t, "ann")
		x.plays(t, p, "pass p", no) // nobody is remembered behind that pass, too
		y.plays(t, p, "user ann", yes)
		y.ends(t, p, "quit", yes)
	}
}

// Behind a login neither of them is asked for anything but with quit.
func TestNilStoreAndNilLocksBehindALogin(t *testing.T) {
	for _, marked := range []bool{false, true} {
		for _, hasStore := range []bool{false, true} {
			for _, hasLocks := range []bool{false, true} {
				x := begin(t, "a", "bb")
				y := x
				p := x.logged(t, 1)
				want := yes
				if !hasStore {
					y.s = nil
				}
				if !hasLocks {
					y.l = nil
				}
				y.plays(t, p, "stat", "+OK 2 3\r\n", "list", yes+"1 1\r\n2 2\r\n.\r\n", "uidl 2", "+OK 2 1.2\r\n", "retr 2", yes+"bb\r\n.\r\n", "top 1 1", yes+"a\r\n.\r\n", "dele 1", yes, "rset", yes, "noop", yes, "capa", able)
				if marked {
					y.plays(t, p, "dele 2", yes)
				}
				if marked && !hasStore {
					want = no
				}
				y.ends(t, p, "quit", want)
				if hasLocks {
					x.expectFree(t, "ann")
				} else {
					x.expectHolder(t, "ann", 1)
				}
				if marked && hasStore {
					x.expectUIDs(t, "ann", 1)
				} else {
					x.expectUIDs(t, "ann", 1, 2)
				}
			}
		}
	}
}

// What holds everywhere

// The store and the locks that are handed in with a line are those that it is done with.
func TestStoreAndLocksAreNotKept(t *testing.T) {
	x, y := begin(t, "a", "b", "c"), begin(t, "d", "e")
	p := pop.New(1)
	y.plays(t, p, "user ann", yes)
	x.plays(t, p, "pass p", "+OK 3\r\n")
	y.expectFree(t, "ann")
	y.l.Take("ann", 1)
	y.plays(t, p, "stat", "+OK 3 3\r\n", "retr 1", yes+"a\r\n.\r\n", "dele 2", yes)
	y.ends(t, p, "quit", yes)
	x.expectUIDs(t, "ann", 1, 2, 3)
	x.expectHolder(t, "ann", 1)
	y.expectUIDs(t, "ann", 1)
	y.expectFree(t, "ann")
}

// A line stays what it is, its spare room too, and may be written to when it was taken.
func TestLinesAreNeitherChangedNorKept(t *testing.T) {
	x := begin(t, "a: b\n\n.c\nd", "e")
	p := pop.New(1)
	const spare = "spare room"
	room := make([]byte, 200)
	take := func(line, want string, wantOver bool) {
		t.Helper()
		n := copy(room, line)
		copy(room[n:], spare)
		if got, over := p.Take(room[:n], x.s, x.l); got != want || over != wantOver {
			t.Errorf("%q: %q, %t", line, got, over)
		}
		if !bytes.HasPrefix(room, []byte(line+spare)) {
			t.Errorf("%q became %q", line, room)
		}
		for i := range room {
			room[i] = '#'
		}
	}
	take("  USER   ann ", yes, false)
	take(" PASS p", "+OK 2\r\n", false)
	take("LIST 1", "+OK 1 10\r\n", false)
	take("TOP  1 1 ", yes+"a: b\r\n\r\n..c\r\n.\r\n", false)
	take("Retr 1", yes+"a: b\r\n\r\n..c\r\nd\r\n.\r\n", false)
	take("DELE 1", yes, false)
	take("UIDL", yes+"2 1.2\r\n.\r\n", false)
	expectUser(t, p, "ann")
	x.expectHolder(t, "ann", 1)
	take("Quit  ", yes, true)
	x.expectUIDs(t, "ann", 2)
}

// What was answered stays what it is, whatever is called later.
func TestAnswersStay(t *testing.T) {
	x := begin(t, "one", "two")
	p := pop.New(1)
	var answers, copies []string
	keep := func(a string) {
		answers, copies = append(answers, a), append(copies, strings.Clone(a))
	}
	for _, line := range []string{"user ann", "pass p", "list", "uidl", "retr 1", "top 2 1", "stat", "capa", "dele 1", "list", "rset", "list 1", "dele 2", "quit", "stat"} {
		a, _ := p.Take([]byte(line), x.s, x.l)
		keep(a)
		keep(p.User())
		keep(p.Long())
		keep(pop.Greet())
	}
	x.expunge(t, "ann", 1)
	if !slices.Equal(answers, copies) {
		t.Errorf("%q", answers)
	}
}

// Two sessions share nothing.
func TestTwins(t *testing.T) {
	lines := []string{"user ann", "pass p", "dele 1", "list", "uidl", "dele 3", "retr 2", "rset", "stat", "dele 2", "quit", "stat"}
	x, y := begin(t, "a", "b", "c"), begin(t, "a", "b", "c")
	p, q := pop.New(1), pop.New(1)
	var first []string
	for _, line := range lines {
		a, _ := p.Take([]byte(line), x.s, x.l)
		first = append(first, a)
	}
	for i, line := range lines {
		if a, _ := q.Take([]byte(line), y.s, y.l); a != first[i] {
			t.Errorf("%q: %q, %q", line, a, first[i])
		}
	}
}

func TestNilLine(t *testing.T) {
	x := begin(t, "a")
	p := pop.New(1)
	for _, line := range [][]byte{nil, {}} {
		if a, over := p.Take(line, x.s, x.l); a != no || over {
			t.Errorf("%q, %t", a, over)
		}
	}
	p = x.logged(t, 1)
	for _, line := range [][]byte{nil, {}} {
		if a, over := p.Take(line, x.s, x.l); a != no || over {
			t.Errorf("%q, %t", a, over)
		}
	}
}

// Very long lines of very many words are no commands, and are gone along in no time.
func TestVeryLongLines(t *testing.T) {
	var s *store.Store
	var l *lock.Locks
	for _, word := range []string{" ", "x", "x ", " x", "list ", "1 "} {
		p := pop.New(1)
		if a, over := p.Take([]byte(strings.Repeat(word, 1<<22)), s, l); a != no || over {
			t.Errorf("%q: %q, %t", word, a, over)
		}
	}
}

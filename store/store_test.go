package store_test

import (
	"fmt"
	"slices"
	"strings"
	"testing"

	"letterbox/api"
	"letterbox/store"
)

// P14.1

// step is a change, and what it answers.
type step struct {
	c api.Change
	n int
	e api.Errno
}

// does does changes, and wants of the store what the plain state is behind each.
func does(t *testing.T, l ...step) {
	t.Helper()
	s, d := fresh(t)
	now := empty()
	for i, x := range l {
		what := fmt.Sprint("step ", i)
		behind, n, e := now.after(x.c)
		if n != x.n || e != x.e {
			t.Errorf("the test's own: %s: %d, error %d; want %d, error %d", what, n, e, x.n, x.e)
		}
		expectDone(t, what, s, d, x.c, x.n, x.e)
		now = behind
		expectTold(t, what, s, now)
	}
	expectTold(t, "opened again", opened(t, "again", d), now)
}

func TestExample(t *testing.T) {
	does(t, step{enrol("a", "p"), 0, api.OK}, step{add("a", "inbox", 0, 0, ""), 1, api.OK}, step{add("a", "inbox", 0, 0, ""), 2, api.OK})
}

func TestUser(t *testing.T) {
	does(t,
		step{enrol("b", "pw"), 0, api.OK},
		step{enrol("b", "pw"), 0, api.ErrHas},
		step{enrol("b", "other"), 0, api.ErrHas},
		step{enrol("a", "pw"), 0, api.OK},
		step{enrol("abcdefghijkl", "!~!~!~!~!~!~"), 0, api.OK},
		step{enrol("0", "0"), 0, api.OK}, // MaxUsers
		step{enrol("1", "1"), 0, api.ErrFull},
		step{enrol("b", "pw"), 0, api.ErrHas},
		step{enrol("1", ""), 0, api.ErrArg},
	)
}

func TestCreate(t *testing.T) {
	does(t,
		step{create("a", "x"), 0, api.ErrNone},
		step{create("a", "inbox"), 0, api.ErrNone},
		step{enrol("a", "p"), 0, api.OK},
		step{create("a", "inbox"), 0, api.ErrHas},
		step{create("a", "x"), 0, api.OK},
		step{create("a", "x"), 0, api.ErrHas},
		step{create("b", "x"), 0, api.ErrNone},
		step{create("a", "0"), 0, api.OK},
		step{create("a", "zzzzzzzzzzzz"), 0, api.OK}, // MaxBoxes
		step{create("a", "y"), 0, api.ErrFull},
		step{create("a", "x"), 0, api.ErrHas},
		step{create("a", "Y"), 0, api.ErrArg},
		step{enrol("b", "p"), 0, api.OK},
		step{create("b", "x"), 0, api.OK}, // each user has MaxBoxes
	)
}

func TestDelete(t *testing.T) {
	does(t,
		step{remove("a", "inbox"), 0, api.ErrNone},
		step{enrol("a", "p"), 0, api.OK},
		step{enrol("b", "p"), 0, api.OK},
		step{remove("a", "inbox"), 0, api.ErrHeld},
		step{remove("a", "x"), 0, api.ErrNone},
		step{create("a", "x"), 0, api.OK},
		step{remove("b", "x"), 0, api.ErrNone},
		step{remove("c", "x"), 0, api.ErrNone},
		step{remove("c", "inbox"), 0, api.ErrNone},
		step{add("a", "x", 1, 2, "gone"), 1, api.OK},
		step{remove("a", "x"), 0, api.OK},
		step{remove("a", "x"), 0, api.ErrNone},
		step{add("a", "x", 1, 2, "gone"), 0, api.ErrNone},
		step{create("a", "x"), 0, api.OK}, // a new one: another validity, and no message
		step{add("a", "x", 1, 2, "new"), 1, api.OK},
	)
}

func TestRename(t *testing.T) {
	does(t,
		step{rename("a", "x", "y"), 0, api.ErrNone},
		step{enrol("a", "p"), 0, api.OK},
		step{enrol("b", "p"), 0, api.OK},
		step{rename("a", "x", "y"), 0, api.ErrNone},
		step{rename("a", "x", "inbox"), 0, api.ErrNone},
		step{rename("a", "inbox", "y"), 0, api.ErrHeld},
		step{rename("a", "inbox", "inbox"), 0, api.ErrHeld},
		step{create("a", "x"), 0, api.OK},
		step{create("a", "z"), 0, api.OK},
		step{add("a", "x", 1, 2, "stays"), 1, api.OK},
		step{add("a", "x", 3, 4, "stays too"), 2, api.OK},
		step{rename("a", "inbox", "x"), 0, api.ErrHeld},
		step{rename("a", "x", "z"), 0, api.ErrHas},
		step{rename("a", "x", "x"), 0, api.ErrHas},
		step{rename("a", "x", "inbox"), 0, api.ErrHas},
		step{rename("b", "x", "y"), 0, api.ErrNone},
		step{rename("c", "x", "y"), 0, api.ErrNone},
		step{rename("a", "y", "x"), 0, api.ErrNone},
		step{create("a", "w"), 0, api.OK}, // MaxBoxes: there is room for another name
		step{rename("a", "x", "y"), 0, api.OK},
		step{add("a", "x", 0, 0, ""), 0, api.ErrNone},
		step{add("a", "y", 0, 0, ""), 3, api.OK},
		step{rename("a", "z", "x"), 0, api.OK},
		step{rename("a", "y", "z"), 0, api.OK},
	)
}

func TestAppend(t *testing.T) {
	does(t,
		step{add("a", "inbox", 0, 0, ""), 0, api.ErrNone},
		step{enrol("a", "p"), 0, api.OK},
		step{enrol("b", "p"), 0, api.OK},
		step{add("a", "x", 0, 0, ""), 0, api.ErrNone},
		step{add("c", "inbox", 0, 0, ""), 0, api.ErrNone},
		step{add("a", "inbox", 0, 0, ""), 1, api.OK},
		step{add("a", "inbox", 31, api.MaxDate, strings.Repeat("\xff", api.MaxBody)), 2, api.OK},
		step{add("b", "inbox", 9, 300, "b's"), 1, api.OK},
		step{add("a", "inbox", 16, 1, "\x00\r\n"), 3, api.OK},
		step{add("a", "inbox", 32, 1, ""), 0, api.ErrArg},
		step{add("a", "inbox", 0, 0, strings.Repeat("x", api.MaxBody+1)), 0, api.ErrArg},
		step{add("a", "inbox", 0, 0, "next"), 4, api.OK},
	)
}

// plainOf is a state of a and b with these boxes of a's.
func plainOf(next int, boxes ...api.Box) plain {
	p := empty()
	p.next = next
	p.users["b"] = plainUser{"pw", map[string]api.Box{"inbox": {Name: "inbox", Validity: 1, Next: 1}}}
	p.users["a"] = plainUser{"pw", map[string]api.Box{"inbox": {Name: "inbox", Validity: 2, Next: 1}}}
	for i, b := range boxes {
		b.Validity = 3 + i
		p.users["a"].boxes[b.Name] = b
	}
	return p
}

// boxOf is a box with messages of the UIDs from 1 to n.
func boxOf(name string, next, n int) api.Box {
	b := api.Box{Name: name, Next: next}
	for uid := 1; uid <= n; uid++ {
		b.L = append(b.L, api.Message{UID: uid, Flags: uid % 32, Date: uid * 3, Body: []byte(strings.Repeat("b", uid%4))})
	}
	return b
}

// expectOf wants of stores of a state what a change answers and makes of it, now and once they are opened again.
func expectOf(t *testing.T, what string, p plain, c api.Change, n int, e api.Errno) {
	t.Helper()
	s, d := of(t, p)
	expectDone(t, what, s, d, c, n, e)
	behind, plainN, plainE := p.after(c)
	if plainN != n || plainE != e {
		t.Errorf("the test's own: %s: %d, error %d; want %d, error %d", what, plainN, plainE, n, e)
	}
	expectTold(t, what, s, behind)
	expectTold(t, what+", opened again", opened(t, what, d), behind)
}

func TestAppendErrs(t *testing.T) {
	for n := range api.MaxMsgs {
		expectOf(t, "room for one more", plainOf(9, boxOf("x", 30, n)), add("a", "x", 1, 2, "new"), 30, api.OK)
	}
	full := plainOf(9, boxOf("x", 30, api.MaxMsgs))
	expectOf(t, "MaxMsgs", full, add("a", "x", 1, 2, "new"), 0, api.ErrFull)
	expectOf(t, "MaxMsgs in another", full, add("a", "inbox", 1, 2, "new"), 1, api.OK)
	expectOf(t, "MaxUID", plainOf(9, boxOf("x", api.MaxUID, 3)), add("a", "x", 1, 2, "new"), 0, api.ErrUsed)
	expectOf(t, "MaxUID, and MaxMsgs", plainOf(9, boxOf("x", api.MaxUID, api.MaxMsgs)), add("a", "x", 1, 2, "new"), 0, api.ErrFull)
	expectOf(t, "one below MaxUID", plainOf(9, boxOf("x", api.MaxUID-1, 3)), add("a", "x", 1, 2, "new"), api.MaxUID-1, api.OK)
}

func TestLastValidities(t *testing.T) {
	last := plainOf(api.MaxUID - 1)
	expectOf(t, "a user of the last validity", last, enrol("c", "p"), 0, api.OK)
	expectOf(t, "a box of the last validity", last, create("a", "x"), 0, api.OK)
	none := plainOf(api.MaxUID)
	expectOf(t, "a user of none", none, enrol("c", "p"), 0, api.ErrUsed)
	expectOf(t, "a box of none", none, create("a", "x"), 0, api.ErrUsed)
	expectOf(t, "a message", none, add("a", "inbox", 0, 0, ""), 1, api.OK)
	for _, c := range []api.Change{enrol("c", "p"), create("a", "x")} {
		s, d := of(t, last)
		expectDone(t, "the last validity", s, d, c, 0, api.OK)
		expectDone(t, "behind the last validity", s, d, enrol("d", "p"), 0, api.ErrUsed)
		expectDone(t, "behind the last validity", s, d, create("a", "y"), 0, api.ErrUsed)
		expectDone(t, "opened behind the last validity", opened(t, "again", d), d, create("a", "y"), 0, api.ErrUsed)
	}
	s, _ := of(t, last)
	s.Do(create("a", "x"))
	if b, is := s.Get("a", "x"); !is || b.Validity != api.MaxUID-1 {
		t.Errorf("the last validity is %d", b.Validity)
	}
}

func TestMark(t *testing.T) {
	some := plainOf(9, boxOf("x", 30, 5)) // flags 1, 2, 3, 4, 5
	for _, c := range []struct {
		mode, flags int
		uids        []int
		n           int
	}{
		{api.ModeAdd, 1, []int{1, 2, 3, 4, 5}, 2},
		{api.ModeAdd, 1, []int{1, 3, 5}, 0},
		{api.ModeSub, 1, []int{1, 2, 3, 4, 5}, 3},
		{api.ModeSub, 24, []int{1, 2, 3, 4, 5}, 0},
		{api.ModeSet, 2, []int{1, 2, 3, 4, 5}, 4},
		{api.ModeSet, 0, []int{1, 2, 3, 4, 5}, 5},
		{api.ModeSet, 31, []int{2, 4}, 2},
		{api.ModeSet, 31, []int{2, 4, 6, 29, 30, 31, api.MaxUID}, 2},
		{api.ModeSet, 31, []int{6, 7, api.MaxUID}, 0},
		{api.ModeSet, 31, nil, 0},
		{api.ModeAdd, 0, []int{1, 2}, 0},
	} {
		expectOf(t, fmt.Sprint("Mark ", c), some, marking("a", "x", c.mode, c.flags, c.uids...), c.n, api.OK)
		expectOf(t, "Mark of an empty box", some, marking("a", "inbox", c.mode, c.flags, c.uids...), 0, api.OK)
		expectOf(t, "Mark of no box", some, marking("a", "y", c.mode, c.flags, c.uids...), 0, api.ErrNone)
		expectOf(t, "Mark of another's box", some, marking("b", "x", c.mode, c.flags, c.uids...), 0, api.ErrNone)
		expectOf(t, "Mark of no user", some, marking("c", "inbox", c.mode, c.flags, c.uids...), 0, api.ErrNone)
	}
}

func TestExpunge(t *testing.T) {
	some := plainOf(9, boxOf("x", 30, 5))
	for _, c := range []struct {
		uids []int
		n    int
	}{
		{nil, 0}, {[]int{1}, 1}, {[]int{5}, 1}, {[]int{2, 4}, 2}, {[]int{1, 2, 3, 4, 5}, 5}, {[]int{5, 6, 29, 30}, 1}, {[]int{6, api.MaxUID}, 0},
	} {
		expectOf(t, fmt.Sprint("Expunge ", c), some, expunge("a", "x", c.uids...), c.n, api.OK)
		expectOf(t, "Expunge of an empty box", some, expunge("a", "inbox", c.uids...), 0, api.OK)
		expectOf(t, "Expunge of no box", some, expunge("a", "y", c.uids...), 0, api.ErrNone)
		expectOf(t, "Expunge of another's box", some, expunge("b", "x", c.uids...), 0, api.ErrNone)
		expectOf(t, "Expunge of no user", some, expunge("c", "inbox", c.uids...), 0, api.ErrNone)
	}
	s, d := of(t, some)
	expectDone(t, "Expunge of all", s, d, expunge("a", "x", 1, 2, 3, 4, 5), 5, api.OK)
	expectDone(t, "Expunge of what is gone", s, d, expunge("a", "x", 1, 2, 3, 4, 5), 0, api.OK)
	expectDone(t, "Append behind Expunge", s, d, add("a", "x", 0, 0, ""), 30, api.OK)
}

func TestCopy(t *testing.T) {
	some := plainOf(9, boxOf("x", 30, 5), boxOf("y", 40, 2))
	for _, c := range []struct {
		box, to string
		uids    []int
		n       int
		e       api.Errno
	}{
		{"x", "y", nil, 0, api.OK},
		{"x", "y", []int{6, 30, api.MaxUID}, 0, api.OK},
		{"x", "y", []int{3}, 1, api.OK},
		{"x", "y", []int{2, 4, 9}, 2, api.OK},
		{"x", "y", []int{1, 2, 3, 4, 5}, 5, api.OK},
		{"x", "inbox", []int{1, 2, 3, 4, 5}, 5, api.OK},
		{"inbox", "x", []int{1, 2, 3, 4, 5}, 0, api.OK},
		{"x", "x", []int{1, 2, 3, 4, 5}, 5, api.OK},
		{"x", "x", []int{5, 30, 31, 32}, 1, api.OK}, // what it adds is not copied again
		{"x", "x", nil, 0, api.OK},
		{"x", "z", []int{1}, 0, api.ErrNone},
		{"x", "z", nil, 0, api.ErrNone},
		{"z", "x", []int{1}, 0, api.ErrNone},
		{"z", "z", nil, 0, api.ErrNone},
	} {
		what := fmt.Sprint("Copy ", c)
		expectOf(t, what, some, transcribe("a", c.box, c.to, c.uids...), c.n, c.e)
		expectOf(t, what+" of no user", some, transcribe("c", c.box, c.to, c.uids...), 0, api.ErrNone)
		expectOf(t, what+" of another user", some, transcribe("b", "inbox", "x", c.uids...), 0, api.ErrNone)
		expectOf(t, what+" of another user", some, transcribe("b", "x", "inbox", c.uids...), 0, api.ErrNone)
	}
}

// A first error behind others that fit: then nothing is copied.
func TestCopyIsWholeOrNot(t *testing.T) {
	all := []int{1, 2, 3, 4, 5}
	for n := api.MaxMsgs - 8; n <= api.MaxMsgs; n++ {
		for count := range len(all) + 1 {
			p := plainOf(9, boxOf("x", 30, 5), boxOf("y", 40, n))
			c := transcribe("a", "x", "y", all[:count]...)
			if n+count <= api.MaxMsgs {
				expectOf(t, "room for all", p, c, count, api.OK)
			} else {
				expectOf(t, "room for fewer", p, c, 0, api.ErrFull)
			}
		}
	}
	for next := api.MaxUID - 7; next <= api.MaxUID; next++ {
		for count := range len(all) + 1 {
			p := plainOf(9, boxOf("x", 30, 5), boxOf("y", next, 2))
			c := transcribe("a", "x", "y", all[:count]...)
			if next+count <= api.MaxUID {
				expectOf(t, "UIDs for all", p, c, count, api.OK)
			} else {
				expectOf(t, "UIDs for fewer", p, c, 0, api.ErrUsed)
			}
		}
	}
	within := slices.Collect(func(yield func(int) bool) {
		for uid := 1; uid <= 13 && yield(uid); uid++ {
		}
	})
	expectOf(t, "to itself, room for all", plainOf(9, boxOf("x", 30, 12)), transcribe("a", "x", "x", within[:12]...), 12, api.OK)
	expectOf(t, "to itself, room for one less", plainOf(9, boxOf("x", 30, 13)), transcribe("a", "x", "x", within...), 0, api.ErrFull)
	// Of two errors that come up, the first: of UIDs, and then of room, or the other way round.
	expectOf(t, "UIDs end first", plainOf(9, boxOf("x", 30, 5), boxOf("y", api.MaxUID-1, api.MaxMsgs-2)), transcribe("a", "x", "y", 1, 2, 3), 0, api.ErrUsed)
	expectOf(t, "room ends first", plainOf(9, boxOf("x", 30, 5), boxOf("y", api.MaxUID-2, api.MaxMsgs-1)), transcribe("a", "x", "y", 1, 2, 3, 4), 0, api.ErrFull)
	expectOf(t, "both end at once", plainOf(9, boxOf("x", 30, 5), boxOf("y", api.MaxUID-1, api.MaxMsgs-1)), transcribe("a", "x", "y", 1, 2), 0, api.ErrFull)
}

// Of several errors that apply, the first of the sentence is told.
func TestOrderOfErrors(t *testing.T) {
	full := plainOf(api.MaxUID, boxOf("x", 30, 5), boxOf("y", 30, api.MaxMsgs), boxOf("z", 30, 5))
	users := full.copied()
	users.users["c"], users.users["d"] = full.users["b"], full.users["b"]
	for what, x := range map[string]struct {
		p plain
		c api.Change
		e api.Errno
	}{
		"User: no pass, and it is there, and MaxUsers, and MaxUID": {users, enrol("a", ""), api.ErrArg},
		"User: it is there, and MaxUsers, and MaxUID":              {users, enrol("a", "p"), api.ErrHas},
		"User: MaxUsers, and MaxUID":                               {users, enrol("e", "p"), api.ErrFull},
		"User: it is there, and MaxUID":                            {full, enrol("a", "p"), api.ErrHas},
		"User: MaxUID":                                             {full, enrol("e", "p"), api.ErrUsed},
		"Create: no name, and no user":                             {full, create("e", "X"), api.ErrArg},
		"Create: no name, and MaxBoxes":                            {full, create("a", ""), api.ErrArg},
		"Create: no user, and MaxUID":                              {full, create("e", "x"), api.ErrNone},
		"Create: it is there, and MaxBoxes, and MaxUID":            {full, create("a", "x"), api.ErrHas},
		"Create: MaxBoxes, and MaxUID":                             {full, create("a", "w"), api.ErrFull},
		"Create: MaxUID":                                           {full, create("b", "w"), api.ErrUsed},
		"Create: it is there, and MaxUID":                          {full, create("b", "inbox"), api.ErrHas},
		"Delete: a pass, and inbox":                                {full, api.Change{Kind: api.ChangeDelete, User: "a", Box: "inbox", Pass: "p"}, api.ErrArg},
		"Delete: no user, and inbox":                               {full, remove("e", "inbox"), api.ErrNone},
		"Rename: no To, and inbox":                                 {full, rename("a", "inbox", ""), api.ErrArg},
		"Rename: no user, and inbox":                               {full, rename("e", "inbox", "w"), api.ErrNone},
		"Rename: inbox, and To is there":                           {full, rename("a", "inbox", "x"), api.ErrHeld},
		"Rename: inbox, and To is it":                              {full, rename("a", "inbox", "inbox"), api.ErrHeld},
		"Rename: no box, and To is there":                          {full, rename("a", "w", "x"), api.ErrNone},
		"Append: Flags, and no box":                                {full, add("a", "w", 32, 0, ""), api.ErrArg},
		"Append: a Body, and no user":                              {full, add("e", "x", 0, 0, strings.Repeat("x", api.MaxBody+1)), api.ErrArg},
		"Append: a Body, and MaxMsgs":                              {full, add("a", "y", 0, 0, strings.Repeat("x", api.MaxBody+1)), api.ErrArg},
		"Mark: UIDs, and no box":                                   {full, marking("a", "w", 0, 0, 2, 1), api.ErrArg},
		"Mark: a Mode, and no user":                                {full, marking("e", "x", 3, 0, 1), api.ErrArg},
		"Expunge: UIDs, and no box":                                {full, expunge("a", "w", 0), api.ErrArg},
		"Copy: UIDs, and no To":                                    {full, transcribe("a", "x", "w", 1, 1), api.ErrArg},
		"Copy: no box, and To of MaxMsgs":                          {full, transcribe("a", "w", "y", 1), api.ErrNone},
		"Copy: no To, and UIDs":                                    {full, transcribe("a", "x", "w", 1), api.ErrNone},
		"Copy: MaxMsgs":                                            {full, transcribe("a", "x", "y", 1), api.ErrFull},
		"a kind that is none, and no user":                         {full, api.Change{Kind: 9, User: "e", Box: "x"}, api.ErrArg},
	} {
		expectOf(t, what, x.p, x.c, 0, x.e)
	}
}

// All kinds of all names, in states of all kinds, against the plain state.
func TestEachOfEach(t *testing.T) {
	many := plainOf(api.MaxUID, boxOf("x", 30, 5), boxOf("y", api.MaxUID, 5), boxOf("z", 30, api.MaxMsgs))
	users := plainOf(9, boxOf("x", 30, 5))
	users.users["c"], users.users["d"] = many.users["b"], many.users["b"]
	names := []string{"a", "b", "e", "inbox", "x", "y", "z", "w", "", "X", "aaaaaaaaaaaaa"}
	for _, p := range []plain{empty(), plainOf(9), plainOf(api.MaxUID), plainOf(9, boxOf("x", 30, 5), boxOf("y", 30, 24)), many, users} {
		s, d := of(t, p)
		for kind := -1; kind < 11; kind++ {
			for _, user := range names[:3] {
				for _, box := range names {
					for _, to := range names {
						c := api.Change{Kind: kind, User: user, Box: box, To: to, UIDs: []int{1, 5, 9}}
						c = plainly(c)
						behind, n, e := p.after(c)
						if got, gotE := s.Do(c); got != n || gotE != e {
							t.Errorf("%v of %.200s: %d, error %d; want %d, error %d", c, p.text(), got, gotE, n, e)
						}
						if e != api.OK {
							continue
						}
						expectTold(t, fmt.Sprint(c), s, behind)
						s, d = of(t, p)
					}
				}
			}
		}
		expectTold(t, "errors alone", opened(t, "errors alone", d), p)
	}
}

// plainly is c without what its kind does not name, if all else may be.
func plainly(c api.Change) api.Change {
	switch c.Kind {
	case api.ChangeUser:
		return enrol(c.User, c.Box)
	case api.ChangeCreate, api.ChangeDelete:
		c.UIDs, c.To = nil, ""
	case api.ChangeRename:
		c.UIDs = nil
	case api.ChangeAppend:
		return add(c.User, c.Box, len(c.To), len(c.To), c.To)
	case api.ChangeMark:
		return marking(c.User, c.Box, len(c.To)%3, 9, c.UIDs...)
	case api.ChangeExpunge:
		c.To = ""
	}
	return c
}

// P14.3

func TestCheck(t *testing.T) {
	s, d, _ := ready(t, enrol("ann", "secret"), enrol("bob", "!"), enrol("c", "abcdefghijkl"), create("ann", "x"))
	for _, s := range []*store.Store{s, opened(t, "again", d)} {
		for _, x := range []struct {
			user, pass string
			want       bool
		}{
			{"ann", "secret", true}, {"bob", "!", true}, {"c", "abcdefghijkl", true},
			{"ann", "", false}, {"ann", "secre", false}, {"ann", "secrets", false}, {"ann", "Secret", false}, {"ann", "ecret", false}, {"ann", "!", false}, {"ann", "secret\x00", false}, {"ann", " secret", false}, {"ann", "ann", false},
			{"bob", "secret", false}, {"bob", "!!", false}, {"c", "abcdefghijk", false}, {"c", "abcdefghijklm", false},
			{"eve", "secret", false}, {"eve", "", false}, {"", "", false}, {"", "secret", false}, {"Ann", "secret", false}, {"an", "secret", false}, {"anna", "secret", false}, {"x", "", false}, {"inbox", "", false},
			{strings.Repeat("a", 1<<20), strings.Repeat("b", 1<<20), false}, {"ann", strings.Repeat("secret", 1<<16), false},
		} {
			if s.Check(x.user, x.pass) != x.want {
				t.Errorf("Check(%.20q, %.20q) is not %t", x.user, x.pass, x.want)
			}
		}
	}
}

func TestUsersAndBoxesRise(t *testing.T) {
	s, d := fresh(t)
	expect := func(what string, got []string, want ...string) {
		t.Helper()
		if !slices.Equal(got, want) {
			t.Errorf("%s: %q, want %q", what, got, want)
		}
	}
	expect("no user", s.Users())
	expect("no user's boxes", s.Boxes("a"))
	expect("no user's boxes", s.Boxes(""))
	var users, boxes []string
	for _, name := range []string{"m", "z", "a", "0"} {
		s.Do(enrol(name, "p"))
		users = append(users, name)
		slices.Sort(users)
		expect("users", s.Users(), users...)
		expect("boxes of a new one", s.Boxes(name), "inbox")
	}
	boxes = append(boxes, "inbox")
	for _, name := range []string{"z", "a", "9"} {
		s.Do(create("m", name))
		boxes = append(boxes, name)
		slices.Sort(boxes)
		expect("boxes", s.Boxes("m"), boxes...)
		expect("another's boxes", s.Boxes("z"), "inbox")
	}
	s = opened(t, "again", d)
	expect("users, opened again", s.Users(), "0", "a", "m", "z")
	expect("boxes, opened again", s.Boxes("m"), "9", "a", "inbox", "z")
	s.Do(remove("m", "a"))
	s.Do(rename("m", "9", "zz"))
	expect("boxes, one renamed, one gone", s.Boxes("m"), "inbox", "z", "zz")
	for _, name := range []string{"x", "", "M", "inbox", "9", "mm", "\xff"} {
		expect("no user's boxes", s.Boxes(name))
	}
}

func TestGet(t *testing.T) {
	s, d, now := ready(t, enrol("a", "p"), enrol("b", "p"), create("a", "x"), add("a", "x", 3, 4, "body"), add("a", "x", 5, 6, ""))
	for _, s := range []*store.Store{s, opened(t, "again", d)} {
		for _, user := range []string{"a", "b", "c", "", "x", "inbox", "A"} {
			for _, name := range []string{"inbox", "x", "y", "", "a", "X", "INBOX"} {
				want, is := now.users[user].boxes[name]
				got, gotIs := s.Get(user, name)
				if gotIs != is || textOfBox("", got) != textOfBox("", want) {
					t.Errorf("Get(%q, %q): %s, %t; want %s, %t", user, name, textOfBox("", got), gotIs, textOfBox("", want), is)
				}
			}
		}
	}
	s.Do(remove("a", "x"))
	if b, is := s.Get("a", "x"); is || textOfBox("", b) != textOfBox("", api.Box{}) {
		t.Errorf("Get of what is gone: %v, %t", b, is)
	}
}

// P14.5: nil

func TestNil(t *testing.T) {
	var s *store.Store
	for _, c := range append(goodChanges(), api.Change{}, enrol("a", "")) {
		if n, e := s.Do(c); n != 0 || e != api.ErrArg {
			t.Errorf("Do of a nil Store: %d, error %d", n, e)
		}
	}
	for _, name := range []string{"", "a", "inbox"} {
		b, is := s.Get(name, "inbox")
		if s.Check(name, "") || s.Check(name, "p") || len(s.Boxes(name)) != 0 || is || textOfBox("", b) != textOfBox("", api.Box{}) {
			t.Errorf("Check, Boxes or Get of a nil Store tell something of %q", name)
		}
	}
	if len(s.Users()) != 0 || s.Dead() {
		t.Error("Users or Dead of a nil Store tell something")
	}
}

func TestStoreThatNobodyOpened(t *testing.T) {
	for _, c := range append(goodChanges(), api.Change{}) {
		s := &store.Store{}
		if n, e := s.Do(c); n != 0 || e == api.OK || len(s.Users()) != 0 {
			t.Errorf("Do of a store that nobody opened: %d, error %d", n, e)
		}
		if b, is := s.Get("a", "inbox"); is || b.Next != 0 || s.Check("a", "p") || len(s.Boxes("a")) != 0 {
			t.Error("a store that nobody opened tells something")
		}
	}
}

package store_test

import (
	"bytes"
	"fmt"
	"math"
	"slices"
	"strings"
	"testing"

	"letterbox/api"
	"letterbox/disk"
	"letterbox/ledger"
	"letterbox/store"
)

// P14.2: what is written

const (
	imageFile = "mail-img"
	logFile   = "mail-log"
	draft     = "mail-img~"
)

// expectBook wants of a disk's ledger an image and entries.
func expectBook(t testing.TB, what string, d *disk.Disk, base int, image []byte, entries ...[]byte) {
	t.Helper()
	book := bookIn(t, d)
	n, data := book.Base()
	if n != base || !bytes.Equal(data, image) || book.Last() != base+len(entries) {
		t.Errorf("%s: the ledger has an image of %d, % .60x, and entries up to %d; want %d, % .60x, %d", what, n, data, book.Last(), base, image, base+len(entries))
		return
	}
	for i, entry := range entries {
		if p, e := book.At(base + i + 1); e != api.OK || !bytes.Equal(p, entry) {
			t.Errorf("%s: entry %d is % .60x, error %d; want % .60x", what, base+i+1, p, e, entry)
		}
	}
}

// small is changes that can be done behind one another for ever, behind an enrol of a.
func small(i int) api.Change {
	return []api.Change{
		create("a", "x"), add("a", "inbox", i%32, i, fmt.Sprint("body ", i)), marking("a", "inbox", api.ModeAdd, 1, 1, 2), transcribe("a", "inbox", "x", upTo(3)...),
		add("a", "x", 3, i, ""), rename("a", "x", "y"), expunge("a", "inbox", i/9+1), expunge("a", "y"), remove("a", "y"),
	}[i%9]
}

// TestEntries wants one entry for each change that is done, and an image once there are MaxEntries of them.
func TestEntries(t *testing.T) {
	s, d := fresh(t)
	expectBook(t, "nothing is done", d, 0, nil)
	now, base, image := empty(), 0, []byte(nil)
	var entries [][]byte
	do := func(what string, c api.Change) {
		t.Helper()
		behind, n, e := now.after(c)
		expectDone(t, what, s, d, c, n, e)
		now = behind
		if e == api.OK {
			entries = append(entries, plainBytes(c))
		}
		if len(entries) == 20 {
			base, image, entries = base+20, now.image(), nil
		}
		expectBook(t, what, d, base, image, entries...)
		expectTold(t, what, s, now)
	}
	do("the first", enrol("a", "p"))
	for i := range 100 {
		do(fmt.Sprint("change ", i), small(i))
		do("a change that errs", enrol("a", "other"))
		do("a change that errs", remove("a", "inbox"))
		do("a change that may not be", marking("a", "inbox", 3, 0))
		if i%7 == 3 {
			s = opened(t, "again", d)
			expectTold(t, "opened again", s, now)
		}
	}
	if base != 100 || len(entries) != 1 {
		t.Errorf("the test's own: an image of %d, and %d entries", base, len(entries))
	}
}

// Only what is behind the image counts, whatever its number is.
func TestEntriesBehindAnImage(t *testing.T) {
	for _, base := range []int{1, 5, 19, 20, 21, 1000, 1<<40 - 20, 1<<40 - 21} {
		d := newDisk(t, 1<<22)
		now := plainOf(9, boxOf("x", 30, 5))
		bookOf(t, d).Write(base, now.image())
		image := now.image()
		s := opened(t, "an image", d)
		var entries [][]byte
		for i := range api.MaxEntries {
			expectBook(t, "fewer than MaxEntries", d, base, image, entries...)
			c := add("a", "inbox", 0, i, "")
			entries = append(entries, plainBytes(c))
			expectDone(t, "Append", s, d, c, i+1, api.OK)
			now, _, _ = now.after(c)
		}
		expectBook(t, "MaxEntries", d, base+api.MaxEntries, now.image())
		expectTold(t, "opened behind MaxEntries", opened(t, "again", d), now)
	}
}

// A ledger may have more entries than that: the next change writes the image. Open writes none.
func TestMoreEntries(t *testing.T) {
	for n := api.MaxEntries - 2; n < 3*api.MaxEntries; n++ {
		d := newDisk(t, 1<<22)
		book, now := bookOf(t, d), empty()
		var entries [][]byte
		for i := range n {
			c := add("a", "inbox", 0, i, "")
			switch {
			case i == 0:
				c = enrol("a", "p")
			case i > 20:
				c = marking("a", "inbox", i%3, i%32, upTo(9)...)
			}
			now, _, _ = now.after(c)
			entries = append(entries, plainBytes(c))
			book.Append(plainBytes(c))
		}
		files := filesOf(d)
		s := opened(t, "many entries", d)
		expectTold(t, "many entries", s, now)
		if filesOf(d) != files {
			t.Errorf("Open of %d entries writes", n)
		}
		expectDone(t, "many entries", s, d, create("a", "inbox"), 0, api.ErrHas)
		expectDone(t, "many entries", s, d, create("a", "x"), 0, api.OK)
		now, _, _ = now.after(create("a", "x"))
		if n+1 < api.MaxEntries {
			expectBook(t, "fewer than MaxEntries", d, 0, nil, append(entries, plainBytes(create("a", "x")))...)
		} else {
			expectBook(t, "MaxEntries or more", d, n+1, now.image())
		}
	}
}

// greatest is a state of which nothing more can be made.
func greatest() plain {
	p := empty()
	for _, user := range []string{"aaaaaaaaaaaa", "bbbbbbbbbbbb", "cccccccccccc", "dddddddddddd"} {
		boxes := map[string]api.Box{}
		for _, name := range []string{"inbox", "xxxxxxxxxxxx", "yyyyyyyyyyyy", "zzzzzzzzzzzz"} {
			b := api.Box{Name: name, Validity: api.MaxUID - 20 + p.next, Next: api.MaxUID}
			for i := range api.MaxMsgs {
				b.L = append(b.L, api.Message{UID: api.MaxUID - 30 + i, Flags: 31, Date: api.MaxDate, Body: []byte(strings.Repeat(user[:1], api.MaxBody))})
			}
			boxes[name] = b
			p.next++
		}
		p.users[user] = plainUser{"~~~~~~~~~~~~", boxes}
	}
	p.next = api.MaxUID
	return p
}

func TestGreatestState(t *testing.T) {
	now := greatest()
	s, d := of(t, now)
	for i := range 2*api.MaxEntries + 1 {
		c := marking("aaaaaaaaaaaa", "inbox", i%3, i%32, upTo(24)...)
		expectDone(t, "the greatest state", s, d, c, 0, api.OK)
	}
	if n, image := bookIn(t, d).Base(); n != 7+2*api.MaxEntries || !bytes.Equal(image, now.image()) {
		t.Errorf("the image of the greatest state: number %d, %d bytes", n, len(image))
	}
	expectTold(t, "the greatest state", opened(t, "again", d), now)
}

// Errors of the ledger

// expectDead wants of a store that whatever is asked of it errs with ErrDead, that it tells a state, and that nothing is written.
func expectDead(t testing.TB, what string, s *store.Store, d *disk.Disk, told plain) {
	t.Helper()
	d.Fuse(-1)
	files := filesOf(d)
	for range 2 {
		for _, c := range []api.Change{enrol("new", "p"), add("a", "inbox", 0, 0, ""), create("a", "w"), marking("a", "inbox", 0, 0), {}, enrol("a", ""), enrol("a", "p"), remove("a", "inbox"), remove("z", "z")} {
			if n, e := s.Do(c); n != 0 || e != api.ErrDead {
				t.Errorf("%s: Do of a dead store: %d, error %d", what, n, e)
			}
		}
		if !s.Dead() {
			t.Errorf("%s: not dead", what)
		}
		expectTold(t, what, s, told)
	}
	if filesOf(d) != files {
		t.Errorf("%s: a dead store writes", what)
	}
}

// A fuse that burns within an entry: its error, and nothing is done; behind an Open it is, or is not.
func TestBurntFuse(t *testing.T) {
	for _, c := range []api.Change{enrol("new", "p"), create("a", "w"), add("a", "inbox", 1, 2, "new"), remove("a", "x"), rename("a", "x", "w"), marking("a", "x", 0, 31, 1), expunge("a", "x", 1, 2), transcribe("a", "x", "inbox", 1, 2)} {
		for fuse := range 3 {
			p := plainOf(9, boxOf("x", 30, 5))
			behind, n, _ := p.after(c)
			s, d := of(t, p)
			d.Fuse(fuse)
			got, e := s.Do(c)
			if fuse == 2 { // Appended and Synced
				if got != n || e != api.OK || s.Dead() {
					t.Errorf("a fuse that is long enough: %d, error %d", got, e)
				}
				p = behind
			} else {
				if got != 0 || e != api.ErrDead {
					t.Errorf("a burnt fuse: %d, error %d", got, e)
				}
				expectDead(t, "a burnt fuse", s, d, p)
			}
			for _, draw := range []int{0, 3, 17, 1 << 30, math.MaxInt} {
				crashed := d.Copy()
				crashed.Crash(draw)
				again := opened(t, "behind a crash", crashed)
				if told := textOf(again); told != p.text() && told != behind.text() || fuse == 0 && told != p.text() {
					t.Errorf("behind a crash: %.200s; want %.200s or %.200s", told, p.text(), behind.text())
				}
				if again.Dead() {
					t.Error("an opened store is dead")
				}
			}
		}
	}
}

// What errs of itself does so over a burnt fuse too, and the store lives on.
func TestErrorsAheadOfTheFuse(t *testing.T) {
	s, d := of(t, plainOf(9, boxOf("x", 30, 5)))
	d.Fuse(0)
	expectDone(t, "over a burnt fuse", s, d, enrol("a", ""), 0, api.ErrArg)
	expectDone(t, "over a burnt fuse", s, d, enrol("a", "p"), 0, api.ErrHas)
	expectDone(t, "over a burnt fuse", s, d, remove("a", "inbox"), 0, api.ErrHeld)
	expectDone(t, "over a burnt fuse", s, d, transcribe("a", "x", "w", 1), 0, api.ErrNone)
	d.Fuse(-1)
	expectDone(t, "with no fuse", s, d, create("a", "w"), 0, api.OK)
}

// A full disk, that takes the first changes and not one more.
func TestFullDisk(t *testing.T) {
	l := []api.Change{enrol("a", "p"), add("a", "inbox", 1, 2, "one"), create("a", "x"), add("a", "inbox", 3, 4, "two")}
	_, d, _ := ready(t, l...)
	for room := range d.Used() + 1 {
		d := newDisk(t, room)
		s := opened(t, "little room", d)
		now := empty()
		for i, c := range l {
			behind, n, _ := now.after(c)
			got, e := s.Do(c)
			if e == api.OK {
				if got != n {
					t.Errorf("room for %d bytes: change %d answers %d", room, i, got)
				}
				now = behind
				continue
			}
			if got != 0 || e != api.ErrFull {
				t.Errorf("room for %d bytes: change %d answers %d, error %d", room, i, got, e)
			}
			expectDead(t, "a full disk", s, d, now)
			break
		}
		if s.Dead() != (room < filledBy(t, l)) {
			t.Errorf("room for %d bytes: dead is %t", room, s.Dead())
		}
		expectTold(t, "a full disk", opened(t, "again", d), now)
		d.Crash(0)
		expectTold(t, "a full disk, behind a crash", opened(t, "again", d), now)
	}
}

// filledBy is how many bytes a disk has behind these changes.
func filledBy(t *testing.T, l []api.Change) int {
	_, d, _ := ready(t, l...)
	return d.Used()
}

// upToAnImage is a store behind MaxEntries - 1 changes, and the next one, which is to write the image.
func upToAnImage(t *testing.T, d *disk.Disk) (*store.Store, plain, api.Change) {
	t.Helper()
	s, now := opened(t, "up to an image", d), empty()
	for i := range api.MaxEntries - 1 {
		c := enrol("a", "p")
		if i > 0 {
			c = small(i)
		}
		if i == 1 {
			c = create("a", "x")
		}
		behind, n, e := now.after(c)
		if got, gotE := s.Do(c); got != n || gotE != e || e != api.OK {
			t.Fatalf("the test's own: change %d: %d, error %d; want %d, error %d", i, got, gotE, n, e)
		}
		now = behind
	}
	return s, now, add("a", "inbox", 5, 6, "the last one")
}

// An error of the image's Write: it is answered, and the store is dead, and the change is done all the same.
func TestErrorOfTheImage(t *testing.T) {
	const all = 2 + 3 + 1 // of the entry: Append, Sync; of the image: Append, Sync, Rename; of the log: Remove
	for fuse := range all + 1 {
		d := newDisk(t, 1<<22)
		s, was, c := upToAnImage(t, d)
		now, n, _ := was.after(c)
		d.Fuse(fuse)
		got, e := s.Do(c)
		switch {
		case fuse == all:
			if got != n || e != api.OK || s.Dead() {
				t.Errorf("a fuse that is long enough: %d, error %d", got, e)
			}
			expectBook(t, "a fuse that is long enough", d, api.MaxEntries, now.image())
		case got != 0 || e != api.ErrDead:
			t.Errorf("fuse %d: %d, error %d", fuse, got, e)
		case fuse < 2:
			expectDead(t, "a fuse within the entry", s, d, was)
			continue
		default:
			expectDead(t, "a fuse within the image", s, d, now)
		}
		for _, draw := range []int{0, 1, 100, math.MaxInt} {
			crashed := d.Copy()
			crashed.Crash(draw)
			again := opened(t, "behind a crash", crashed)
			expectTold(t, "behind a crash", again, now)
			expectDone(t, "behind a crash", again, crashed, create("a", "more"), 0, api.OK)
			behind, _, _ := now.after(create("a", "more"))
			if fuse < 5 { // the image did not last: it is written behind the next change
				expectBook(t, "behind a crash", crashed, api.MaxEntries+1, behind.image())
			} else {
				expectBook(t, "behind a crash", crashed, api.MaxEntries, now.image(), plainBytes(create("a", "more")))
			}
		}
		expectTold(t, "opened without a crash", opened(t, "again", d), now)
	}
}

// The same of a disk on which there is room for the entry, and none for the image.
func TestNoRoomForTheImage(t *testing.T) {
	d := newDisk(t, 1<<22)
	s, was, c := upToAnImage(t, d)
	used := d.Used()
	if _, e := s.Do(c); e != api.OK {
		t.Fatalf("the test's own: error %d", e)
	}
	image := d.Used() // the log is gone
	now, _, _ := was.after(c)
	entry := len(plainBytes(c)) + 12 + 1 + 1 // a record, a number, a length
	for room := used + entry - 1; room <= used+entry+image; room++ {
		d := newDisk(t, room)
		s, _, _ := upToAnImage(t, d)
		n, e := s.Do(c)
		switch {
		case room == used+entry+image:
			if e != api.OK || s.Dead() {
				t.Errorf("room for all: %d, error %d", n, e)
			}
			continue
		case n != 0 || e != api.ErrFull:
			t.Errorf("room for %d: %d, error %d", room, n, e)
		case room < used+entry:
			expectDead(t, "no room for the entry", s, d, was)
			expectTold(t, "no room for the entry, opened again", opened(t, "again", d), was)
			continue
		}
		expectDead(t, "no room for the image", s, d, now)
		expectTold(t, "no room for the image, opened again", opened(t, "again", d), now)
		d.Crash(0)
		expectTold(t, "no room for the image, behind a crash", opened(t, "again", d), now)
	}
}

// Behind the greatest number that a ledger has, its error is told too.
func TestNoNumberLeft(t *testing.T) {
	for left := range 3 {
		d := newDisk(t, 1<<22)
		now := plainOf(9)
		bookOf(t, d).Write(1<<40-left, now.image())
		s := opened(t, "the last numbers", d)
		for range left {
			n := len(now.users["a"].boxes["inbox"].L) + 1
			expectDone(t, "the last numbers", s, d, add("a", "inbox", 0, 0, ""), n, api.OK)
			now, _, _ = now.after(add("a", "inbox", 0, 0, ""))
		}
		if n, e := s.Do(add("a", "inbox", 0, 0, "")); n != 0 || e != api.ErrLong {
			t.Errorf("behind the last number: %d, error %d", n, e)
		}
		expectDead(t, "behind the last number", s, d, now)
		expectTold(t, "behind the last number", opened(t, "again", d), now)
	}
}

// P14.2: Open

// expectNoOpen wants an error of Open, and no store.
func expectNoOpen(t *testing.T, what string, d *disk.Disk, want api.Errno) {
	t.Helper()
	if s, e := store.Open(d); s != nil || e != want {
		t.Errorf("%s: Open: error %d; want %d", what, e, want)
	}
}

func TestOpenOfNothing(t *testing.T) {
	s, d := fresh(t)
	expectTold(t, "an empty disk", s, empty())
	if len(d.List()) != 0 || s.Dead() {
		t.Errorf("Open of an empty disk writes %q", d.List())
	}
	d.Append("mai-log", []byte("x"))
	d.Append("mail", []byte("x"))
	d.Append("mail-", []byte("x"))
	d.Fuse(0)
	expectTold(t, "others' files, a burnt fuse", opened(t, "others' files", d), empty())
	expectNoOpen(t, "a nil Disk", nil, api.ErrArg)
}

func TestOpenOfEntriesAlone(t *testing.T) {
	book := func(l ...api.Change) *disk.Disk {
		d := newDisk(t, 1<<22)
		b := bookOf(t, d)
		for _, c := range l {
			b.Append(plainBytes(c))
		}
		return d
	}
	now := empty()
	l := []api.Change{enrol("a", "p"), add("a", "inbox", 1, 2, "one"), create("a", "x"), transcribe("a", "inbox", "x", 1), rename("a", "x", "y")}
	for i := range len(l) + 1 {
		expectTold(t, "entries alone", opened(t, "entries alone", book(l[:i]...)), now)
		if i == len(l) {
			break
		}
		bad := newDisk(t, 1<<22)
		b := bookOf(t, bad)
		for _, c := range l[:i] {
			b.Append(plainBytes(c))
		}
		b.Append(plainBytes(l[i])[1:])
		b.Append(plainBytes(l[i]))
		expectNoOpen(t, "an entry that is none, ahead of one", bad, api.ErrForm)
		now, _, _ = now.after(l[i])
	}
	// All that a Do refuses is none of a ledger's.
	for what, c := range map[string]api.Change{
		"a user that is there": enrol("a", "p"), "a box that is there": create("a", "y"), "a box that is not there": add("a", "x", 0, 0, ""), "no such user": create("b", "x"), "inbox": remove("a", "inbox"), "To is not there": transcribe("a", "y", "x"), "To is there": rename("a", "y", "inbox"), "one that may not be": enrol("c", ""),
	} {
		d := book(append(l, c)...)
		files := filesOf(d)
		expectNoOpen(t, what, d, api.ErrForm)
		d.Fuse(0)
		expectNoOpen(t, what+", a burnt fuse", d, api.ErrForm)
		if filesOf(d) != files {
			t.Errorf("%s: an Open that errs writes", what)
		}
	}
	d := book(slices.Concat(l, slices.Repeat([]api.Change{add("a", "inbox", 0, 0, "")}, api.MaxMsgs))...)
	expectNoOpen(t, "a message too many", d, api.ErrForm)
}

func TestOpenOfEntriesThatAreNone(t *testing.T) {
	for _, c := range append(badChanges(), api.Change{}) {
		if c.User != "user" || c.Box != "" && c.Box != "box" {
			continue
		}
		d := newDisk(t, 1<<22)
		b := bookOf(t, d)
		b.Append(plainBytes(enrol("user", "p")))
		b.Append(plainBytes(create("user", "box")))
		b.Append(plainBytes(create("user", "to")))
		if _, e := b.Append(plainBytes(c)); e == api.OK {
			expectNoOpen(t, fmt.Sprintf("the entry %.100s", textOfChange(c)), d, api.ErrForm)
		}
	}
	good := plainBytes(enrol("user", "p"))
	for what, p := range map[string][]byte{"nothing": nil, "a text": []byte("none"), "cut short": good[:len(good)-1], "a byte behind": append(good[:len(good):len(good)], 0), "two": slices.Concat(good, good), "zeros": make([]byte, 40), "a great one": make([]byte, 1<<16)} {
		d := newDisk(t, 1<<22)
		bookOf(t, d).Append(p)
		expectNoOpen(t, what, d, api.ErrForm)
	}
}

// withImage is a disk with an image of these bytes, and entries behind it.
func withImage(t *testing.T, number int, image []byte, l ...api.Change) *disk.Disk {
	t.Helper()
	d := newDisk(t, 1<<22)
	b := bookOf(t, d)
	if e := b.Write(number, image); e != api.OK {
		t.Fatalf("the test's own: an image: error %d", e)
	}
	for _, c := range l {
		b.Append(plainBytes(c))
	}
	return d
}

func TestOpenOfAnImageAndEntries(t *testing.T) {
	for _, p := range []plain{empty(), plainOf(9), plainOf(api.MaxUID), plainOf(9, boxOf("x", 30, 5), boxOf("y", 30, 24)), plainOf(1000, boxOf("0", api.MaxUID, 3)), greatest()} {
		for _, number := range []int{0, 1, 300, 1 << 40} {
			d := withImage(t, number, p.image())
			d.Fuse(0)
			expectTold(t, "an image alone", opened(t, "an image alone", d), p)
		}
		now := p
		var l []api.Change
		for _, c := range []api.Change{enrol("e", "p"), add("a", "inbox", 1, 2, "one"), create("a", "z"), transcribe("a", "inbox", "z", 1), rename("a", "z", "w"), marking("a", "w", 0, 9, 1), expunge("a", "x", 2, 3), remove("a", "w")} {
			if behind, _, e := now.after(c); e == api.OK {
				now = behind
				l = append(l, c)
				expectTold(t, "an image and entries", opened(t, "an image and entries", withImage(t, 5, p.image(), l...)), now)
			} else {
				expectNoOpen(t, "an entry that errs", withImage(t, 5, p.image(), append(l, c)...), api.ErrForm)
			}
		}
	}
}

// badImages has bytes that are no state's, each for one thing alone.
func badImages() map[string][]byte {
	in, x, y := bytesOfBox(boxIn("inbox", 1)), bytesOfBox(boxIn("x", 2)), bytesOfBox(boxIn("y", 3))
	user := func(name string) []byte { return bytesOfUser(name, "p", in) }
	one := func(name, pass string, boxes ...[]byte) []byte {
		return bytesOfImage(9, bytesOfUser(name, pass, boxes...))
	}
	bad := map[string][]byte{
		"next validity 0":             bytesOfImage(0),
		"next validity 0, a user":     bytesOfImage(0, user("a")),
		"next validity MaxUID + 1":    bytesOfImage(api.MaxUID+1, user("a")),
		"a next validity above all":   bytesOfImage(1<<62, user("a")),
		"a next validity below 0":     bytesOfImage(-1, user("a")),
		"users that fall":             bytesOfImage(9, user("b"), user("a")),
		"users that fall at last":     bytesOfImage(9, user("a"), user("c"), user("b")),
		"users that are equal":        bytesOfImage(9, user("a"), user("a")),
		"equal users, and one more":   slices.Concat([]byte{9, 2}, user("a"), user("a"), user("b")),
		"too many users":              bytesOfImage(9, user("a"), user("b"), user("c"), user("d"), user("e")),
		"one user fewer than told":    append([]byte{9, 2}, user("a")...),
		"one user more than told":     append([]byte{9, 1}, slices.Concat(user("a"), user("b"))...),
		"a user behind none":          append([]byte{9, 0}, user("a")...),
		"very many users":             append(numbers(9, 1<<62), user("a")...),
		"no box":                      one("a", "p"),
		"no inbox":                    one("a", "p", x),
		"no inbox among some":         one("a", "p", x, y),
		"no inbox of the second user": bytesOfImage(9, user("a"), bytesOfUser("b", "p", x)),
		"boxes that fall":             one("a", "p", x, in),
		"boxes that fall at last":     one("a", "p", in, y, x),
		"boxes that are equal":        one("a", "p", in, in),
		"equal boxes, and one more":   slices.Concat([]byte{9, 1}, rows([]byte("a"), []byte("p")), []byte{2}, rows(in, in, x)),
		"too many boxes":              one("a", "p", in, x, y, bytesOfBox(boxIn("z", 4)), bytesOfBox(boxIn("zz", 5))),
		"very many boxes":             append(append([]byte{9, 1}, rows([]byte("a"), []byte("p"))...), append(numbers(1<<62), rows(in)...)...),
		"one box fewer than told":     slices.Concat([]byte{9, 1}, rows([]byte("a"), []byte("p")), []byte{2}, rows(in)),
		"one box more than told":      slices.Concat([]byte{9, 1}, rows([]byte("a"), []byte("p")), []byte{1}, rows(in, x)),
		"a box of no bytes":           one("a", "p", in, nil),
		"a box with a byte behind":    one("a", "p", append(in[:len(in):len(in)], 0)),
		"a box without its last byte": one("a", "p", in[:len(in)-1]),
		"a box with no validity":      one("a", "p", bytesOfBox(boxIn("inbox", 0))),
		"a box with no next UID":      one("a", "p", bytesOfBox(api.Box{Name: "inbox", Validity: 1})),
		"a box of no name":            one("a", "p", in, bytesOfBox(boxIn("X", 1))),
		"a box of an empty name":      one("a", "p", bytesOfBox(boxIn("", 1)), in),
		"a box of too many messages":  one("a", "p", bytesOfBox(boxOf("inbox", 30, api.MaxMsgs+1))),
		"a spare byte in a number":    slices.Concat([]byte{0x89, 0, 1}, user("a")),
		"a spare byte in the count":   slices.Concat([]byte{9, 0x81, 0}, user("a")),
		"a text":                      []byte("none"),
		"zeros":                       make([]byte, 50),
		"many ones":                   bytes.Repeat([]byte{1}, 50),
	}
	for _, name := range badNames {
		bad[fmt.Sprintf("the user %.20q", name)] = one(name, "p", in)
	}
	for _, pass := range badPasses {
		bad[fmt.Sprintf("the pass %.20q", pass)] = one("a", pass, in)
	}
	return bad
}

func boxIn(name string, validity int) api.Box {
	return api.Box{Name: name, Validity: validity, Next: 1}
}

func TestOpenOfAnImageThatIsNone(t *testing.T) {
	for what, image := range badImages() {
		for _, number := range []int{0, 5} {
			d := withImage(t, number, image)
			files := filesOf(d)
			expectNoOpen(t, what, d, api.ErrForm)
			expectNoOpen(t, what+", and an entry", withImage(t, number, image, enrol("e", "p")), api.ErrForm)
			if filesOf(d) != files {
				t.Errorf("%s: an Open that errs writes", what)
			}
		}
	}
	expectNoOpen(t, "an image of no bytes", withImage(t, 1, nil), api.ErrForm)
	expectNoOpen(t, "an image of no bytes, and an entry", withImage(t, 1, nil, enrol("e", "p")), api.ErrForm)
	for _, p := range []plain{plainOf(1), plainOf(9), plainOf(300, boxOf("x", 30, 3), boxOf("y", 30, 2))} {
		image := p.image()
		for n := range image {
			if n > 0 {
				expectNoOpen(t, "an image cut short", withImage(t, 0, image[:n]), api.ErrForm)
			}
			expectNoOpen(t, "an image cut short", withImage(t, 5, image[:n]), api.ErrForm)
		}
		for x := range 256 {
			expectNoOpen(t, "a byte behind the image", withImage(t, 5, append(image[:len(image):len(image)], byte(x))), api.ErrForm)
		}
		expectNoOpen(t, "the image twice", withImage(t, 5, slices.Concat(image, image)), api.ErrForm)
	}
}

// Images at the edges that may be.
func TestOpenOfAnImageAtTheEdges(t *testing.T) {
	for _, next := range []int{1, 2, 127, 128, api.MaxUID - 1, api.MaxUID} {
		for _, p := range []plain{{next, nil}, plainOf(next), plainOf(next, boxOf("0", 2, 1), boxOf("zzzzzzzzzzzz", api.MaxUID, api.MaxMsgs), boxOf("j", 30, 0))} {
			expectTold(t, "an image", opened(t, "an image", withImage(t, 5, p.image())), p)
		}
	}
	p := empty()
	for _, name := range goodNames[:4] {
		p.users[name] = plainUser{goodPasses[len(p.users)], map[string]api.Box{"inbox": boxIn("inbox", 1)}}
	}
	expectTold(t, "MaxUsers", opened(t, "MaxUsers", withImage(t, 5, p.image())), p)
	for _, pass := range goodPasses {
		for _, name := range goodNames {
			p := plain{9, map[string]plainUser{name: {pass, map[string]api.Box{"inbox": boxIn("inbox", 1)}}}}
			expectTold(t, "a name and a pass", opened(t, "a name and a pass", withImage(t, 5, p.image())), p)
		}
	}
}

// Each byte of an image, another one: what is taken as a state is one, whose image is these bytes.
func TestOpenOfASpoiltImage(t *testing.T) {
	p := plainOf(300, boxOf("x", 30, 2))
	image := p.image()
	states := 0
	for place := range image {
		for x := range 256 {
			other := slices.Clone(image)
			other[place] = byte(x)
			d := withImage(t, 5, other)
			s, e := store.Open(d)
			if e != api.OK {
				if e != api.ErrForm || s != nil {
					t.Errorf("an image with byte %d at %d: error %d", x, place, e)
				}
				continue
			}
			states++
			for i := range api.MaxEntries {
				if _, e := s.Do(marking(s.Users()[0], "inbox", 0, 0, i+1)); e != api.OK {
					t.Errorf("an image with byte %d at %d: error %d", x, place, e)
				}
			}
			if n, data := bookIn(t, d).Base(); n != 5+api.MaxEntries || !bytes.Equal(data, other) {
				t.Errorf("an image with byte %d at %d is written as % x", x, place, data)
			}
		}
	}
	if states < 100 {
		t.Errorf("the test's own: %d states", states)
	}
}

// laid lays bytes behind a file, so that they last.
func laid(t *testing.T, d *disk.Disk, name string, p []byte) {
	t.Helper()
	if d.Append(name, p) != api.OK || d.Sync(name) != api.OK {
		t.Fatal("the test's own: a file")
	}
}

// Errors of the ledger's Open.
func TestErrorsOfTheLedger(t *testing.T) {
	good := func() *disk.Disk { return withImage(t, 5, plainOf(9).image(), create("a", "x"), create("a", "y")) }
	now := plainOf(9)
	now, _, _ = now.after(create("a", "x"))
	one := now
	now, _, _ = now.after(create("a", "y"))

	d := good()
	laid(t, d, imageFile, []byte("x"))
	expectNoOpen(t, "bytes behind the image's record", d, api.ErrForm)
	d = newDisk(t, 1<<22)
	laid(t, d, imageFile, nil)
	expectNoOpen(t, "an empty image", d, api.ErrForm)

	d = good()
	d.Remove(imageFile)
	expectNoOpen(t, "entries from 6 on, without an image", d, api.ErrForm)

	d = good()
	whole, _ := d.Read(logFile)
	laid(t, d, logFile, whole)
	expectNoOpen(t, "entries twice", d, api.ErrForm)

	d = good()
	laid(t, d, logFile, []byte("torn"))
	d.Fuse(0)
	expectNoOpen(t, "a tear over a burnt fuse", d, api.ErrDead)
	d.Fuse(-1)
	expectTold(t, "a tear", opened(t, "a tear", d), now)

	d = good()
	laid(t, d, draft, []byte("left"))
	d.Fuse(0)
	expectNoOpen(t, "a draft over a burnt fuse", d, api.ErrDead)
	d.Fuse(-1)
	expectTold(t, "a draft", opened(t, "a draft", d), now)

	d = good()
	d.Truncate(logFile, len(whole)-1)
	expectTold(t, "an entry that is torn", opened(t, "torn", d), one)

	d = withImage(t, 5, []byte("none"))
	laid(t, d, draft, []byte("left"))
	d.Fuse(0)
	expectNoOpen(t, "the ledger's error is ahead of the image's", d, api.ErrDead)

	d = good()
	l, _ := ledger.Open(d, "mail")
	l.Drop()
	expectTold(t, "behind a Drop", opened(t, "behind a Drop", d), empty())
}

package store_test

import (
	"bytes"
	"encoding/binary"
	"fmt"
	"maps"
	"slices"
	"testing"

	"letterbox/api"
	"letterbox/disk"
	"letterbox/ledger"
	"letterbox/store"
)

// What the document says, worked out plainly, without the program's packages store, box, mark and octet.

func enrol(user, pass string) api.Change {
	return api.Change{Kind: api.ChangeUser, User: user, Pass: pass}
}

func create(user, b string) api.Change {
	return api.Change{Kind: api.ChangeCreate, User: user, Box: b}
}

func remove(user, b string) api.Change {
	return api.Change{Kind: api.ChangeDelete, User: user, Box: b}
}

func rename(user, b, to string) api.Change {
	return api.Change{Kind: api.ChangeRename, User: user, Box: b, To: to}
}

func add(user, b string, flags, date int, body string) api.Change {
	return api.Change{Kind: api.ChangeAppend, User: user, Box: b, Flags: flags, Date: date, Body: []byte(body)}
}

func marking(user, b string, mode, flags int, uids ...int) api.Change {
	return api.Change{Kind: api.ChangeMark, User: user, Box: b, UIDs: uids, Mode: mode, Flags: flags}
}

func expunge(user, b string, uids ...int) api.Change {
	return api.Change{Kind: api.ChangeExpunge, User: user, Box: b, UIDs: uids}
}

func transcribe(user, b, to string, uids ...int) api.Change {
	return api.Change{Kind: api.ChangeCopy, User: user, Box: b, To: to, UIDs: uids}
}

// plain is a state.
type plain struct {
	next  int
	users map[string]plainUser
}

type plainUser struct {
	pass  string
	boxes map[string]api.Box
}

func empty() plain { return plain{1, map[string]plainUser{}} }

// copied is a state that shares nothing with p but bodies, which nobody writes to.
func (p plain) copied() plain {
	all := plain{p.next, map[string]plainUser{}}
	for name, u := range p.users {
		boxes := map[string]api.Box{}
		for boxName, b := range u.boxes {
			b.L = slices.Clone(b.L)
			boxes[boxName] = b
		}
		all.users[name] = plainUser{u.pass, boxes}
	}
	return all
}

// text is all of a state that a store tells.
func (p plain) text() string {
	text := ""
	for _, name := range slices.Sorted(maps.Keys(p.users)) {
		text += name + ":"
		for _, boxName := range slices.Sorted(maps.Keys(p.users[name].boxes)) {
			text += textOfBox(boxName, p.users[name].boxes[boxName])
		}
		text += ";"
	}
	return text
}

func textOfBox(name string, b api.Box) string {
	text := fmt.Sprintf(" %s/%s/%d/%d", name, b.Name, b.Validity, b.Next)
	for _, m := range b.L {
		text += fmt.Sprintf(" [%d %d %d %q]", m.UID, m.Flags, m.Date, m.Body)
	}
	return text
}

// textOf is all that a store tells.
func textOf(s *store.Store) string {
	text := ""
	for _, name := range s.Users() {
		text += name + ":"
		for _, boxName := range s.Boxes(name) {
			b, is := s.Get(name, boxName)
			if !is {
				text += " no"
			}
			text += textOfBox(boxName, b)
		}
		text += ";"
	}
	return text
}

func plainName(s string) bool {
	for i := range len(s) {
		if !(s[i] >= 'a' && s[i] <= 'z') && !(s[i] >= '0' && s[i] <= '9') {
			return false
		}
	}
	return len(s) > 0 && len(s) < 13
}

func plainPass(s string) bool {
	for i := range len(s) {
		if s[i] <= 0x20 || s[i] >= 0x7f {
			return false
		}
	}
	return len(s) > 0 && len(s) < 13
}

func plainUIDs(uids []int) bool {
	for i, uid := range uids {
		if uid < 1 || uid > 1<<20 || i > 0 && uid <= uids[i-1] {
			return false
		}
	}
	return len(uids) < 25
}

// plainMay tells whether a change may be: what its kind names may, and without that nothing is left of it.
func plainMay(c api.Change) bool {
	named := c.Kind > 0 && c.Kind < 9 && plainName(c.User)
	flags := c.Flags >= 0 && c.Flags < 32
	rest := c
	rest.Kind, rest.User = 0, ""
	if c.Kind == api.ChangeUser {
		named = named && plainPass(c.Pass)
		rest.Pass = ""
	} else {
		named = named && plainName(c.Box)
		rest.Box = ""
	}
	switch c.Kind {
	case api.ChangeRename:
		named = named && plainName(c.To)
		rest.To = ""
	case api.ChangeAppend:
		named = named && flags && c.Date >= 0 && c.Date <= 1<<30 && len(c.Body) < 1201
		rest.Flags, rest.Date, rest.Body = 0, 0, nil
	case api.ChangeMark:
		named = named && plainUIDs(c.UIDs) && c.Mode >= 0 && c.Mode < 3 && flags
		rest.UIDs, rest.Mode, rest.Flags = nil, 0, 0
	case api.ChangeExpunge:
		named = named && plainUIDs(c.UIDs)
		rest.UIDs = nil
	case api.ChangeCopy:
		named = named && plainUIDs(c.UIDs) && plainName(c.To)
		rest.UIDs, rest.To = nil, ""
	}
	return named && rest.Pass+rest.Box+rest.To == "" && len(rest.UIDs)+len(rest.Body) == 0 && rest.Mode == 0 && rest.Flags == 0 && rest.Date == 0
}

// after is the state behind a change, and what that answers, of a store that is not dead.
func (p plain) after(c api.Change) (plain, int, api.Errno) {
	if !plainMay(c) {
		return p, 0, api.ErrArg
	}
	now := p.copied()
	n, e := now.change(c)
	if e != api.OK {
		return p, 0, e
	}
	return now, n, api.OK
}

func (p *plain) change(c api.Change) (int, api.Errno) {
	u, known := p.users[c.User]
	if c.Kind == api.ChangeUser {
		if known {
			return 0, api.ErrHas
		}
		if len(p.users) == 4 {
			return 0, api.ErrFull
		}
		if p.next == 1<<20 {
			return 0, api.ErrUsed
		}
		p.users[c.User] = plainUser{c.Pass, map[string]api.Box{"inbox": {Name: "inbox", Validity: p.next, Next: 1}}}
		p.next++
		return 0, api.OK
	}
	b, is := u.boxes[c.Box]
	if !known || !is && c.Kind != api.ChangeCreate {
		return 0, api.ErrNone
	}
	to, isTo := u.boxes[c.To]
	switch c.Kind {
	case api.ChangeCreate:
		if is {
			return 0, api.ErrHas
		}
		if len(u.boxes) == 4 {
			return 0, api.ErrFull
		}
		if p.next == 1<<20 {
			return 0, api.ErrUsed
		}
		u.boxes[c.Box] = api.Box{Name: c.Box, Validity: p.next, Next: 1}
		p.next++
		return 0, api.OK
	case api.ChangeDelete:
		if c.Box == "inbox" {
			return 0, api.ErrHeld
		}
		delete(u.boxes, c.Box)
		return 0, api.OK
	case api.ChangeRename:
		if c.Box == "inbox" {
			return 0, api.ErrHeld
		}
		if isTo {
			return 0, api.ErrHas
		}
		delete(u.boxes, c.Box)
		b.Name = c.To
		u.boxes[c.To] = b
		return 0, api.OK
	case api.ChangeCopy:
		if !isTo {
			return 0, api.ErrNone
		}
		return plainCopy(u, b, to, c.UIDs)
	}
	n, e := plainChange(&b, c)
	u.boxes[c.Box] = b
	return n, e
}

// plainAdd is the next UID of a box, which then has a message with it.
func plainAdd(b *api.Box, flags, date int, body []byte) (int, api.Errno) {
	if len(b.L) == 24 {
		return 0, api.ErrFull
	}
	if b.Next == 1<<20 {
		return 0, api.ErrUsed
	}
	b.L = append(b.L, api.Message{UID: b.Next, Flags: flags, Date: date, Body: bytes.Clone(body)})
	b.Next++
	return b.Next - 1, api.OK
}

func plainCopy(u plainUser, from, to api.Box, uids []int) (int, api.Errno) {
	n := 0
	for _, m := range slices.Clone(from.L) {
		if slices.Contains(uids, m.UID) {
			if _, e := plainAdd(&to, m.Flags, m.Date, m.Body); e != api.OK {
				return 0, e
			}
			n++
		}
	}
	u.boxes[to.Name] = to
	return n, api.OK
}

// plainChange is a change of the messages of one box.
func plainChange(b *api.Box, c api.Change) (int, api.Errno) {
	if c.Kind == api.ChangeAppend {
		return plainAdd(b, c.Flags, c.Date, c.Body)
	}
	n := 0
	l := b.L
	b.L = nil
	for _, m := range l {
		flags := []int{c.Flags, m.Flags | c.Flags, m.Flags &^ c.Flags}[c.Mode]
		switch {
		case !slices.Contains(c.UIDs, m.UID):
		case c.Kind == api.ChangeExpunge:
			n++
			continue
		case flags != m.Flags:
			m.Flags = flags
			n++
		}
		b.L = append(b.L, m)
	}
	return n, api.OK
}

// Bytes

// numbers is numbers in a row.
func numbers(l ...int) []byte {
	var p []byte
	for _, n := range l {
		p = binary.AppendUvarint(p, uint64(n))
	}
	return p
}

// rows is rows of bytes, each with its length ahead.
func rows(l ...[]byte) []byte {
	var p []byte
	for _, row := range l {
		p = append(binary.AppendUvarint(p, uint64(len(row))), row...)
	}
	return p
}

// plainBytes is Encode of a change, also of one that may not be.
func plainBytes(c api.Change) []byte {
	return slices.Concat(numbers(c.Kind), rows([]byte(c.User), []byte(c.Pass), []byte(c.Box), []byte(c.To)),
		numbers(len(c.UIDs)), numbers(c.UIDs...), numbers(c.Mode, c.Flags, c.Date), rows(c.Body))
}

// plainParse is the change that has these bytes, if one that may be has.
func plainParse(p []byte) (api.Change, bool) {
	rest, good := p, true
	number := func() int {
		n, size := binary.Uvarint(rest)
		if size <= 0 || n > 1<<62 {
			good, size = false, len(rest)
			n = 0
		}
		rest = rest[size:]
		return int(n)
	}
	row := func() []byte {
		n := number()
		if n > len(rest) {
			good, n = false, len(rest)
		}
		b := rest[:n]
		rest = rest[n:]
		return b
	}
	c := api.Change{Kind: number(), User: string(row()), Pass: string(row()), Box: string(row()), To: string(row())}
	for n := number(); n > 0 && good; n-- {
		c.UIDs = append(c.UIDs, number())
	}
	c.Mode, c.Flags, c.Date = number(), number(), number()
	c.Body = row()
	return c, good && plainMay(c) && bytes.Equal(plainBytes(c), p)
}

func bytesOfBox(b api.Box) []byte {
	p := slices.Concat(rows([]byte(b.Name)), numbers(b.Validity, b.Next, len(b.L)))
	for _, m := range b.L {
		p = slices.Concat(p, numbers(m.UID, m.Flags, m.Date), rows(m.Body))
	}
	return p
}

// bytesOfUser is a user of an image.
func bytesOfUser(name, pass string, boxes ...[]byte) []byte {
	return slices.Concat(rows([]byte(name), []byte(pass)), numbers(len(boxes)), rows(boxes...))
}

// bytesOfImage is an image.
func bytesOfImage(next int, users ...[]byte) []byte {
	return append(numbers(next, len(users)), slices.Concat(users...)...)
}

// image is the image of a state.
func (p plain) image() []byte {
	var users [][]byte
	for _, name := range slices.Sorted(maps.Keys(p.users)) {
		var boxes [][]byte
		for _, boxName := range slices.Sorted(maps.Keys(p.users[name].boxes)) {
			boxes = append(boxes, bytesOfBox(p.users[name].boxes[boxName]))
		}
		users = append(users, bytesOfUser(name, p.users[name].pass, boxes...))
	}
	return bytesOfImage(p.next, users...)
}

// Stores on disks

func newDisk(t testing.TB, room int) *disk.Disk {
	t.Helper()
	d, e := disk.New(room)
	if e != api.OK {
		t.Fatalf("the test's own: a disk: error %d", e)
	}
	return d
}

func bookOf(t testing.TB, d *disk.Disk) *ledger.Ledger {
	t.Helper()
	l, e := ledger.Open(d, "mail")
	if e != api.OK {
		t.Fatalf("the test's own: a ledger: error %d", e)
	}
	return l
}

// bookIn is what the ledger of a disk tells, which stays as it is.
func bookIn(t testing.TB, d *disk.Disk) *ledger.Ledger {
	t.Helper()
	return bookOf(t, d.Copy())
}

func opened(t testing.TB, what string, d *disk.Disk) *store.Store {
	t.Helper()
	s, e := store.Open(d)
	if s == nil || e != api.OK {
		t.Fatalf("%s: Open: error %d", what, e)
	}
	return s
}

// fresh is a store on an empty disk.
func fresh(t testing.TB) (*store.Store, *disk.Disk) {
	t.Helper()
	d := newDisk(t, 1<<22)
	return opened(t, "an empty disk", d), d
}

// of is a store of that state, from an image on a disk.
func of(t testing.TB, p plain) (*store.Store, *disk.Disk) {
	t.Helper()
	d := newDisk(t, 1<<22)
	if e := bookOf(t, d).Write(7, p.image()); e != api.OK {
		t.Fatalf("the test's own: an image: error %d", e)
	}
	s := opened(t, "an image", d)
	expectTold(t, "an image", s, p)
	return s, d
}

// ready is a store in which all of these changes are done, and its state.
func ready(t testing.TB, l ...api.Change) (*store.Store, *disk.Disk, plain) {
	t.Helper()
	s, d := fresh(t)
	now := empty()
	for i, c := range l {
		behind, n, e := now.after(c)
		if got, gotE := s.Do(c); got != n || gotE != e || e != api.OK {
			t.Fatalf("the test's own: change %d answers %d, error %d; want %d, error %d", i, got, gotE, n, e)
		}
		now = behind
	}
	return s, d, now
}

// expectTold wants of a store all of a state, and nothing else.
func expectTold(t testing.TB, what string, s *store.Store, want plain) {
	t.Helper()
	if textOf(s) != want.text() {
		t.Errorf("%s: %.500s; want %.500s", what, textOf(s), want.text())
	}
	for name, u := range want.users {
		if !s.Check(name, u.pass) || s.Check(name, "") || s.Check(name, u.pass+"x") || s.Check(name, u.pass[1:]) || s.Check(name+"x", u.pass) {
			t.Errorf("%s: Check of %q", what, name)
		}
	}
}

// filesOf is all that a disk has, and what of it lasts.
func filesOf(d *disk.Disk) string {
	text := ""
	crashed := d.Copy()
	crashed.Crash(0)
	for _, name := range d.List() {
		all, _ := d.Read(name)
		lasts, _ := crashed.Read(name)
		text += fmt.Sprintf("%s %q %d;", name, all, len(lasts))
	}
	return text
}

// expectDone wants of a store what a change answers, and of an error that nothing is changed or written.
func expectDone(t testing.TB, what string, s *store.Store, d *disk.Disk, c api.Change, n int, e api.Errno) {
	t.Helper()
	was, files := textOf(s), filesOf(d)
	if got, gotE := s.Do(c); got != n || gotE != e {
		t.Errorf("%s: %d, error %d; want %d, error %d", what, got, gotE, n, e)
	}
	if e != api.OK && (textOf(s) != was || filesOf(d) != files || s.Dead()) {
		t.Errorf("%s: behind error %d: %.300s, was %.300s", what, e, textOf(s), was)
	}
	if e == api.OK && filesOf(d) == files {
		t.Errorf("%s: nothing is written", what)
	}
}

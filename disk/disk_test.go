package disk_test

import (
	"bytes"
	"maps"
	"math"
	"runtime"
	"slices"
	"strconv"
	"strings"
	"testing"

	"letterbox/api"
	"letterbox/disk"
)

const mostRoom = 1 << 30

var (
	longest = strings.Repeat("n", 64)
	tooLong = strings.Repeat("n", 65)
)

// file is what a file holds: first what lasts, then the others.
type file struct{ lasting, others string }

type files map[string]file

func made(t *testing.T, room int) *disk.Disk {
	t.Helper()
	d, e := disk.New(room)
	if d == nil || e != api.OK {
		t.Fatalf("New(%d): %v, error %d", room, d, e)
	}
	return d
}

// madeOf is a disk with files of which so much lasts.
func madeOf(t *testing.T, room int, l files) *disk.Disk {
	t.Helper()
	d := made(t, room)
	for _, name := range slices.Sorted(maps.Keys(l)) {
		expect(t, "Append of what lasts", d.Append(name, []byte(l[name].lasting)), api.OK)
		expect(t, "Sync", d.Sync(name), api.OK)
		expect(t, "Append of others", d.Append(name, []byte(l[name].others)), api.OK)
	}
	return d
}

func expect(t *testing.T, what string, got, want api.Errno) {
	t.Helper()
	if got != want {
		t.Errorf("%s: error %d, want %d", what, got, want)
	}
}

// filesOf is what a disk holds; what lasts is told by a copy that crashes.
func filesOf(t *testing.T, d *disk.Disk) files {
	t.Helper()
	crashed := d.Copy()
	crashed.Crash(0)
	l := files{}
	for _, name := range d.List() {
		all, e := d.Read(name)
		lasting, e2 := crashed.Read(name)
		if e != api.OK || e2 != api.OK || !bytes.HasPrefix(all, lasting) {
			t.Errorf("%q: %q, error %d; behind a crash %q, error %d", name, all, e, lasting, e2)
			continue
		}
		l[name] = file{string(lasting), string(all[len(lasting):])}
	}
	return l
}

// expectFiles asks a disk for just these files.
func expectFiles(t *testing.T, what string, d *disk.Disk, want files) {
	t.Helper()
	if got := filesOf(t, d); !maps.Equal(got, want) {
		t.Errorf("%s: %q, want %q", what, got, want)
	}
	used := 0
	for _, f := range want {
		used += len(f.lasting) + len(f.others)
	}
	if d.Used() != used {
		t.Errorf("%s: Used %d, want %d", what, d.Used(), used)
	}
	if l, names := d.List(), slices.Sorted(maps.Keys(want)); !slices.Equal(l, names) {
		t.Errorf("%s: List %q, want %q", what, l, names)
	}
}

// expectLeft asks for the number of things that a disk's fuse lets be done; it has the file a.
func expectLeft(t *testing.T, what string, d *disk.Disk, want int) {
	t.Helper()
	for i := range want {
		if e := d.Rename("a", "a"); e != api.OK {
			t.Errorf("%s: error %d behind %d, want %d", what, e, i, want)
			return
		}
	}
	if e := d.Rename("a", "a"); e != api.ErrDead {
		t.Errorf("%s: error %d behind %d", what, e, want)
	}
}

// expectNoFuse asks a disk with the file a for more things than any fuse of these tests lets be done.
func expectNoFuse(t *testing.T, what string, d *disk.Disk) {
	t.Helper()
	for i := range 50 {
		if e := d.Rename("a", "a"); e != api.OK {
			t.Errorf("%s: error %d behind %d", what, e, i)
			return
		}
	}
}

// soil overwrites a list and the spare room behind its end.
func soil(p []byte) {
	p = p[:cap(p)]
	for i := range p {
		p[i] ^= 0xff
	}
}

// fives are the five, each on a name that is handed in.
func fives(d *disk.Disk) map[string]func(name string) api.Errno {
	return map[string]func(name string) api.Errno{
		"Append":             func(name string) api.Errno { return d.Append(name, []byte("x")) },
		"Append of no rows":  func(name string) api.Errno { return d.Append(name) },
		"Sync":               func(name string) api.Errno { return d.Sync(name) },
		"Truncate":           func(name string) api.Errno { return d.Truncate(name, 0) },
		"Truncate to -1":     func(name string) api.Errno { return d.Truncate(name, -1) },
		"Rename":             func(name string) api.Errno { return d.Rename(name, "other") },
		"Rename to the same": func(name string) api.Errno { return d.Rename(name, name) },
		"Remove":             func(name string) api.Errno { return d.Remove(name) },
	}
}

// P3.1

func TestNew(t *testing.T) {
	for _, room := range []int{0, 1, 100, mostRoom - 1, mostRoom} {
		d := made(t, room)
		expectFiles(t, "a new disk", d, files{})
		expect(t, "Append", d.Append("a"), api.OK)
		expectNoFuse(t, "a new disk", d)
	}
	for _, room := range []int{-1, -2, math.MinInt, mostRoom + 1, mostRoom + 2, math.MaxInt} {
		if d, e := disk.New(room); d != nil || e != api.ErrArg {
			t.Errorf("New(%d): %v, error %d", room, d, e)
		}
	}
}

func TestADiskThatNobodyMade(t *testing.T) {
	var d disk.Disk
	expectFiles(t, "nothing", &d, files{})
	expect(t, "Sync", d.Sync("a"), api.ErrNone)
	expect(t, "Append of a byte", d.Append("a", []byte("x")), api.ErrFull)
	expect(t, "Append of none", d.Append("a"), api.OK)
	d.Crash(3)
	expectFiles(t, "a file", &d, files{"a": {}})
}

func TestNames(t *testing.T) {
	good := []string{"a", longest[:63], longest, "\x00", "\xff\xfe", "~", "/", "..", " ", "a\r\nb", strings.Repeat("\x80", 64), strings.Repeat("ä", 32)}
	bad := []string{"", tooLong, strings.Repeat("ä", 33), strings.Repeat("x", 1<<20)}
	for _, name := range good {
		d := made(t, 10)
		expect(t, "Append", d.Append(name, []byte("xyz")), api.OK)
		expect(t, "Sync", d.Sync(name), api.OK)
		expect(t, "Truncate", d.Truncate(name, 2), api.OK)
		expectFiles(t, "a good name", d, files{name: {"xy", ""}})
		expect(t, "Rename", d.Rename(name, "new"), api.OK)
		expect(t, "Rename back", d.Rename("new", name), api.OK)
		expectFiles(t, "a good name", d, files{name: {"xy", ""}})
		expect(t, "Remove", d.Remove(name), api.OK)
		expectFiles(t, "none", d, files{})
	}
	l := files{"a": {"12", "3"}}
	d := madeOf(t, 3, l)
	for _, name := range bad {
		for what, call := range fives(d) {
			expect(t, what+" of a name that is none", call(name), api.ErrArg)
		}
		expect(t, "Rename to a name that is none", d.Rename("a", name), api.ErrArg)
		expect(t, "Rename to one of what is not there", d.Rename("b", name), api.ErrArg)
		expect(t, "Append of too much", d.Append(name, make([]byte, 10)), api.ErrArg)
		if p, e := d.Read(name); len(p) != 0 || e != api.ErrNone {
			t.Errorf("Read of a name that is none: %q, error %d", p, e)
		}
		expectFiles(t, "a name that is none", d, l)
	}
}

func TestABurntFuseComesFirst(t *testing.T) {
	l := files{"a": {"12", "3"}, "b": {"", "x"}}
	d := madeOf(t, 4, l)
	d.Fuse(0)
	for _, name := range []string{"a", "b", "none", "", longest, tooLong} {
		for what, call := range fives(d) {
			expect(t, what+" behind the fuse", call(name), api.ErrDead)
		}
		expect(t, "Rename", d.Rename("a", name), api.ErrDead)
		expect(t, "Sync of several", d.Sync(name, "a"), api.ErrDead)
		expect(t, "Remove of several", d.Remove(name, "a"), api.ErrDead)
		expect(t, "Append of too much", d.Append(name, make([]byte, 10)), api.ErrDead)
		expect(t, "Truncate to too much", d.Truncate(name, 10), api.ErrDead)
	}
	expect(t, "Sync of none", d.Sync(), api.OK)
	expect(t, "Remove of none", d.Remove(), api.OK)
	expectFiles(t, "behind the fuse", d, l)
	if p, e := d.Read("a"); string(p) != "123" || e != api.OK {
		t.Errorf("Read behind the fuse: %q, error %d", p, e)
	}
}

func TestSeveralNames(t *testing.T) {
	l := files{"a": {"1", "2"}, "b": {"", "x"}, "c": {"yz", "yz"}}
	for _, none := range []struct {
		name string
		want api.Errno
	}{{"n", api.ErrNone}, {"", api.ErrArg}, {tooLong, api.ErrArg}} {
		d := madeOf(t, 100, l)
		expect(t, "Sync", d.Sync("b", "a", none.name, "c"), none.want)
		expectFiles(t, "Sync up to the first that errs", d, files{"a": {"12", ""}, "b": {"x", ""}, "c": {"yz", "yz"}})
		expect(t, "Sync", d.Sync(none.name, "c"), none.want)
		expectFiles(t, "Sync of one that errs ahead of others", d, files{"a": {"12", ""}, "b": {"x", ""}, "c": {"yz", "yz"}})
		expect(t, "Sync", d.Sync("c", "c", "c"), api.OK)
		expectFiles(t, "Sync of one name again", d, files{"a": {"12", ""}, "b": {"x", ""}, "c": {"yzyz", ""}})
		d = madeOf(t, 100, l)
		expect(t, "Remove", d.Remove("b", none.name, "a", "c"), none.want)
		expectFiles(t, "Remove up to the first that errs", d, files{"a": {"1", "2"}, "c": {"yz", "yz"}})
		expect(t, "Remove", d.Remove(none.name, "a"), none.want)
		expect(t, "Remove of one name again", d.Remove("a", "a", "c"), api.ErrNone)
		expectFiles(t, "Remove of one name again", d, files{"c": {"yz", "yz"}})
	}
	d := madeOf(t, 100, l)
	expect(t, "Sync of none", d.Sync(), api.OK)
	expect(t, "Sync of a nil list", d.Sync([]string(nil)...), api.OK)
	expect(t, "Remove of none", d.Remove(), api.OK)
	expect(t, "Remove of an empty list", d.Remove([]string{}...), api.OK)
	expectFiles(t, "of no name nothing is done", d, l)
	expect(t, "the first error counts", d.Sync("a", "n", ""), api.ErrNone)
	expect(t, "the first error counts", d.Remove("a", "", "n"), api.ErrArg)
	expect(t, "Remove of all", d.Remove("c", "b"), api.OK)
	expectFiles(t, "all are gone", d, files{})
}

// P3.2

func TestAppend(t *testing.T) {
	d := made(t, 100)
	expect(t, "of no rows", d.Append("a"), api.OK)
	expectFiles(t, "of no rows", d, files{"a": {}})
	expect(t, "of a nil list", d.Append("b", [][]byte(nil)...), api.OK)
	expect(t, "of a nil row", d.Append("c", nil), api.OK)
	expect(t, "of empty and nil rows", d.Append("d", []byte{}, nil, []byte{}), api.OK)
	expectFiles(t, "of nothing", d, files{"a": {}, "b": {}, "c": {}, "d": {}})
	expect(t, "of rows", d.Append("a", []byte("12"), nil, []byte("3"), []byte{}, []byte("456")), api.OK)
	expect(t, "of a row", d.Append("b", []byte{0, 0xff}), api.OK)
	expectFiles(t, "of rows", d, files{"a": {"", "123456"}, "b": {"", "\x00\xff"}, "c": {}, "d": {}})
	expect(t, "Sync", d.Sync("a"), api.OK)
	expect(t, "of no rows", d.Append("a"), api.OK)
	expect(t, "of a nil row", d.Append("a", nil), api.OK)
	expect(t, "behind what lasts", d.Append("a", []byte("7")), api.OK)
	expect(t, "of very many rows", d.Append("a", make([][]byte, 1<<17)...), api.OK)
	expectFiles(t, "behind what lasts", d, files{"a": {"123456", "7"}, "b": {"", "\x00\xff"}, "c": {}, "d": {}})
}

func TestAppendFull(t *testing.T) {
	ten := []byte("0123456789")
	for what, rows := range map[string][][]byte{
		"one row":       {ten},
		"several":       {ten[:3], nil, ten[3:9], ten[9:]},
		"nothing ahead": {nil, {}, ten},
	} {
		d := made(t, 10)
		expect(t, what+", as many as the room has", d.Append("a", rows...), api.OK)
		expectFiles(t, what, d, files{"a": {"", string(ten)}})
		expect(t, what+", of none into no room", d.Append("b", nil, nil), api.OK)
		expect(t, what+", of one into no room", d.Append("b", []byte("x")), api.ErrFull)
		expect(t, what+", of one into no room", d.Append("a", []byte("x")), api.ErrFull)
		expect(t, what+", of one into no room", d.Append("c", nil, []byte("x")), api.ErrFull)
		expectFiles(t, what+", full", d, files{"a": {"", string(ten)}, "b": {}})
		d = made(t, 9)
		expect(t, what+", one more than the room has", d.Append("a", rows...), api.ErrFull)
		expectFiles(t, what+", one more than the room has", d, files{})
	}
	d := madeOf(t, 10, files{"a": {"12", "34"}, "b": {"5", "6"}})
	expect(t, "one more, other files counted", d.Append("c", ten[:3], ten[:2]), api.ErrFull)
	expect(t, "one more at the last row", d.Append("a", ten[:4], nil, ten[:1]), api.ErrFull)
	expectFiles(t, "nothing changed", d, files{"a": {"12", "34"}, "b": {"5", "6"}})
	expect(t, "as many, other files counted", d.Append("c", ten[:3], ten[:1]), api.OK)
	expectFiles(t, "full", d, files{"a": {"12", "34"}, "b": {"5", "6"}, "c": {"", "0120"}})
	none := made(t, 0)
	expect(t, "no room at all", none.Append("a", []byte("x")), api.ErrFull)
	expect(t, "no room at all", none.Append("a", nil), api.OK)
	expectFiles(t, "no room at all", none, files{"a": {}})
}

func TestRoomComesBack(t *testing.T) {
	row := []byte("x")
	full := func() *disk.Disk { return madeOf(t, 6, files{"a": {"12", "3"}, "b": {"45", "6"}}) }
	for what, call := range map[string]func(d *disk.Disk) api.Errno{
		"Truncate": func(d *disk.Disk) api.Errno { return d.Truncate("a", 2) },
		"Rename":   func(d *disk.Disk) api.Errno { return d.Rename("a", "b") },
		"Remove":   func(d *disk.Disk) api.Errno { return d.Remove("a") },
		"Crash":    func(d *disk.Disk) api.Errno { d.Crash(0); return api.OK },
	} {
		d := full()
		expect(t, "full", d.Append("c", row), api.ErrFull)
		expect(t, what, call(d), api.OK)
		for range 6 - d.Used() {
			expect(t, "Append behind "+what, d.Append("c", row), api.OK)
		}
		expect(t, "full behind "+what, d.Append("c", row), api.ErrFull)
		if d.Used() != 6 {
			t.Errorf("Used behind %s: %d", what, d.Used())
		}
	}
}

func TestGreatRooms(t *testing.T) {
	part := make([]byte, mostRoom/1024)
	rows := make([][]byte, 1024)
	for i := range rows {
		rows[i] = part
	}
	d := made(t, mostRoom)
	expect(t, "a byte", d.Append("a", []byte("x")), api.OK)
	expect(t, "one more than the room has", d.Append("a", rows...), api.ErrFull)
	many := make([][]byte, 1<<20)
	for i := range many {
		many[i] = part
	}
	expect(t, "very many rows", d.Append("a", many...), api.ErrFull)
	expectFiles(t, "nothing changed", d, files{"a": {"", "x"}})
	small := made(t, mostRoom-1)
	expect(t, "a row that the room lacks", small.Append("a", rows...), api.ErrFull)
	expectFiles(t, "nothing is made", small, files{})
}

func TestMaxFiles(t *testing.T) {
	d := made(t, 5)
	for i := range api.MaxFiles {
		expect(t, "Append", d.Append("f"+strconv.Itoa(i)), api.OK)
	}
	expect(t, "one more", d.Append("one more"), api.ErrFull)
	expect(t, "one more", d.Append("one more", []byte("x")), api.ErrFull)
	if len(d.List()) != api.MaxFiles || d.Used() != 0 {
		t.Errorf("%d files, %d bytes", len(d.List()), d.Used())
	}
	expect(t, "one that is there", d.Append("f7", []byte("x")), api.OK)
	expect(t, "of a name that is none", d.Append(""), api.ErrArg)
	expect(t, "Rename", d.Rename("f7", "new"), api.OK)
	expect(t, "as many yet", d.Append("f7"), api.ErrFull)
	if c := d.Copy(); c.Append("one more") != api.ErrFull || c.Append("new") != api.OK {
		t.Error("a copy has as many")
	}
	expect(t, "Remove", d.Remove("f8"), api.OK)
	expect(t, "one less", d.Append("one more"), api.OK)
	expect(t, "full again", d.Append("f8"), api.ErrFull)
	expect(t, "Rename onto a file", d.Rename("f9", "f10"), api.OK)
	expect(t, "one less", d.Append("f8", []byte("yz")), api.OK)
	expect(t, "full again", d.Append("f9"), api.ErrFull)
	if len(d.List()) != api.MaxFiles || d.Used() != 3 {
		t.Errorf("%d files, %d bytes", len(d.List()), d.Used())
	}
}

func TestSync(t *testing.T) {
	d := madeOf(t, 100, files{"a": {"12", "34"}, "b": {"", "x"}, "c": {"y", ""}, "e": {}})
	expect(t, "of some", d.Sync("a"), api.OK)
	expectFiles(t, "of some", d, files{"a": {"1234", ""}, "b": {"", "x"}, "c": {"y", ""}, "e": {}})
	expect(t, "of all", d.Sync("b", "c", "e"), api.OK)
	expectFiles(t, "of all", d, files{"a": {"1234", ""}, "b": {"x", ""}, "c": {"y", ""}, "e": {}})
	expect(t, "what is not there", d.Sync("n"), api.ErrNone)
	expect(t, "what was there", d.Remove("b"), api.OK)
	expect(t, "what was there", d.Sync("b"), api.ErrNone)
	expectFiles(t, "nothing is made", d, files{"a": {"1234", ""}, "c": {"y", ""}, "e": {}})
}

func TestTruncate(t *testing.T) {
	const all = "abcdef"
	for lasts := range len(all) + 1 {
		l := files{"a": {all[:lasts], all[lasts:]}, "b": {"x", "y"}}
		for n := range len(all) + 1 {
			d := madeOf(t, 100, l)
			expect(t, "Truncate", d.Truncate("a", n), api.OK)
			want := file{all[:min(lasts, n)], all[min(lasts, n):n]}
			expectFiles(t, "Truncate", d, files{"a": want, "b": {"x", "y"}})
			expect(t, "Append", d.Append("a", []byte("GH")), api.OK)
			want.others += "GH"
			expectFiles(t, "Append behind Truncate", d, files{"a": want, "b": {"x", "y"}})
		}
		d := madeOf(t, 100, l)
		for _, n := range []int{-1, -2, math.MinInt, len(all) + 1, len(all) + 2, math.MaxInt} {
			expect(t, "Truncate to "+strconv.Itoa(n), d.Truncate("a", n), api.ErrArg)
			expect(t, "of what is not there", d.Truncate("n", n), api.ErrNone)
		}
		expect(t, "of what is not there", d.Truncate("n", 0), api.ErrNone)
		expectFiles(t, "nothing changed", d, l)
	}
	d := madeOf(t, 100, files{"a": {}})
	expect(t, "of nothing to 1", d.Truncate("a", 1), api.ErrArg)
	expect(t, "of nothing to 0", d.Truncate("a", 0), api.OK)
	expectFiles(t, "nothing", d, files{"a": {}})
}

func TestTruncateOften(t *testing.T) {
	d := made(t, mostRoom)
	all := bytes.Repeat([]byte("0123456789"), 1000)
	expect(t, "Append", d.Append("a", all), api.OK)
	for n := len(all) - 1; n >= 0; n-- {
		expect(t, "Truncate", d.Truncate("a", n), api.OK)
		if p, e := d.Read("a"); !bytes.Equal(p, all[:n]) || e != api.OK || d.Used() != n {
			t.Fatalf("to %d: %d bytes, error %d, Used %d", n, len(p), e, d.Used())
		}
	}
	expectFiles(t, "to 0", d, files{"a": {}})
}

// P3.3

func TestRename(t *testing.T) {
	l := files{"a": {"12", "34"}, "b": {"xyz", "w"}}
	d := madeOf(t, 100, l)
	expect(t, "to a new name", d.Rename("a", "c"), api.OK)
	expectFiles(t, "to a new name", d, files{"c": {"12", "34"}, "b": {"xyz", "w"}})
	expect(t, "what is not there", d.Rename("a", "b"), api.ErrNone)
	expect(t, "what is not there", d.Rename("a", "a"), api.ErrNone)
	expect(t, "what is not there", d.Rename("a", "new"), api.ErrNone)
	expect(t, "a name that is none", d.Rename("c", ""), api.ErrArg)
	expectFiles(t, "nothing changed", d, files{"c": {"12", "34"}, "b": {"xyz", "w"}})
	expect(t, "to the same name", d.Rename("c", "c"), api.OK)
	expectFiles(t, "to the same name", d, files{"c": {"12", "34"}, "b": {"xyz", "w"}})
	expect(t, "onto a file", d.Rename("c", "b"), api.OK)
	expectFiles(t, "onto a file", d, files{"b": {"12", "34"}})
	expect(t, "Append", d.Append("b", []byte("5")), api.OK)
	expect(t, "Append", d.Append("c", []byte("6")), api.OK)
	expectFiles(t, "Append behind it", d, files{"b": {"12", "345"}, "c": {"", "6"}})
	longer := strings.Repeat("m", 64)
	expect(t, "long names", d.Rename("b", longest), api.OK)
	expect(t, "long names", d.Rename(longest, longer), api.OK)
	expectFiles(t, "long names", d, files{longer: {"12", "345"}, "c": {"", "6"}})
}

func TestRemove(t *testing.T) {
	d := madeOf(t, 100, files{"a": {"12", "34"}, "b": {"xyz", "w"}, "c": {}})
	expect(t, "what is not there", d.Remove("n"), api.ErrNone)
	expect(t, "a file", d.Remove("a"), api.OK)
	expectFiles(t, "a file", d, files{"b": {"xyz", "w"}, "c": {}})
	expect(t, "what was there", d.Remove("a"), api.ErrNone)
	if p, e := d.Read("a"); len(p) != 0 || e != api.ErrNone {
		t.Errorf("Read of what was there: %q, error %d", p, e)
	}
	expect(t, "made again", d.Append("a", []byte("5")), api.OK)
	expectFiles(t, "nothing of it lasts", d, files{"a": {"", "5"}, "b": {"xyz", "w"}, "c": {}})
	expect(t, "all", d.Remove("c", "a", "b"), api.OK)
	expectFiles(t, "all", d, files{})
}

func TestWhatIsDoneToNamesLasts(t *testing.T) {
	d := madeOf(t, 100, files{"a": {"12", "34"}, "b": {"x", ""}, "c": {"y", "z"}})
	expect(t, "Rename", d.Rename("a", "b"), api.OK)
	expect(t, "Remove", d.Remove("c"), api.OK)
	expect(t, "Append", d.Append("e"), api.OK)
	expect(t, "Truncate", d.Truncate("b", 1), api.OK)
	d.Crash(0)
	expectFiles(t, "behind a crash", d, files{"b": {"1", ""}, "e": {}})
}

// P3.4

func TestFuse(t *testing.T) {
	l := files{"a": {"12", "34"}}
	for n := range 20 {
		d := madeOf(t, 100, l)
		d.Fuse(n)
		expectLeft(t, "Fuse", d, n)
		expectLeft(t, "burnt", d, 0)
		d.Fuse(n + 1)
		expectLeft(t, "another one", d, n+1)
		d.Fuse(-1)
		expectNoFuse(t, "no fuse", d)
		expectFiles(t, "Fuse", d, l)
	}
	for _, n := range []int{-1, -2, math.MinInt, math.MaxInt, mostRoom} {
		d := madeOf(t, 100, l)
		d.Fuse(n)
		expectNoFuse(t, "Fuse of "+strconv.Itoa(n), d)
		d.Fuse(2)
		d.Fuse(n)
		expectNoFuse(t, "Fuse of "+strconv.Itoa(n)+" instead of one", d)
	}
}

func TestEachOfTheFiveCounts(t *testing.T) {
	for what, call := range map[string]func(d *disk.Disk) api.Errno{
		"Append":            func(d *disk.Disk) api.Errno { return d.Append("a", []byte("x"), []byte("y"), nil) },
		"Append of no rows": func(d *disk.Disk) api.Errno { return d.Append("new") },
		"Sync":              func(d *disk.Disk) api.Errno { return d.Sync("a") },
		"Truncate":          func(d *disk.Disk) api.Errno { return d.Truncate("a", 4) },
		"Rename":            func(d *disk.Disk) api.Errno { return d.Rename("b", "c") },
		"Remove":            func(d *disk.Disk) api.Errno { return d.Remove("b") },
	} {
		d := madeOf(t, 100, files{"a": {"12", "34"}, "b": {"", "x"}})
		d.Fuse(3)
		expect(t, what, call(d), api.OK)
		expectLeft(t, what, d, 2)
		before := filesOf(t, d)
		d.Fuse(0)
		expect(t, what, call(d), api.ErrDead)
		expectFiles(t, what+" behind the fuse", d, before)
	}
}

func TestWhatErrsDoesNotCount(t *testing.T) {
	d := madeOf(t, 4, files{"a": {"12", "34"}})
	d.Fuse(2)
	for what, call := range fives(d) {
		expect(t, what, call(""), api.ErrArg)
		if !strings.HasPrefix(what, "Append") {
			expect(t, what, call("n"), api.ErrNone)
		}
	}
	expect(t, "Append", d.Append("b", []byte("x")), api.ErrFull)
	expect(t, "Truncate", d.Truncate("a", 5), api.ErrArg)
	expect(t, "Sync of none", d.Sync(), api.OK)
	expect(t, "Remove of none", d.Remove(), api.OK)
	d.Read("a")
	d.List()
	d.Used()
	d.Copy().Append("x")
	expectLeft(t, "what errs and what asks", d, 2)
}

func TestEachOfSeveralNamesCounts(t *testing.T) {
	l := files{"a": {"1", "2"}, "b": {"", "x"}, "c": {"y", "z"}}
	synced := []files{
		l,
		{"a": {"12", ""}, "b": {"", "x"}, "c": {"y", "z"}},
		{"a": {"12", ""}, "b": {"x", ""}, "c": {"y", "z"}},
		{"a": {"12", ""}, "b": {"x", ""}, "c": {"yz", ""}},
	}
	removed := []files{l, {"b": {"", "x"}, "c": {"y", "z"}}, {"c": {"y", "z"}}, {}}
	for n := range 5 {
		want := api.ErrDead
		if n >= 3 {
			want = api.OK
		}
		d := madeOf(t, 100, l)
		d.Fuse(n)
		expect(t, "Sync of several", d.Sync("a", "b", "c"), want)
		expectFiles(t, "Sync of several", d, synced[min(n, 3)])
		expectLeft(t, "Sync of several", d, max(n-3, 0))
		d = madeOf(t, 100, l)
		d.Fuse(n)
		expect(t, "Remove of several", d.Remove("a", "b", "c"), want)
		expectFiles(t, "Remove of several", d, removed[min(n, 3)])
	}
	d := madeOf(t, 100, l)
	d.Fuse(5)
	expect(t, "one that is not there", d.Sync("b", "b", "n", "c"), api.ErrNone)
	expectLeft(t, "one that is not there", d, 3)
	d.Fuse(2)
	expect(t, "burnt ahead of one that is none", d.Sync("b", "c", "", "a"), api.ErrDead)
	d.Fuse(2)
	expect(t, "just so many, then none", d.Sync("b", "c"), api.OK)
	expectLeft(t, "just so many", d, 0)
}

func TestCrash(t *testing.T) {
	const all = "abcdef"
	for lasts := range len(all) + 1 {
		for draw := range 30 {
			d := madeOf(t, 100, files{"a": {all[:lasts], all[lasts:]}})
			d.Crash(draw)
			stay := lasts + draw%(len(all)-lasts+1)
			expectFiles(t, "Crash("+strconv.Itoa(draw)+")", d, files{"a": {all[:stay], ""}})
		}
	}
}

func TestCrashOfSeveral(t *testing.T) {
	l := files{"a": {"12", "345"}, "b": {"", "x"}, "c": {"yz", ""}, "d": {}, "e": {"", "0123456789"}}
	for _, draw := range []int{math.MinInt, -7, -1, 0, 1, 2, 3, 4, 5, 6, 10, 11, 12, 1 << 20, mostRoom, 1<<31 - 1, math.MaxInt - 1, math.MaxInt} {
		d := madeOf(t, 100, l)
		d.Crash(draw)
		want := files{}
		for name, f := range l {
			want[name] = file{f.lasting + f.others[:max(draw, 0)%(len(f.others)+1)], ""}
		}
		expectFiles(t, "Crash("+strconv.Itoa(draw)+")", d, want)
		d.Crash(draw)
		expectFiles(t, "Crash again", d, want)
	}
	d := madeOf(t, 100, l)
	d.Crash(1)
	expect(t, "Append", d.Append("a", []byte("67")), api.OK)
	expectFiles(t, "Append behind a crash", d, files{"a": {"123", "67"}, "b": {"x", ""}, "c": {"yz", ""}, "d": {}, "e": {"0", ""}})
	d.Crash(4)
	expectFiles(t, "Crash behind an Append", d, files{"a": {"1236", ""}, "b": {"x", ""}, "c": {"yz", ""}, "d": {}, "e": {"0", ""}})
	empty := made(t, 0)
	empty.Crash(math.MaxInt)
	expectFiles(t, "Crash of nothing", empty, files{})
}

func TestCrashTakesTheFuse(t *testing.T) {
	for n := range 3 {
		d := madeOf(t, 100, files{"a": {"1", "2"}})
		d.Fuse(n)
		d.Crash(0)
		expectNoFuse(t, "behind a crash", d)
		d.Fuse(1)
		expectLeft(t, "another fuse", d, 1)
		d.Crash(0)
		expectNoFuse(t, "behind a crash, burnt", d)
	}
}

// P3.5

func TestRead(t *testing.T) {
	d := madeOf(t, 100, files{"a": {"12", "34"}, "b": {}, "c": {"\x00\xff", ""}})
	for name, want := range map[string]string{"a": "1234", "b": "", "c": "\x00\xff"} {
		if p, e := d.Read(name); string(p) != want || e != api.OK {
			t.Errorf("%s: %q, error %d; want %q", name, p, e, want)
		}
	}
	for _, name := range []string{"n", "", "A", "a ", "aa", longest, tooLong} {
		if p, e := d.Read(name); len(p) != 0 || e != api.ErrNone {
			t.Errorf("%q: %q, error %d", name, p, e)
		}
	}
}

func TestList(t *testing.T) {
	names := []string{"b", "a", "ab", "B", "\xff", "\x00", "z", "ä", "a~", "a\x00", longest, "10", "9"}
	d := made(t, 0)
	for i, name := range names {
		expect(t, "Append", d.Append(name), api.OK)
		want := slices.Clone(names[:i+1])
		slices.Sort(want)
		if l := d.List(); !slices.Equal(l, want) {
			t.Errorf("%q, want %q", l, want)
		}
	}
}

func TestCopy(t *testing.T) {
	l := files{"a": {"12", "34"}, "b": {"", "x"}, "c": {"y", ""}, "d": {}}
	d := madeOf(t, 10, l)
	d.Fuse(1)
	c := d.Copy()
	expectFiles(t, "a copy", c, l)
	expectNoFuse(t, "a copy", c)
	expectLeft(t, "what was copied", d, 1)
	expectNoFuse(t, "a copy of what is burnt", d.Copy())
	expect(t, "of the same room", c.Append("a", []byte("12345")), api.ErrFull)
	expect(t, "of the same room", c.Append("a", []byte("5678")), api.OK)
	expectFiles(t, "what was copied", d, l)
	d.Fuse(-1)
	expect(t, "Sync", d.Sync("a"), api.OK)
	expect(t, "Append", d.Append("a", []byte("!!!!")), api.OK)
	expect(t, "Remove", d.Remove("b"), api.OK)
	expect(t, "Rename", d.Rename("c", "new"), api.OK)
	expectFiles(t, "the copy", c, files{"a": {"12", "345678"}, "b": {"", "x"}, "c": {"y", ""}, "d": {}})
	c.Fuse(0)
	expectNoFuse(t, "the fuse of a copy is its own", d)
	c.Crash(3)
	expectFiles(t, "the copy crashed", c, files{"a": {"12345", ""}, "b": {"x", ""}, "c": {"y", ""}, "d": {}})
	expectFiles(t, "what was copied", d, files{"a": {"1234", "!!!!"}, "new": {"y", ""}, "d": {}})
	expectFiles(t, "a copy of nothing", made(t, 5).Copy(), files{})
	greatest := made(t, mostRoom).Copy()
	expect(t, "a copy of a great room", greatest.Append("a", make([]byte, 1000)), api.OK)
}

// P3.6

func TestWhatLastsIsNeverTurned(t *testing.T) {
	const lasting = "what lasts"
	d := made(t, 1000)
	expect(t, "Append", d.Append("a", []byte(lasting)), api.OK)
	expect(t, "Sync", d.Sync("a"), api.OK)
	for draw := range 40 {
		expect(t, "Append", d.Append("a", bytes.Repeat([]byte{byte(draw)}, draw)), api.OK)
		if draw%3 == 0 {
			expect(t, "Truncate", d.Truncate("a", len(lasting)+draw/2), api.OK)
		}
		if draw%5 == 0 {
			expect(t, "Rename", d.Rename("a", "b"), api.OK)
			expect(t, "Rename", d.Rename("b", "a"), api.OK)
		}
		d.Crash(draw)
		p, e := d.Read("a")
		if !bytes.HasPrefix(p, []byte(lasting)) || e != api.OK {
			t.Fatalf("behind Crash(%d): %q, error %d", draw, p, e)
		}
		expect(t, "Truncate", d.Truncate("a", len(lasting)), api.OK)
	}
}

func TestAppendKeepsNothing(t *testing.T) {
	all := []byte("abcdefSPARE")
	rows := [][]byte{all[:3], all[3:6], nil}
	d := made(t, 100)
	expect(t, "Append", d.Append("a", rows[:2]...), api.OK)
	expect(t, "Append", d.Append("b", all[:4]), api.OK)
	expect(t, "Append", d.Append("a", []byte("more")), api.OK)
	if string(all) != "abcdefSPARE" || len(rows[0]) != 3 || len(rows[1]) != 3 || rows[2] != nil {
		t.Error("Append changed what was handed in")
	}
	c := d.Copy()
	soil(all)
	clear(rows)
	want := files{"a": {"", "abcdefmore"}, "b": {"", "abcd"}}
	expectFiles(t, "what was handed in has changed", d, want)
	d.Crash(0)
	expectFiles(t, "a copy", c, want)
}

func TestNamesAreLeftAsTheyAre(t *testing.T) {
	d := madeOf(t, 100, files{"a": {"1", ""}, "b": {}, "c": {}})
	names := []string{"c", "b", "c", "a"}
	expect(t, "Sync", d.Sync(names...), api.OK)
	expect(t, "Remove", d.Remove(names[:2]...), api.OK)
	if !slices.Equal(names, []string{"c", "b", "c", "a"}) {
		t.Errorf("names: %q", names)
	}
}

// heap is how many bytes are in use.
func heap() int {
	var m runtime.MemStats
	runtime.GC()
	runtime.ReadMemStats(&m)
	return int(m.HeapAlloc)
}

func TestWhatIsCutOffIsNotKept(t *testing.T) {
	const size, many = 1 << 20, 64
	row := make([]byte, size)
	before := heap()
	d := made(t, size)
	for i := range many {
		name := "f" + strconv.Itoa(i)
		expect(t, "Append", d.Append(name, row), api.OK)
		if i%2 == 0 {
			expect(t, "Truncate", d.Truncate(name, 0), api.OK)
		} else {
			d.Crash(0)
		}
	}
	if more := heap() - before; more > many*size/4 {
		t.Errorf("%d bytes are kept for files of none", more)
	}
	if len(d.List()) != many || d.Used() != 0 {
		t.Errorf("%d files, %d bytes", len(d.List()), d.Used())
	}
}

func TestAnswersAreNewMemory(t *testing.T) {
	l := files{"a": {"12", "34"}, "b": {"5", ""}, "c": {"6", "7"}}
	d := madeOf(t, 1000, l)
	first, _ := d.Read("a")
	second, _ := d.Read("a")
	names, again := d.List(), d.List()
	soil(first)
	_ = append(first, "overwritten"...)
	clear(names[:cap(names)])
	if string(second) != "1234" || !slices.Equal(again, []string{"a", "b", "c"}) {
		t.Errorf("an answer changed: %q, %q", second, again)
	}
	expectFiles(t, "an answer was changed", d, l)
	expect(t, "Append", d.Append("a", []byte("behind")), api.OK)
	expect(t, "Truncate", d.Truncate("a", 1), api.OK)
	expect(t, "Append", d.Append("a", []byte("other")), api.OK)
	d.Crash(2)
	expect(t, "Remove", d.Remove("b", "c"), api.OK)
	if string(second) != "1234" || !slices.Equal(again, []string{"a", "b", "c"}) {
		t.Errorf("an answer changed behind other calls: %q, %q", second, again)
	}
}

func TestNilDisk(t *testing.T) {
	var d *disk.Disk
	for _, name := range []string{"a", "", tooLong} {
		for what, call := range fives(d) {
			expect(t, what+" of a nil Disk", call(name), api.ErrArg)
		}
		expect(t, "Sync of several", d.Sync(name, "b"), api.ErrArg)
		expect(t, "Remove of several", d.Remove(name, "b"), api.ErrArg)
		if p, e := d.Read(name); len(p) != 0 || e != api.ErrNone {
			t.Errorf("Read: %q, error %d", p, e)
		}
	}
	expect(t, "Sync of none", d.Sync(), api.ErrArg)
	expect(t, "Remove of none", d.Remove(), api.ErrArg)
	d.Fuse(0)
	d.Fuse(-1)
	d.Crash(0)
	d.Crash(math.MaxInt)
	if len(d.List()) != 0 || d.Used() != 0 || d.Copy() != nil {
		t.Error("a nil Disk has something")
	}
	expect(t, "behind a fuse", d.Append("a"), api.ErrArg)
}

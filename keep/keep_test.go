package keep_test

import (
	"bytes"
	"encoding/binary"
	"hash/crc32"
	"maps"
	"math"
	"slices"
	"strconv"
	"strings"
	"testing"

	"letterbox/api"
	"letterbox/disk"
	"letterbox/keep"
)

const (
	roomy = 1 << 22
	extra = 12 // bytes that a record has beside what it holds
)

var (
	longest = strings.Repeat("n", 60)
	tooLong = strings.Repeat("n", 61)
)

// files is what a disk holds, byte by byte.
type files map[string]string

// recordOf is the record of a text, worked out without the program's packages.
func recordOf(text string) string {
	b := binary.LittleEndian.AppendUint32(nil, uint32(len(text)))
	b = binary.LittleEndian.AppendUint32(b, crc32.ChecksumIEEE(b))
	b = append(b, text...)
	return string(binary.LittleEndian.AppendUint32(b, crc32.ChecksumIEEE(b)))
}

func made(t *testing.T, room int) *disk.Disk {
	t.Helper()
	d, e := disk.New(room)
	if d == nil || e != api.OK {
		t.Fatalf("New(%d): %v, error %d", room, d, e)
	}
	return d
}

// madeOf is a disk with files that last.
func madeOf(t *testing.T, room int, l files) *disk.Disk {
	t.Helper()
	d := made(t, room)
	for name, text := range l {
		expect(t, "Append", d.Append(name, []byte(text)), api.OK)
		expect(t, "Sync", d.Sync(name), api.OK)
	}
	return d
}

func expect(t *testing.T, what string, got, want api.Errno) {
	t.Helper()
	if got != want {
		t.Errorf("%s: error %d, want %d", what, got, want)
	}
}

func filesOf(t *testing.T, d *disk.Disk) files {
	t.Helper()
	l := files{}
	for _, name := range d.List() {
		b, e := d.Read(name)
		expect(t, "Read", e, api.OK)
		l[name] = string(b)
	}
	return l
}

// expectFiles asks a disk for just these files.
func expectFiles(t *testing.T, what string, d *disk.Disk, want files) {
	t.Helper()
	if got := filesOf(t, d); !maps.Equal(got, want) {
		t.Errorf("%s: %.500q, want %.500q", what, got, want)
	}
}

// expectLasting asks a disk for just these files, now and behind a crash.
func expectLasting(t *testing.T, what string, d *disk.Disk, want files) {
	t.Helper()
	expectFiles(t, what, d, want)
	crashed := d.Copy()
	crashed.Crash(0)
	expectFiles(t, what+", behind a crash", crashed, want)
}

// expectLoad asks for what a file holds.
func expectLoad(t *testing.T, what string, d *disk.Disk, name, want string) {
	t.Helper()
	if p, e := keep.Load(d, name); e != api.OK || string(p) != want {
		t.Errorf("%s: Load(%.70q): %.100q, error %d; want %.100q", what, name, p, e, want)
	}
}

// expectNoLoad asks for an error of Load, with nothing beside it.
func expectNoLoad(t *testing.T, what string, d *disk.Disk, name string, want api.Errno) {
	t.Helper()
	if p, e := keep.Load(d, name); e != want || len(p) != 0 {
		t.Errorf("%s: Load(%.70q): %.100q, error %d; want error %d", what, name, p, e, want)
	}
}

// rowsOf is texts as rows of bytes.
func rowsOf(texts ...string) [][]byte {
	var rows [][]byte
	for _, text := range texts {
		rows = append(rows, []byte(text))
	}
	return rows
}

// manyFiles is so many files of nothing.
func manyFiles(n int) files {
	l := files{}
	for i := range n {
		l["f"+strconv.Itoa(i)] = ""
	}
	return l
}

// withAll is a copy of files, and others beside.
func withAll(l, more files) files {
	all := maps.Clone(l)
	maps.Copy(all, more)
	return all
}

// soil overwrites a list and the spare room behind its end.
func soil(p []byte) {
	p = p[:cap(p)]
	for i := range p {
		p[i] ^= 0xff
	}
}

// P4.1

func TestSave(t *testing.T) {
	full := strings.Repeat("full", api.MaxFrame/4)
	for what, rows := range map[string][][]byte{
		"no rows":            nil,
		"an empty list":      {},
		"a nil row":          {nil},
		"an empty row":       {{}},
		"empty and nil rows": {nil, {}, nil, {}},
		"a row":              rowsOf("abc"),
		"several rows":       rowsOf("ab", "cdef", "g"),
		"nil rows between":   {nil, []byte("ab"), nil, {}, []byte("c"), nil},
		"all kinds of bytes": rowsOf("\x00\xff\r\n", "~", "\x80"),
		"a record":           rowsOf(recordOf("within")),
		"very many rows":     make([][]byte, 1<<16),
		"as much as fits":    rowsOf(full),
		"as much, in rows":   rowsOf(full[:5], "", full[5:]),
	} {
		want := string(bytes.Join(rows, nil))
		d := madeOf(t, roomy, files{"other": "junk"})
		expect(t, what, keep.Save(d, "a", rows...), api.OK)
		expectLasting(t, what, d, files{"other": "junk", "a": recordOf(want)})
		expectLoad(t, what, d, "a", want)
		d.Crash(0)
		expectLoad(t, what+", behind a crash", d, "a", want)
	}
}

func TestSaveTheExample(t *testing.T) {
	d := made(t, 100)
	expect(t, "Save", keep.Save(d, "a", []byte("12"), []byte("3")), api.OK)
	d.Crash(0)
	expectLoad(t, "the example", d, "a", "123")
}

func TestSaveAgain(t *testing.T) {
	d := made(t, roomy)
	want := files{}
	for i, text := range []string{"short", strings.Repeat("longer", 100), "", "x", "x", "", strings.Repeat("y", 1<<16), "end"} {
		for _, name := range []string{"a", "b", "aa"} {
			held := text + name + strconv.Itoa(i)
			expect(t, "Save", keep.Save(d, name, []byte(text), []byte(name), []byte(strconv.Itoa(i))), api.OK)
			want[name] = recordOf(held)
			expectLasting(t, "saved again", d, want)
			expectLoad(t, "saved again", d, name, held)
		}
	}
	for what, ahead := range map[string]string{"junk": "junk", "nothing": "", "two records": recordOf("x") + recordOf("y")} {
		d := madeOf(t, 1000, files{"a": ahead})
		expect(t, "Save over "+what, keep.Save(d, "a", []byte("new")), api.OK)
		expectLasting(t, "Save over "+what, d, files{"a": recordOf("new")})
	}
}

func TestNamesOfSave(t *testing.T) {
	good := []string{"a", longest[:59], longest, "\x00", "\xff\xfe", "~", "a~", "/", "..", " ", "a\r\nb", strings.Repeat("~", 60), strings.Repeat("\x80", 60), strings.Repeat("ä", 30)}
	bad := []string{"", tooLong, tooLong + "nn", tooLong + "nnn", tooLong + "nnnn", strings.Repeat("ä", 31), strings.Repeat("x", 1<<20)}
	for _, name := range good {
		d := made(t, 1000)
		for _, text := range []string{"old", "newer"} {
			expect(t, "a good name", keep.Save(d, name, []byte(text)), api.OK)
			expectLasting(t, "a good name", d, files{name: recordOf(text)})
			expectLoad(t, "a good name", d, name, text)
		}
	}
	l := files{"a": recordOf("old"), "~": "junk", "a~": "junk", tooLong: "junk", tooLong + "~": "junk"}
	d := madeOf(t, 1000, l)
	d.Fuse(0)
	for _, name := range bad {
		expect(t, "a name that is none", keep.Save(d, name, []byte("new")), api.ErrArg)
		expect(t, "a name that is none, of no rows", keep.Save(d, name), api.ErrArg)
		expect(t, "a name that is none, of too much", keep.Save(d, name, make([]byte, api.MaxFrame+1)), api.ErrArg)
	}
	expectLasting(t, "names that are none", d, l)
}

func TestSaveTooMuch(t *testing.T) {
	full := strings.Repeat("full", api.MaxFrame/4)
	l := files{"a": recordOf("old"), "a~": "junk"}
	d := madeOf(t, roomy, l)
	for what, rows := range map[string][][]byte{
		"one row":    rowsOf(full + "x"),
		"a row more": rowsOf(full, "x"),
		"a row less": rowsOf("x", "", full),
		"two":        rowsOf(full, full),
		"very much":  slices.Repeat(rowsOf(full), 5000),
	} {
		expect(t, what, keep.Save(d, "a", rows...), api.ErrLong)
		expect(t, what+", of what is not there", keep.Save(d, "b", rows...), api.ErrLong)
		expectLasting(t, what, d, l)
	}
}

func TestOrderOfTheErrorsOfSave(t *testing.T) {
	long := make([]byte, api.MaxFrame+1)
	l := files{"a": recordOf("old"), "a~": "junk"}
	d := madeOf(t, 19, l) // its room is full
	d.Fuse(0)
	expect(t, "a bad name, too much, a burnt fuse", keep.Save(d, "", long), api.ErrArg)
	expect(t, "a bad name, too much, a burnt fuse", keep.Save(d, tooLong, long), api.ErrArg)
	expect(t, "a bad name, a burnt fuse", keep.Save(d, tooLong), api.ErrArg)
	expect(t, "too much, a burnt fuse", keep.Save(d, "a", long), api.ErrLong)
	expect(t, "too much, a burnt fuse", keep.Save(d, longest, long), api.ErrLong)
	expect(t, "a burnt fuse, no room", keep.Save(d, "a", make([]byte, 100)), api.ErrDead)
	expect(t, "a burnt fuse, no room", keep.Save(d, "b", make([]byte, 100)), api.ErrDead)
	d.Fuse(-1)
	expect(t, "too much, no room", keep.Save(d, "b", long), api.ErrLong)
	expect(t, "no room", keep.Save(d, "b"), api.ErrFull)
	expectLasting(t, "errors", d, l)
	for _, name := range []string{"a", "", tooLong, longest} {
		expect(t, "a nil Disk", keep.Save(nil, name, []byte("x")), api.ErrArg)
		expect(t, "a nil Disk, no rows", keep.Save(nil, name), api.ErrArg)
		expect(t, "a nil Disk, too much", keep.Save(nil, name, long), api.ErrArg)
	}
}

func TestWhatWasLeftBehind(t *testing.T) {
	for _, left := range []string{"", "x", "junk", recordOf("new"), recordOf("other"), recordOf("other")[:9], strings.Repeat("junk", 100)} {
		for _, lasting := range []int{0, len(left) / 2, len(left)} {
			d := madeOf(t, 1000, files{"a": recordOf("old"), "a~": left[:lasting]})
			expect(t, "Append", d.Append("a~", []byte(left[lasting:])), api.OK)
			expectLoad(t, "with something left behind", d, "a", "old")
			expect(t, "Save", keep.Save(d, "a", []byte("new")), api.OK)
			expectLasting(t, "Save", d, files{"a": recordOf("new")})
		}
	}
	l := files{"a~": "junk", "b~": "junk", "b~~": "junk", "~": "junk"}
	d := madeOf(t, 1000, l)
	expect(t, "Save", keep.Save(d, "b", []byte("new")), api.OK)
	expectLasting(t, "what another name left behind", d, files{"a~": "junk", "b": recordOf("new"), "b~~": "junk", "~": "junk"})
	expect(t, "Save", keep.Save(d, "b~", []byte("newer")), api.OK)
	expectLasting(t, "a name with ~ at its end", d, files{"a~": "junk", "b": recordOf("new"), "b~": recordOf("newer"), "~": "junk"})
}

func TestRoom(t *testing.T) {
	for _, text := range []string{"", "x", "four", strings.Repeat("much", 300)} {
		size := len(text) + extra
		for what, l := range map[string]files{
			"nothing else": {},
			"an old one":   {"a": recordOf("the old one")},
			"others":       {"a": recordOf("the old one"), "b": "junk", "c~": "junk"},
		} {
			used := 0
			for _, text := range l {
				used += len(text)
			}
			d := madeOf(t, used+size, l)
			expect(t, what+", just enough", keep.Save(d, "a", []byte(text)), api.OK)
			expectLasting(t, what+", just enough", d, withAll(l, files{"a": recordOf(text)}))
			for less := range min(size, 20) {
				d := madeOf(t, used+size-1-less, l)
				expect(t, what+", too little", keep.Save(d, "a", []byte(text)), api.ErrFull)
				expectLasting(t, what+", too little", d, l)
			}
			d = madeOf(t, used+size-1, withAll(l, files{"a~": "x"}))
			expect(t, what+", too little even of what is Removed", keep.Save(d, "a", []byte(text)), api.ErrFull)
			expectLasting(t, what+", too little even of what is Removed", d, l)
			d = madeOf(t, used+size, withAll(l, files{"a~": strings.Repeat("x", size)}))
			expect(t, what+", just enough of what is Removed", keep.Save(d, "a", []byte(text)), api.OK)
			expectLasting(t, what+", just enough of what is Removed", d, withAll(l, files{"a": recordOf(text)}))
		}
	}
	d := made(t, 0)
	expect(t, "no room at all", keep.Save(d, "a"), api.ErrFull)
	expectLasting(t, "no room at all", d, files{})
	expect(t, "a disk that nobody made", keep.Save(&disk.Disk{}, "a"), api.ErrFull)
}

func TestFullOfFiles(t *testing.T) {
	full := withAll(manyFiles(api.MaxFiles-1), files{"a": recordOf("old")})
	d := madeOf(t, 1000, full)
	expect(t, "a new one", keep.Save(d, "b", []byte("new")), api.ErrFull)
	expect(t, "one that is there", keep.Save(d, "a", []byte("new")), api.ErrFull)
	expectLasting(t, "full of files", d, full)

	expect(t, "Rename", d.Rename("f0", "a~"), api.OK)
	expect(t, "one that was left behind", keep.Save(d, "a", []byte("new")), api.OK)
	less := withAll(full, files{"a": recordOf("new")})
	delete(less, "f0")
	expectLasting(t, "one that was left behind", d, less)

	expect(t, "place for one, that is there", keep.Save(d, "a", []byte("newer")), api.OK)
	expect(t, "place for one", keep.Save(d, "b", []byte("new")), api.OK)
	expect(t, "no place for one more", keep.Save(d, "c", []byte("new")), api.ErrFull)
	expectLasting(t, "full again", d, withAll(less, files{"a": recordOf("newer"), "b": recordOf("new")}))
}

// states is what a disk holds, and what it would hold behind a crash.
type states struct{ now, lasting files }

func TestSaveStepByStep(t *testing.T) {
	old, fresh, junk := recordOf("old"), recordOf("new"), "junk"
	behind := []states{ // behind so many things: Removed, Appended, Synced, Renamed
		{files{"a": old, "a~": junk}, files{"a": old, "a~": junk}},
		{files{"a": old}, files{"a": old}},
		{files{"a": old, "a~": fresh}, files{"a": old, "a~": ""}},
		{files{"a": old, "a~": fresh}, files{"a": old, "a~": fresh}},
		{files{"a": fresh}, files{"a": fresh}},
	}
	for _, left := range []bool{true, false} {
		steps := behind
		if !left { // nothing is Removed
			steps = behind[1:]
		}
		for fuse, want := range steps {
			d := madeOf(t, 1000, steps[0].now)
			d.Fuse(fuse)
			e := keep.Save(d, "a", []byte("n"), []byte("ew"))
			if fuse < len(steps)-1 {
				expect(t, "Save over a burning fuse", e, api.ErrDead)
			} else {
				expect(t, "Save with a fuse that is long enough", e, api.OK)
			}
			expect(t, "all of the fuse is burnt", d.Append("a"), api.ErrDead)
			expectFiles(t, "behind "+strconv.Itoa(fuse), d, want.now)
			d.Crash(0)
			expectFiles(t, "behind a crash, behind "+strconv.Itoa(fuse), d, want.lasting)
		}
	}
}

// P4.2

func TestLoad(t *testing.T) {
	l := files{}
	for _, name := range []string{"a", "a~", "~", "\x00", longest, tooLong, strings.Repeat("n", 64)} {
		l[name] = recordOf("of " + name)
	}
	l["empty"] = recordOf("")
	l["full"] = recordOf(strings.Repeat("full", api.MaxFrame/4))
	l["nested"] = recordOf(recordOf("x"))
	d := madeOf(t, roomy, l)
	for name, record := range l {
		expectLoad(t, "a record", d, name, record[8:len(record)-4])
	}
	expect(t, "Append", d.Append("new", []byte(recordOf("new"))), api.OK)
	expectLoad(t, "what does not last yet", d, "new", "new")
	d.Fuse(0)
	expectLoad(t, "behind a burnt fuse", d, "a", "of a")
	expectNoLoad(t, "behind a burnt fuse", d, "none", api.ErrNone)
	d.Fuse(1)
	expectLoad(t, "a fuse", d, "a", "of a")
	expect(t, "Load burns no fuse", d.Rename("a", "a"), api.OK)
	d.Crash(0)
	expectFiles(t, "Load changes nothing", d, withAll(l, files{"new": ""}))
}

func TestLoadOfWhatIsNotThere(t *testing.T) {
	d := madeOf(t, 1000, files{"a": recordOf("x"), "b~": recordOf("y"), "c": "junk"})
	for _, name := range []string{"b", "A", "", "a~", "aa", "a\x00", "~", longest, tooLong, strings.Repeat("a", 1<<20)} {
		expectNoLoad(t, "not there", d, name, api.ErrNone)
		expectNoLoad(t, "on a disk that nobody made", &disk.Disk{}, name, api.ErrNone)
	}
	for _, name := range []string{"a", "b", "c", "", longest, tooLong} {
		expectNoLoad(t, "a nil Disk", nil, name, api.ErrArg)
	}
}

func TestLoadOfWhatIsNoRecord(t *testing.T) {
	expectForm := func(what, text string) {
		t.Helper()
		l := files{"a": text}
		d := madeOf(t, roomy, l)
		expectNoLoad(t, what, d, "a", api.ErrForm)
		expectLasting(t, what, d, l)
	}
	for _, text := range []string{"", "x", "some text"} {
		good := recordOf(text)
		for n := range len(good) {
			expectForm("a torn record", good[:n])
			for _, turn := range []byte{1, 0x80, 0xff} {
				spoilt := []byte(good)
				spoilt[n] ^= turn
				expectForm("a spoilt record", string(spoilt))
				expectForm("a spoilt record and a byte", string(spoilt)+"x")
			}
		}
		for _, more := range []string{"x", "\x00", "\r\n", good, recordOf(""), recordOf("y")[:8]} {
			expectForm("a record with bytes behind", good+more)
			expectForm("a record with bytes ahead", more+good)
		}
	}
	long := binary.LittleEndian.AppendUint32(nil, api.MaxFrame+1)
	long = binary.LittleEndian.AppendUint32(long, crc32.ChecksumIEEE(long))
	expectForm("one that tells too much", string(long))
	expectForm("a great one that is too long", recordOf(strings.Repeat("x", api.MaxFrame+1)))
	for _, n := range []int{0, 1, 7, 8, 11, 12, 13, 1000} {
		expectForm("zeros", strings.Repeat("\x00", n))
		expectForm("others", strings.Repeat("\xff", n))
	}
}

// P4.3

func TestClear(t *testing.T) {
	names := []string{"a", "a~", "ab", "ab~", "abc", "b", "b~", "~", "A", "\x00", "\xff", longest, tooLong, strings.Repeat("n", 64)}
	for _, c := range []struct {
		prefix     string
		stay, gone []string
	}{
		{"", nil, names},
		{"", []string{}, names},
		{"", names, nil},
		{"", []string{"a"}, slices.DeleteFunc(slices.Clone(names), func(name string) bool { return name == "a" })},
		{"", names[2:], names[:2]},
		{"", []string{""}, names},
		{"a", nil, []string{"a", "a~", "ab", "ab~", "abc"}},
		{"a", []string{"a"}, []string{"a~", "ab", "ab~", "abc"}},
		{"a", []string{"a", "abc"}, []string{"a~", "ab", "ab~"}},
		{"a", []string{"abc", "a", "abc"}, []string{"a~", "ab", "ab~"}},
		{"a", []string{"none", "b", "", "ac", "abcd", "A", tooLong, "ab"}, []string{"a", "a~", "ab~", "abc"}},
		{"a", []string{"a~", "ab~"}, []string{"a", "ab", "abc"}},
		{"ab", nil, []string{"ab", "ab~", "abc"}},
		{"abc", nil, []string{"abc"}},
		{"abc", []string{"abc"}, nil},
		{"abcd", nil, nil},
		{"a~", nil, []string{"a~"}},
		{"b", []string{"b~"}, []string{"b"}},
		{"b", []string{"b"}, []string{"b~"}},
		{"~", nil, []string{"~"}},
		{"\x00", nil, []string{"\x00"}},
		{"\xff", nil, []string{"\xff"}},
		{"n", nil, []string{longest, tooLong, strings.Repeat("n", 64)}},
		{tooLong, nil, []string{tooLong, strings.Repeat("n", 64)}},
		{longest, []string{tooLong}, []string{longest, strings.Repeat("n", 64)}},
		{strings.Repeat("n", 65), nil, nil},
		{strings.Repeat("n", 1<<20), []string{strings.Repeat("n", 1<<20)}, nil},
		{"none", []string{"a"}, nil},
	} {
		l := files{}
		for i, name := range names {
			l[name] = recordOf(name)[i:]
		}
		d := madeOf(t, 10000, l)
		for range 2 { // the second time nothing is left to do
			expect(t, "Clear", keep.Clear(d, c.prefix, c.stay...), api.OK)
			for _, name := range c.gone {
				delete(l, name)
			}
			expectLasting(t, "Clear("+strconv.Quote(c.prefix)+", "+strconv.Itoa(len(c.stay))+")", d, l)
		}
	}
}

func TestClearOfNothing(t *testing.T) {
	for _, d := range []*disk.Disk{made(t, 0), {}} {
		for _, prefix := range []string{"", "a", tooLong} {
			expect(t, "no files", keep.Clear(d, prefix), api.OK)
			expect(t, "no files", keep.Clear(d, prefix, "", "a"), api.OK)
		}
		expectFiles(t, "no files", d, files{})
	}
	for _, prefix := range []string{"", "a", tooLong} {
		expect(t, "a nil Disk", keep.Clear(nil, prefix), api.ErrArg)
		expect(t, "a nil Disk", keep.Clear(nil, prefix, "a", ""), api.ErrArg)
	}
}

func TestClearGoesByNames(t *testing.T) {
	l := files{}
	order := []string{"p1", "p10", "p2", "p2~", "pa", "pb", "pä", "p\xff"}
	for _, i := range []int{5, 2, 7, 0, 6, 3, 1, 4} {
		l[order[i]] = strings.Repeat("x", i)
	}
	l["P"], l["o"], l["q"] = "", "", ""
	for fuse := range len(order) {
		for _, stay := range [][]string{nil, {"pb"}, {"pb", "none", "p1", "q"}} {
			d := madeOf(t, 1000, l)
			d.Fuse(fuse)
			gone := slices.DeleteFunc(slices.Clone(order), func(name string) bool { return slices.Contains(stay, name) })
			want := api.OK
			if fuse < len(gone) {
				gone, want = gone[:fuse], api.ErrDead
			}
			expect(t, "Clear over a fuse", keep.Clear(d, "p", stay...), want)
			left := maps.Clone(l)
			for _, name := range gone {
				delete(left, name)
			}
			expectLasting(t, "Clear over a fuse of "+strconv.Itoa(fuse), d, left)
		}
	}
}

func TestClearBurnsOnlyWhatItRemoves(t *testing.T) {
	l := files{"p1": "", "p2": "x", "q": ""}
	d := madeOf(t, 1000, l)
	d.Fuse(0)
	expect(t, "nothing to do", keep.Clear(d, "r"), api.OK)
	expect(t, "all stay", keep.Clear(d, "p", "p1", "p2"), api.OK)
	expect(t, "one is to go", keep.Clear(d, "p", "p1"), api.ErrDead)
	expect(t, "all are to go", keep.Clear(d, ""), api.ErrDead)
	expectFiles(t, "behind a burnt fuse", d, l)
	d.Fuse(2)
	expect(t, "a fuse of just so much", keep.Clear(d, "p"), api.OK)
	expect(t, "behind it", d.Append("q"), api.ErrDead)
	expectFiles(t, "a fuse of just so much", d, files{"q": ""})
}

func TestClearOfVeryMuch(t *testing.T) {
	d := madeOf(t, 1000, manyFiles(api.MaxFiles))
	stay := make([]string, 1<<18)
	for i := range stay {
		stay[i] = "f" + strconv.Itoa(10+i)
	}
	expect(t, "Clear", keep.Clear(d, "f", stay...), api.OK)
	left := manyFiles(api.MaxFiles)
	for i := range 10 {
		delete(left, "f"+strconv.Itoa(i))
	}
	expectLasting(t, "very many stay", d, left)
	expect(t, "Clear", keep.Clear(d, ""), api.OK)
	expectLasting(t, "all are gone", d, files{})
}

// P4.4

var draws = []int{math.MinInt, -2, -1, 0, 1, 2, 3, 7, 11, 12, 13, 14, 15, 16, 17, 100, 1 << 20, math.MaxInt - 1, math.MaxInt}

func TestSaveBehindACrash(t *testing.T) {
	for what, l := range map[string]files{
		"nothing":                   {},
		"an old one":                {"a": recordOf("old")},
		"junk behind":               {"a": recordOf("old"), "a~": "junk"},
		"a whole one behind":        {"a": recordOf("old"), "a~": recordOf("other")},
		"nothing, and junk behind":  {"a~": "junk"},
		"an old one, an empty file": {"a": recordOf("old"), "a~": ""},
	} {
		for fuse := -1; fuse < 6; fuse++ {
			for _, draw := range draws {
				d := madeOf(t, 1000, l)
				d.Fuse(fuse)
				e := keep.Save(d, "a", []byte("ne"), []byte("w"))
				d.Crash(draw)
				p, f := keep.Load(d, "a")
				isOld := l["a"] == "" && f == api.ErrNone || l["a"] != "" && f == api.OK && string(p) == "old"
				isNew := f == api.OK && string(p) == "new"
				if !isNew && (e == api.OK || !isOld) {
					t.Errorf("%s, fuse %d, draw %d: Save error %d; Load %q, error %d", what, fuse, draw, e, p, f)
				}
				expect(t, "Save again", keep.Save(d, "a", []byte("newer")), api.OK)
				d.Crash(draw)
				expectLasting(t, "Save again", d, files{"a": recordOf("newer")})
			}
		}
	}
}

func TestClearBehindACrash(t *testing.T) {
	names := []string{"p1", "p2", "p3", "p4"}
	for fuse := -1; fuse < 6; fuse++ {
		for _, draw := range draws {
			d := made(t, 1000)
			for _, name := range append(names, "q") {
				expect(t, "Save", keep.Save(d, name, []byte("of "), []byte(name)), api.OK)
			}
			expect(t, "Append", d.Append("p4~", []byte("junk")), api.OK)
			d.Fuse(fuse)
			e := keep.Clear(d, "p", "p2")
			d.Crash(draw)
			expectLoad(t, "what stays", d, "p2", "of p2")
			expectLoad(t, "what has not the prefix", d, "q", "of q")
			for _, name := range []string{"p1", "p3", "p4"} {
				p, f := keep.Load(d, name)
				if f != api.ErrNone && (e == api.OK || f != api.OK || string(p) != "of "+name) {
					t.Errorf("fuse %d, draw %d: Clear error %d; Load(%q): %q, error %d", fuse, draw, e, name, p, f)
				}
			}
			expect(t, "Clear again", keep.Clear(d, "p", "p2"), api.OK)
			expectLasting(t, "Clear again", d, files{"p2": recordOf("of p2"), "q": recordOf("of q")})
		}
	}
}

func TestNothingIsKept(t *testing.T) {
	all := []byte("abcdefSPARE")
	rows := [][]byte{all[:3], all[3:6], nil}
	d := made(t, 1000)
	expect(t, "Save", keep.Save(d, "a", rows[:2]...), api.OK)
	expect(t, "Save", keep.Save(d, "b", all[:4]), api.OK)
	if string(all) != "abcdefSPARE" || len(rows[0]) != 3 || len(rows[1]) != 3 || rows[2] != nil {
		t.Errorf("Save changed what was handed in: %q, %q", all, rows)
	}
	soil(all)
	clear(rows)
	want := files{"a": recordOf("abcdef"), "b": recordOf("abcd")}
	expectLasting(t, "what was handed in has changed", d, want)

	stay := []string{"c", "b", "c", "a", "spare"}
	expect(t, "Clear", keep.Clear(d, "", stay[:4]...), api.OK)
	expect(t, "Clear", keep.Clear(d, "c", stay[:1]...), api.OK)
	if !slices.Equal(stay, []string{"c", "b", "c", "a", "spare"}) {
		t.Errorf("Clear changed what was handed in: %q", stay)
	}
	clear(stay)
	expectLasting(t, "Clear", d, want)
}

func TestAnswersAreNewMemory(t *testing.T) {
	d := made(t, 1000)
	expect(t, "Save", keep.Save(d, "a", []byte("abcdef")), api.OK)
	first, _ := keep.Load(d, "a")
	second, _ := keep.Load(d, "a")
	soil(first)
	_ = append(first, "overwritten"...)
	expectLoad(t, "an answer was changed", d, "a", "abcdef")
	expectLasting(t, "an answer was changed", d, files{"a": recordOf("abcdef")})
	expect(t, "Truncate", d.Truncate("a", 0), api.OK)
	expect(t, "Append", d.Append("a", []byte(strings.Repeat("x", 18))), api.OK)
	expect(t, "Save", keep.Save(d, "a", []byte("ghijkl")), api.OK)
	expect(t, "Clear", keep.Clear(d, ""), api.OK)
	d.Crash(0)
	if string(second) != "abcdef" {
		t.Errorf("an answer changed: %q", second)
	}
}

package ledger_test

import (
	"encoding/binary"
	"hash/crc32"
	"maps"
	"math"
	"slices"
	"strconv"
	"strings"
	"testing"

	"letterbox/api"
	"letterbox/disk"
	"letterbox/ledger"
)

const (
	roomy  = 1 << 22
	most   = 1 << 40 // the greatest number
	prefix = "a"
	image  = "a-img"
	log    = "a-log"
	draft  = "a-img~"
)

// files is what a disk holds, byte by byte.
type files map[string]string

// state is what a ledger tells.
type state struct {
	base    int
	data    string
	entries []string
}

func (s state) last() int { return s.base + len(s.entries) }

// with is the state behind further entries.
func (s state) with(entries ...string) state {
	s.entries = append(slices.Clone(s.entries), entries...)
	return s
}

func (s state) is(other state) bool {
	return s.base == other.base && s.data == other.data && slices.Equal(s.entries, other.entries)
}

// String is short enough to be read.
func (s state) String() string {
	text := strconv.Itoa(s.base) + " " + strconv.Quote(s.data) + " " + strings.Join(s.entries, ", ")
	return text[:min(len(text), 300)]
}

// recordOf is the record of a text, worked out without the program's packages, as all that follows is.
func recordOf(text string) string {
	b := binary.LittleEndian.AppendUint32(nil, uint32(len(text)))
	b = binary.LittleEndian.AppendUint32(b, crc32.ChecksumIEEE(b))
	b = append(b, text...)
	return string(binary.LittleEndian.AppendUint32(b, crc32.ChecksumIEEE(b)))
}

// laid is a number and a text in one row.
func laid(number uint64, text string) string {
	b := binary.AppendUvarint(nil, number)
	b = binary.AppendUvarint(b, uint64(len(text)))
	return string(b) + text
}

// numbered is a record of a number and a text: an image, or an entry of a log.
func numbered(number int, text string) string { return recordOf(laid(uint64(number), text)) }

// logOf is a log of entries from that number on.
func logOf(first int, entries ...string) string {
	text := ""
	for i, entry := range entries {
		text += numbered(first+i, entry)
	}
	return text
}

// filesIn is what a ledger of that state has on its disk.
func filesIn(s state) files {
	l := files{}
	if s.base > 0 || s.data != "" {
		l[image] = numbered(s.base, s.data)
	}
	if len(s.entries) > 0 {
		l[log] = logOf(s.base+1, s.entries...)
	}
	return l
}

// withAll is a copy of files, and others beside.
func withAll(l, more files) files {
	all := maps.Clone(l)
	maps.Copy(all, more)
	return all
}

func expect(t *testing.T, what string, got, want api.Errno) {
	t.Helper()
	if got != want {
		t.Errorf("%s: error %d, want %d", what, got, want)
	}
}

// madeOf is a disk with files that last.
func madeOf(t *testing.T, room int, l files) *disk.Disk {
	t.Helper()
	d, e := disk.New(room)
	expect(t, "New", e, api.OK)
	for name, text := range l {
		expect(t, "Append", d.Append(name, []byte(text)), api.OK)
		expect(t, "Sync", d.Sync(name), api.OK)
	}
	return d
}

func opened(t *testing.T, what string, d *disk.Disk) *ledger.Ledger {
	t.Helper()
	l, e := ledger.Open(d, prefix)
	if l == nil || e != api.OK {
		t.Fatalf("%s: Open: error %d", what, e)
	}
	return l
}

// openedOf is a ledger of that state, on a disk of its own.
func openedOf(t *testing.T, s state) (*ledger.Ledger, *disk.Disk) {
	t.Helper()
	d := madeOf(t, roomy, filesIn(s))
	return opened(t, "a good ledger", d), d
}

// expectNoOpen asks for an error of Open, with nothing beside it.
func expectNoOpen(t *testing.T, what string, d *disk.Disk, prefix string, want api.Errno) {
	t.Helper()
	if l, e := ledger.Open(d, prefix); l != nil || e != want {
		t.Errorf("%s: Open: %v, error %d; want error %d", what, l, e, want)
	}
}

// stateOf is what a ledger tells by Base, Last and At.
func stateOf(t *testing.T, what string, l *ledger.Ledger) state {
	t.Helper()
	base, data := l.Base()
	s := state{base: base, data: string(data)}
	for i := base + 1; i <= l.Last(); i++ {
		p, e := l.At(i)
		expect(t, what+": At", e, api.OK)
		s = s.with(string(p))
	}
	for _, i := range []int{math.MinInt, -most, -1, 0, base - 1, base, l.Last() + 1, l.Last() + 2, most + 1, 1 << 62, math.MaxInt - 1, math.MaxInt} {
		if p, e := l.At(i); len(p) != 0 || e != api.ErrNone && (i <= base || i > l.Last()) {
			t.Errorf("%s: At(%d) of %d to %d: %.50q, error %d", what, i, base+1, l.Last(), p, e)
		}
	}
	return s
}

// expectState asks a ledger for just that.
func expectState(t *testing.T, what string, l *ledger.Ledger, want state) {
	t.Helper()
	if got := stateOf(t, what, l); !got.is(want) || l.Last() != want.last() {
		t.Errorf("%s: %s, last %d; want %s", what, got, l.Last(), want)
	}
}

func filesOf(t *testing.T, d *disk.Disk) files {
	t.Helper()
	l := files{}
	for _, name := range d.List() {
		b, e := d.Read(name)
		expect(t, "Read", e, api.OK)
		l[name] = string(b)
	}
	return l
}

// expectFiles asks a disk for just these files.
func expectFiles(t *testing.T, what string, d *disk.Disk, want files) {
	t.Helper()
	if got := filesOf(t, d); !maps.Equal(got, want) {
		t.Errorf("%s: %.500q, want %.500q", what, got, want)
	}
}

// expectLasting asks a disk for just these files, now and behind a crash.
func expectLasting(t *testing.T, what string, d *disk.Disk, want files) {
	t.Helper()
	expectFiles(t, what, d, want)
	crashed := d.Copy()
	crashed.Crash(0)
	expectFiles(t, what+", behind a crash", crashed, want)
}

// expectAgain asks for that state of a ledger and of what new Opens make of its disk, now and behind a crash.
func expectAgain(t *testing.T, what string, l *ledger.Ledger, d *disk.Disk, want state) {
	t.Helper()
	expectState(t, what, l, want)
	expectLasting(t, what, d, filesIn(want))
	expectState(t, what+", opened again", opened(t, what, d), want)
	d.Crash(0)
	expectState(t, what+", opened behind a crash", opened(t, what, d), want)
	expectLasting(t, what+", opened again", d, filesIn(want))
}

// expectDead asks a ledger for its death: all that changes errs, and what it tells stays.
func expectDead(t *testing.T, what string, l *ledger.Ledger, d *disk.Disk, s state) {
	t.Helper()
	d = d.Copy()
	was := filesOf(t, d)
	for _, p := range [][]byte{nil, []byte("x"), make([]byte, 1<<16+1)} {
		if n, e := l.Append(p); n != 0 || e != api.ErrDead {
			t.Errorf("%s: Append: %d, error %d", what, n, e)
		}
	}
	for _, index := range []int{-1, 0, s.last(), s.last() + 1, most, most + 1, math.MinInt, math.MaxInt} {
		expect(t, what+": Write", l.Write(index, nil), api.ErrDead)
		expect(t, what+": Write of too much", l.Write(index, make([]byte, 1<<19+1)), api.ErrDead)
	}
	expect(t, what+": Drop", l.Drop(), api.ErrDead)
	expectState(t, what, l, s)
	expectFiles(t, what, d, was)
}

// soil overwrites a list and the spare room behind its end.
func soil(p []byte) {
	p = p[:cap(p)]
	for i := range p {
		p[i] ^= 0xff
	}
}

// P5.1

func TestOpenOfNothing(t *testing.T) {
	for what, l := range map[string]files{
		"no files": {},
		"others":   {"a": "x", "a-": "x", "-img": "x", "-log": "x", "aa-img": "x", "b-log": "x", "a-img~~": "x", "a-log~": "x", "A-img~": "x"},
	} {
		for fuse := -1; fuse < 2; fuse++ { // nothing is done
			d := madeOf(t, roomy, l)
			d.Fuse(fuse)
			expectState(t, what, opened(t, what, d), state{})
			expectLasting(t, what, d, l)
		}
	}
	expectState(t, "a disk that nobody made", opened(t, "a disk that nobody made", &disk.Disk{}), state{})
}

func TestPrefixes(t *testing.T) {
	long := strings.Repeat("p", 20)
	for _, p := range []string{"a", "ab", long[:19], long, "\x00", "\xff\xfe", "~", "-img", "a-log", "a\r\n", strings.Repeat("ä", 10)} {
		d := madeOf(t, roomy, nil)
		l, e := ledger.Open(d, p)
		expect(t, "Open", e, api.OK)
		l.Append([]byte("ahead"))
		expectLasting(t, p, d, files{p + "-log": logOf(1, "ahead")})
		expect(t, "Write", l.Write(7, []byte("data")), api.OK)
		expectLasting(t, p, d, files{p + "-img": numbered(7, "data")})
		l.Append([]byte("behind"))
		want := files{p + "-img": numbered(7, "data"), p + "-log": logOf(8, "behind")}
		expectLasting(t, p, d, want)
		l, e = ledger.Open(d, p)
		expect(t, "Open again", e, api.OK)
		expectState(t, p, l, state{7, "data", []string{"behind"}})
		expectLasting(t, p, d, want)
	}
	l := files{"-img~": "junk", "-img": "junk", "-log": "junk", long + "p-img~": "junk", long + "p-img": "junk"}
	d := madeOf(t, roomy, l)
	d.Fuse(0)
	for _, p := range []string{"", long + "p", strings.Repeat("ä", 11), strings.Repeat("x", 60), strings.Repeat("x", 1<<20)} {
		expectNoOpen(t, "a prefix that is none", d, p, api.ErrArg)
		expectNoOpen(t, "a prefix that is none, a nil Disk", nil, p, api.ErrArg)
	}
	for _, p := range []string{"a", long} {
		expectNoOpen(t, "a nil Disk", nil, p, api.ErrArg)
	}
	expectLasting(t, "a prefix that is none", d, l)
}

func TestOpenRemovesTheDraft(t *testing.T) {
	for _, left := range []string{"", "x", "junk", numbered(9, "other"), numbered(9, "other")[:5]} {
		for _, s := range []state{{}, {0, "", []string{"x"}}, {3, "data", nil}, {3, "data", []string{"x", ""}}} {
			d := madeOf(t, roomy, withAll(filesIn(s), files{draft: left, "b-img~": left, "a-log~": left}))
			l := opened(t, "with a draft", d)
			expectState(t, "with a draft", l, s)
			expectLasting(t, "with a draft", d, withAll(filesIn(s), files{"b-img~": left, "a-log~": left}))
		}
	}
}

func TestOpenOfAnImage(t *testing.T) {
	for _, number := range []int{0, 1, 2, 127, 128, 300, most - 1, most} {
		for _, data := range []string{"x", "data", "\x00\xff\r\n~", numbered(1, "within"), strings.Repeat("y", 1<<19), strings.Repeat("y", 1<<19+1)} {
			s := state{number, data, nil}
			for fuse := -1; fuse < 2; fuse++ { // nothing is done
				d := madeOf(t, roomy, filesIn(s))
				d.Fuse(fuse)
				expectState(t, "an image alone", opened(t, "an image alone", d), s)
				expectLasting(t, "an image alone", d, filesIn(s))
			}
		}
		d := madeOf(t, roomy, files{image: numbered(number, "")})
		expectState(t, "an image of no data", opened(t, "an image of no data", d), state{base: number})
	}
}

func TestOpenOfAnImageThatIsNone(t *testing.T) {
	good := numbered(300, "data")
	bad := map[string]string{
		"bytes behind it":          good + "x",
		"a zero behind it":         good + "\x00",
		"another behind it":        good + good,
		"nothing in it":            recordOf(""),
		"no data in it":            recordOf("\x01"),
		"data that end too early":  recordOf(laid(300, "data")[:6]),
		"bytes behind the data":    recordOf(laid(300, "data") + "x"),
		"nothing behind the data":  recordOf(laid(300, "data") + "\x00"),
		"a number with a spare 0":  recordOf("\x81\x00\x00"),
		"a length with a spare 0":  recordOf("\x01\x81\x00x"),
		"a number without an end":  recordOf("\xff\xff"),
		"a number of eleven bytes": recordOf("\x80\x80\x80\x80\x80\x80\x80\x80\x80\x80\x01\x00"),
		"a number above 2^40":      recordOf(laid(most+1, "data")),
		"a number far above 2^40":  recordOf(laid(1<<62, "data")),
		"a number above 2^62":      recordOf(laid(1<<62+1, "data")),
		"a number below 0":         recordOf(laid(math.MaxUint64, "data")),
		"the lowest number":        recordOf(laid(1<<63, "data")),
		"a length below 0":         recordOf("\x01" + string(binary.AppendUvarint(nil, math.MaxUint64)) + "data"),
		"zeros":                    strings.Repeat("\x00", 40),
		"a text":                   "none",
	}
	for i := range good {
		bad["torn at "+strconv.Itoa(i)] = good[:i]
		bad["spoilt at "+strconv.Itoa(i)] = good[:i] + string(good[i]^1) + good[i+1:]
	}
	for what, text := range bad {
		for _, more := range []files{{}, {log: logOf(301, "x")}, {log: logOf(1, "x")}, {log: "torn"}} {
			l := withAll(more, files{image: text})
			d := madeOf(t, roomy, l)
			expectNoOpen(t, what, d, prefix, api.ErrForm)
			expectLasting(t, what, d, l)
			d.Fuse(0)
			expectNoOpen(t, what+", a burnt fuse", d, prefix, api.ErrForm)
		}
	}
}

func TestOpenOfALog(t *testing.T) {
	many := make([]string, 1000)
	for i := range many {
		many[i] = strconv.Itoa(i)
	}
	for _, s := range []state{
		{0, "", []string{"x"}},
		{0, "", []string{""}},
		{0, "", []string{"", "", ""}},
		{0, "", many},
		{0, "data", []string{"x", "y"}},
		{1, "data", []string{"x", "\x00\xff\r\n", "z"}},
		{1, "", many},
		{most - 1, "data", []string{"x"}},
		{most - 3, "data", []string{"x", "y", "z"}},
		{5, "", []string{strings.Repeat("x", 1<<16), strings.Repeat("y", 1<<16+1), numbered(8, "within")}},
	} {
		for fuse := -1; fuse < 2; fuse++ { // nothing is done
			d := madeOf(t, roomy, filesIn(s))
			d.Fuse(fuse)
			expectState(t, "a good log", opened(t, "a good log", d), s)
			expectLasting(t, "a good log", d, filesIn(s))
		}
	}
}

// upTo is the state of only those entries that are whole in the first bytes of the log, and how many bytes these have.
func upTo(s state, size int) (state, int) {
	want, good := state{base: s.base, data: s.data}, 0
	for i, entry := range s.entries {
		end := good + len(numbered(s.base+i+1, entry))
		if end > size {
			break
		}
		want, good = want.with(entry), end
	}
	return want, good
}

func TestOpenOfATornLog(t *testing.T) {
	for _, s := range []state{{0, "", []string{"one", "", "three"}}, {7, "data", []string{"one", "", "three"}}} {
		whole := filesIn(s)[log]
		for size := range whole {
			want, good := upTo(s, size)
			for what, tail := range map[string]string{"torn": whole[good:size], "spoilt": whole[good:size] + "spoilt", "zeros behind": whole[good:size] + "\x00\x00\x00\x00\x00\x00\x00\x00"} {
				for lasting := good; lasting <= good+len(tail); lasting++ {
					text := whole[:good] + tail
					d := madeOf(t, roomy, withAll(filesIn(s), files{log: text[:lasting]}))
					expect(t, "Append", d.Append(log, []byte(text[lasting:])), api.OK)
					expectAgain(t, what+" at "+strconv.Itoa(size), opened(t, what, d), d, want)
				}
			}
		}
	}
}

func TestOpenOfASpoiltLog(t *testing.T) {
	s := state{7, "data", []string{"one", "", "three"}}
	whole := filesIn(s)[log]
	for at := range whole {
		want, _ := upTo(s, at)
		d := madeOf(t, roomy, withAll(filesIn(s), files{log: whole[:at] + string(whole[at]^0x40) + whole[at+1:]}))
		expectAgain(t, "spoilt at "+strconv.Itoa(at), opened(t, "spoilt", d), d, want)
	}
}

// badRecords is records of a log that are whole, but none of an entry.
func badRecords() map[string]string {
	return map[string]string{
		"nothing in it":            recordOf(""),
		"no entry in it":           recordOf("\x01"),
		"an entry that ends early": recordOf(laid(1, "entry")[:4]),
		"bytes behind the entry":   recordOf(laid(1, "entry") + "x"),
		"a zero behind the entry":  recordOf(laid(1, "entry") + "\x00"),
		"a number with a spare 0":  recordOf("\x81\x00\x00"),
		"a number without an end":  recordOf("\xff\xff"),
		"a number of eleven bytes": recordOf("\x80\x80\x80\x80\x80\x80\x80\x80\x80\x80\x01\x00"),
		"the number 0":             recordOf(laid(0, "entry")),
		"a number above 2^40":      recordOf(laid(most+1, "entry")),
		"a number above 2^62":      recordOf(laid(1<<62+1, "entry")),
		"a number below 0":         recordOf(laid(math.MaxUint64, "entry")),
	}
}

func TestOpenOfARecordThatIsNone(t *testing.T) {
	for what, bad := range badRecords() {
		for _, base := range []int{0, 1, 5, most} {
			for where, text := range map[string]string{
				"alone":            bad,
				"at the beginning": bad + logOf(1, "x"),
				"at the end":       logOf(1, "x", "y") + bad,
				"in the middle":    logOf(1, "x") + bad + logOf(2, "y"),
				"ahead of a tear":  bad + "torn",
				"behind an entry":  logOf(base, "x") + bad,
			} {
				l := files{log: text}
				if base > 0 {
					l[image] = numbered(base, "data")
				}
				d := madeOf(t, roomy, l)
				d.Fuse(0)
				expectNoOpen(t, what+" "+where, d, prefix, api.ErrForm)
				expectLasting(t, what, d, l)
			}
		}
		s := state{0, "", []string{"x"}} // behind a tear nothing is read
		d := madeOf(t, roomy, files{log: logOf(1, "x") + "torn" + bad})
		expectAgain(t, what+" behind a tear", opened(t, what, d), d, s)
	}
}

func TestOpenOfNumbersInDisorder(t *testing.T) {
	for _, c := range []struct {
		base    int
		numbers []int
	}{
		{0, []int{2}}, {0, []int{most}}, {0, []int{1, 1}}, {0, []int{1, 3}}, {0, []int{1, 2, 2}}, {0, []int{1, 2, 1}}, {0, []int{1, 2, 4}},
		{5, []int{7}}, {5, []int{7, 8}}, {5, []int{most}}, {5, []int{6, 8}}, {5, []int{6, 6}}, {5, []int{6, 5}},
		{5, []int{5, 7}}, {5, []int{4, 6}}, {5, []int{4, 7}}, {5, []int{3, 3}}, {5, []int{3, 2}}, {5, []int{1, 3}}, {5, []int{5, 5}}, {5, []int{5, 4}},
		{5, []int{4, 5, 6, 8}}, {5, []int{4, 5, 7}}, {5, []int{4, 5, 6, 7, 9}}, {5, []int{4, 5, 6, 7, 7}}, {5, []int{4, 5, 6, 7, 6}}, {5, []int{1, 2, 3, 5}},
		{most, []int{1, 3}}, {most, []int{most, most}}, {most - 1, []int{most, most}}, {most - 2, []int{most}},
	} {
		text := ""
		for _, number := range c.numbers {
			text += numbered(number, "x")
		}
		for _, tail := range []string{"", "torn"} {
			l := files{log: text + tail}
			if c.base > 0 {
				l[image] = numbered(c.base, "data")
			}
			d := madeOf(t, roomy, l)
			d.Fuse(0)
			expectNoOpen(t, "numbers in disorder", d, prefix, api.ErrForm)
			expectLasting(t, "numbers in disorder", d, l)
		}
	}
}

func TestOpenPassesOver(t *testing.T) {
	entries := []string{"e3", "", "e5", "e6", "e7"} // from 3 on
	for base := 2; base < 20; base++ {
		want := state{base: base, data: "data"}
		if passed := base - 2; passed < len(entries) {
			want = want.with(entries[passed:]...)
		}
		for _, tail := range []string{"", "torn", numbered(8, "e8")[:9]} {
			whole := logOf(3, entries...)
			d := madeOf(t, roomy, files{image: numbered(base, "data"), log: whole + tail})
			l := opened(t, "passed over", d)
			expectState(t, "passed over", l, want)
			left := files{image: numbered(base, "data"), log: whole}
			if want.entries == nil {
				delete(left, log)
			}
			expectLasting(t, "passed over", d, left)
			n, e := l.Append([]byte("more"))
			if n != want.last()+1 || e != api.OK {
				t.Errorf("Append behind what was passed over: %d, error %d; want %d", n, e, want.last()+1)
			}
			d.Crash(0)
			expectState(t, "passed over, and an Append", opened(t, "passed over", d), want.with("more"))
		}
	}
}

func TestOpenRemovesALogOfNoEntry(t *testing.T) {
	for what, text := range map[string]string{"empty": "", "torn": "torn", "torn at once": numbered(1, "x")[:12]} {
		for _, s := range []state{{}, {0, "data", nil}, {4, "data", nil}, {most, "", nil}} {
			d := madeOf(t, roomy, withAll(filesIn(s), files{log: text}))
			expectAgain(t, "a log that is "+what, opened(t, what, d), d, s)
		}
	}
	for _, first := range []int{1, 3, most - 1} {
		s := state{first + 1, "data", nil}
		d := madeOf(t, roomy, withAll(filesIn(s), files{log: logOf(first, "x", "y")}))
		expectAgain(t, "a log below the image", opened(t, "below", d), d, s)

		d = madeOf(t, roomy, filesIn(s)) // nothing but the Remove is done, even if the log does not last yet
		expect(t, "Append", d.Append(log, []byte(logOf(first, "x", "y"))), api.OK)
		d.Fuse(1)
		expectAgain(t, "a log below the image that is not Synced", opened(t, "below", d), d, s)
	}
}

// TestOpenStepByStep: each Open goes on where a burning fuse ended the one ahead of it.
func TestOpenStepByStep(t *testing.T) {
	good := logOf(5, "x", "y")
	for what, steps := range map[string][]files{
		"all of it":             {{draft: "left", image: numbered(4, "data"), log: good + "torn"}, {image: numbered(4, "data"), log: good + "torn"}, {image: numbered(4, "data"), log: good}, {image: numbered(4, "data"), log: good}},
		"a draft":               {{draft: "left", log: logOf(1, "x")}, {log: logOf(1, "x")}},
		"a tear":                {{log: logOf(1, "x") + "torn"}, {log: logOf(1, "x")}, {log: logOf(1, "x")}},
		"a torn first":          {{draft: "", log: "torn"}, {log: "torn"}, {log: ""}, {log: ""}, {}},
		"no entry":              {{image: numbered(6, "data"), log: good}, {image: numbered(6, "data")}},
		"no entry, and a tear":  {{image: numbered(6, "data"), log: good + "torn"}, {image: numbered(6, "data"), log: good}, {image: numbered(6, "data"), log: good}, {image: numbered(6, "data")}},
		"nothing is to be done": {{image: numbered(4, "data"), log: good}},
	} {
		for fuse := range steps {
			d := madeOf(t, roomy, steps[0])
			d.Fuse(fuse)
			if fuse == len(steps)-1 {
				opened(t, what, d)
			} else {
				expectNoOpen(t, what, d, prefix, api.ErrDead)
			}
			expect(t, what+": the fuse is burnt", d.Append("other", nil), api.ErrDead)
			expectLasting(t, what+" behind "+strconv.Itoa(fuse), d, steps[fuse])
			d.Fuse(-1)
			opened(t, what, d)
			expectLasting(t, what+" in the end", d, steps[len(steps)-1])
		}
	}
}

func TestOpenGoesInOrder(t *testing.T) {
	l := files{draft: "left", image: "junk", log: logOf(9, "x") + "torn"}
	d := madeOf(t, roomy, l)
	d.Fuse(0)
	expectNoOpen(t, "a draft, a bad image, a burnt fuse", d, prefix, api.ErrDead)
	expectLasting(t, "a draft, a bad image, a burnt fuse", d, l)
	d.Fuse(-1)
	expectNoOpen(t, "a draft, a bad image", d, prefix, api.ErrForm)
	delete(l, draft) // is gone ahead of that
	expectLasting(t, "a draft, a bad image", d, l)
}

// P5.2

func TestTheExample(t *testing.T) {
	d := madeOf(t, roomy, nil)
	l := opened(t, "the example", d)
	l.Append([]byte("x"))
	l.Write(1, []byte("y"))
	l.Append([]byte("z"))
	d.Crash(0)
	l = opened(t, "the example", d)
	if base, data := l.Base(); base != 1 || string(data) != "y" || l.Last() != 2 {
		t.Errorf("the example: %d %q, %d", base, data, l.Last())
	}
}

func TestAppend(t *testing.T) {
	for _, s := range []state{{}, {0, "data", nil}, {3, "data", nil}, {0, "", []string{"a"}}, {3, "data", []string{"a", "b"}}, {most - 6, "data", nil}} {
		l, d := openedOf(t, s)
		for _, entry := range []string{"x", "", "\x00\xff\r\n", numbered(1, "within"), strings.Repeat("y", 1<<16), "z"} {
			n, e := l.Append([]byte(entry))
			s = s.with(entry)
			if n != s.last() || e != api.OK {
				t.Errorf("Append: %d, error %d; want %d", n, e, s.last())
			}
			expectLasting(t, "Append", d, filesIn(s))
		}
		if s.last() == most {
			expectNoAppend(t, "a number above 2^40", l, nil, api.ErrLong)
		}
		expectNoAppend(t, "too long", l, make([]byte, 1<<16+1), api.ErrLong)
		expectNoAppend(t, "far too long", l, make([]byte, 1<<21), api.ErrLong)
		expectAgain(t, "Append", l, d, s)
	}
}

// expectNoAppend asks for an error of Append, with nothing beside it.
func expectNoAppend(t *testing.T, what string, l *ledger.Ledger, p []byte, want api.Errno) {
	t.Helper()
	if n, e := l.Append(p); n != 0 || e != want {
		t.Errorf("%s: Append: %d, error %d; want error %d", what, n, e, want)
	}
}

func TestAppendThatErrsIsNotDead(t *testing.T) {
	s := state{most - 1, "data", nil}
	l, d := openedOf(t, s)
	d.Fuse(0)
	expectNoAppend(t, "too long", l, make([]byte, 1<<16+1), api.ErrLong)
	d.Fuse(-1)
	if n, e := l.Append([]byte("x")); n != most || e != api.OK {
		t.Errorf("the last number: %d, error %d", n, e)
	}
	for _, p := range [][]byte{nil, {}, []byte("x"), make([]byte, 1<<16), make([]byte, 1<<16+1)} {
		expectNoAppend(t, "no number is left", l, p, api.ErrLong)
	}
	expectAgain(t, "no number is left", l, d, s.with("x"))
	expect(t, "Write", l.Write(most, []byte("new")), api.OK)
	expectNoAppend(t, "no number is left", l, nil, api.ErrLong)
	expectAgain(t, "Write", l, d, state{most, "new", nil})
}

func TestWrite(t *testing.T) {
	for _, s := range []state{{}, {0, "data", nil}, {3, "data", nil}, {0, "", []string{"a", "b"}}, {3, "data", []string{"a", "b"}}, {most - 2, "data", []string{"a", "b"}}} {
		for _, data := range []string{"x", "\x00\xff\r\n", numbered(1, "within"), strings.Repeat("y", 1<<19)} {
			for _, index := range []int{s.last(), s.last() + 1, s.last() + 1000, most} {
				l, d := openedOf(t, s)
				if index > most {
					expect(t, "an index above 2^40", l.Write(index, []byte(data)), api.ErrArg)
					continue
				}
				expect(t, "Write", l.Write(index, []byte(data)), api.OK)
				expectAgain(t, "Write", l, d, state{index, data, nil})
				expect(t, "Write over it", l.Write(index, []byte("newer")), api.OK)
				expectAgain(t, "Write over it", l, d, state{index, "newer", nil})
			}
		}
		l, d := openedOf(t, s)
		expect(t, "Write of no data", l.Write(s.last(), nil), api.OK)
		expectState(t, "Write of no data", l, state{base: s.last()})
		expectLasting(t, "Write of no data", d, files{image: numbered(s.last(), "")})
	}
}

func TestWriteAndAppend(t *testing.T) {
	s := state{}
	l, d := openedOf(t, s)
	for i := range 40 {
		if i%3 == 2 {
			s = state{s.last() + i%2*i, "image" + strconv.Itoa(i), nil}
			expect(t, "Write", l.Write(s.base, []byte(s.data)), api.OK)
		} else {
			s = s.with(strconv.Itoa(i))
			if n, e := l.Append([]byte(strconv.Itoa(i))); n != s.last() || e != api.OK {
				t.Errorf("Append: %d, error %d", n, e)
			}
		}
		expectAgain(t, "one by one", l, d, s)
	}
}

func TestWriteThatErrs(t *testing.T) {
	for _, s := range []state{{}, {3, "data", nil}, {3, "data", []string{"a", "b"}}, {most, "data", nil}} {
		l, d := openedOf(t, s)
		d.Fuse(0)
		for _, data := range [][]byte{nil, []byte("x"), make([]byte, 1<<19+1), make([]byte, 1<<21)} {
			for _, index := range []int{math.MinInt, -most, -1, s.last() - 1, most + 1, 1 << 62, math.MaxInt} {
				expect(t, "an index that is none", l.Write(index, data), api.ErrArg)
			}
			if len(data) > 1<<19 {
				expect(t, "too much", l.Write(s.last(), data), api.ErrLong)
				expect(t, "too much", l.Write(most, data), api.ErrLong)
			}
		}
		d.Fuse(-1)
		expectAgain(t, "a Write that errs", l, d, s)
		expect(t, "a Write behind it", l.Write(most, []byte("x")), api.OK)
	}
}

func TestDrop(t *testing.T) {
	others := files{"a": "x", "b-img": "x", "b-log": "x", "a-log~": "x", "a-img~~": "x", "aa-log": "x"}
	for _, s := range []state{{}, {0, "data", nil}, {3, "data", nil}, {0, "", []string{"a", "b"}}, {3, "data", []string{"a", "b"}}} {
		d := madeOf(t, roomy, withAll(others, filesIn(s)))
		l := opened(t, "Drop", d)
		expect(t, "Drop", l.Drop(), api.OK)
		expectLasting(t, "Drop", d, others)
		expectDead(t, "Drop", l, d, s)
		l = opened(t, "behind a Drop", d)
		expectState(t, "behind a Drop", l, state{})
		if n, e := l.Append([]byte("x")); n != 1 || e != api.OK {
			t.Errorf("Append behind a Drop: %d, error %d", n, e)
		}
		expectLasting(t, "behind a Drop", d, withAll(others, files{log: logOf(1, "x")}))
	}
	d := madeOf(t, roomy, nil)
	l := opened(t, "Drop", d)
	d.Fuse(0)
	expect(t, "Drop of nothing", l.Drop(), api.OK)
	expectDead(t, "Drop of nothing", l, d, state{})
}

// change is one of the three that change a ledger.
type change struct {
	what string
	do   func(l *ledger.Ledger) api.Errno
}

func appended(entry string) change {
	return change{"Append", func(l *ledger.Ledger) api.Errno {
		_, e := l.Append([]byte(entry))
		return e
	}}
}

func written(index int, data string) change {
	return change{"Write", func(l *ledger.Ledger) api.Errno { return l.Write(index, []byte(data)) }}
}

func dropped() change {
	return change{"Drop", func(l *ledger.Ledger) api.Errno { return l.Drop() }}
}

func TestChangesStepByStep(t *testing.T) {
	full := state{3, "data", []string{"x", "y"}}
	longer, image9 := filesIn(full.with("z")), numbered(9, "new")
	for _, c := range []struct {
		s           state
		left        files // beside what the state has, put there behind Open
		do          change
		now, behind []files // behind so many things; nil: the same
	}{
		{state{}, nil, appended("z"), []files{{}, {log: logOf(1, "z")}, {log: logOf(1, "z")}}, []files{{}, {log: ""}, {log: logOf(1, "z")}}},
		{full, nil, appended("z"), []files{filesIn(full), longer, longer}, []files{filesIn(full), filesIn(full), longer}},
		{state{}, nil, written(9, "new"), []files{{}, {draft: image9}, {draft: image9}, {image: image9}}, []files{{}, {draft: ""}, {draft: image9}, {image: image9}}},
		{full, files{draft: "left"}, written(9, "new"),
			[]files{withAll(filesIn(full), files{draft: "left"}), filesIn(full), withAll(filesIn(full), files{draft: image9}), withAll(filesIn(full), files{draft: image9}), {image: image9, log: logOf(4, "x", "y")}, {image: image9}},
			[]files{withAll(filesIn(full), files{draft: "left"}), filesIn(full), withAll(filesIn(full), files{draft: ""}), withAll(filesIn(full), files{draft: image9}), {image: image9, log: logOf(4, "x", "y")}, {image: image9}}},
		{full, nil, dropped(), []files{filesIn(full), {image: numbered(3, "data")}, {}}, nil},
		{state{3, "data", nil}, nil, dropped(), []files{{image: numbered(3, "data")}, {}}, nil},
		{state{0, "", []string{"x"}}, nil, dropped(), []files{{log: logOf(1, "x")}, {}}, nil},
	} {
		for fuse, now := range c.now {
			l, d := openedOf(t, c.s)
			for name, text := range c.left {
				expect(t, "Append", d.Append(name, []byte(text)), api.OK)
				expect(t, "Sync", d.Sync(name), api.OK)
			}
			d.Fuse(fuse)
			e := c.do.do(l)
			what := c.do.what + " behind " + strconv.Itoa(fuse)
			expect(t, what+": the fuse is burnt", d.Append("other", nil), api.ErrDead)
			if fuse < len(c.now)-1 {
				expect(t, what, e, api.ErrDead)
				expectDead(t, what, l, d, c.s)
			} else {
				expect(t, what, e, api.OK)
			}
			expectFiles(t, what, d, now)
			d.Crash(0)
			if c.behind != nil {
				now = c.behind[fuse]
			}
			expectFiles(t, what+", crashed", d, now)
		}
	}
}

func TestNoRoom(t *testing.T) {
	full := state{3, "data", []string{"x", "y"}}
	used := len(filesIn(full)[image]) + len(filesIn(full)[log])
	for _, c := range []struct {
		do   change
		need int
		want state
	}{
		{appended("more"), len(numbered(6, "more")), full.with("more")},
		{written(9, "new data"), len(numbered(9, "new data")), state{9, "new data", nil}},
	} {
		for less := range c.need + 1 {
			d := madeOf(t, used+c.need-less, filesIn(full))
			l := opened(t, "no room", d)
			if less == 0 {
				expect(t, c.do.what+" of just enough room", c.do.do(l), api.OK)
				expectAgain(t, "just enough room", l, d, c.want)
				continue
			}
			expect(t, c.do.what+" of too little room", c.do.do(l), api.ErrFull)
			expectDead(t, "too little room", l, d, full)
			expectAgain(t, "too little room", opened(t, "too little room", d), d, full)
		}
	}
	l := opened(t, "no room at all", madeOf(t, 0, nil))
	expectNoAppend(t, "no room at all", l, nil, api.ErrFull)
	expectNoAppend(t, "no room at all", l, nil, api.ErrDead)
	d := madeOf(t, 0, nil)
	l = opened(t, "no room at all", d)
	expect(t, "no room at all", l.Write(0, nil), api.ErrFull)
	expectDead(t, "no room at all", l, d, state{})
}

func TestFullOfFiles(t *testing.T) {
	others := files{}
	for i := range api.MaxFiles - 1 {
		others["f"+strconv.Itoa(i)] = ""
	}
	d := madeOf(t, roomy, others)
	l := opened(t, "full of files", d)
	if n, e := l.Append([]byte("x")); n != 1 || e != api.OK {
		t.Errorf("the last file: %d, error %d", n, e)
	}
	if n, e := l.Append([]byte("y")); n != 2 || e != api.OK {
		t.Errorf("a file that is there: %d, error %d", n, e)
	}
	expect(t, "a file more", l.Write(2, nil), api.ErrFull)
	expectDead(t, "a file more", l, d, state{0, "", []string{"x", "y"}})
	expectLasting(t, "a file more", d, withAll(others, files{log: logOf(1, "x", "y")}))
}

func TestOrderOfTheErrors(t *testing.T) {
	s := state{5, "data", []string{"x"}}
	l, d := openedOf(t, s)
	d.Fuse(0)
	for _, index := range []int{5, most + 1} {
		expect(t, "a bad index, too much, a burnt fuse", l.Write(index, make([]byte, 1<<19+1)), api.ErrArg)
	}
	expect(t, "too much, a burnt fuse", l.Write(6, make([]byte, 1<<19+1)), api.ErrLong)
	expectNoAppend(t, "too long, a burnt fuse", l, make([]byte, 1<<16+1), api.ErrLong)
	expectState(t, "errors", l, s)
	expect(t, "a burnt fuse", l.Write(6, make([]byte, 1<<19)), api.ErrDead)
	d.Fuse(-1)
	expectDead(t, "a burnt fuse", l, d, s) // all else errs with ErrDead now
	expectAgain(t, "a burnt fuse", l, d, s)
}

// P5.3

func TestAt(t *testing.T) {
	l, _ := openedOf(t, state{300, "data", []string{"one", "", "three"}})
	for i, want := range map[int]string{301: "one", 302: "", 303: "three"} {
		for range 2 {
			if p, e := l.At(i); string(p) != want || e != api.OK {
				t.Errorf("At(%d): %q, error %d", i, p, e)
			}
		}
	}
	for _, i := range []int{math.MinInt, math.MinInt + 300, math.MinInt + 301, -302, -1, 0, 1, 299, 300, 304, 305, 301 + 1<<32, most, math.MaxInt} {
		if p, e := l.At(i); len(p) != 0 || e != api.ErrNone {
			t.Errorf("At(%d): %q, error %d", i, p, e)
		}
	}
}

// P5.4

var draws = []int{math.MinInt, -1, 0, 1, 2, 3, 7, 11, 12, 13, 14, 15, 16, 17, 18, 100, 1 << 20, math.MaxInt - 1, math.MaxInt}

func TestChangesBehindACrash(t *testing.T) {
	full := state{3, "data", []string{"x", "y"}}
	for _, c := range []struct {
		s  state
		do change
		is []state // what may be, beside s, if it errs; the last one, if it does not
	}{
		{state{}, appended("new"), []state{{0, "", []string{"new"}}}},
		{full, appended("new"), []state{full.with("new")}},
		{state{}, written(9, "new"), []state{{9, "new", nil}}},
		{full, written(5, "new"), []state{{5, "new", nil}}},
		{full, written(9, "new"), []state{{9, "new", nil}}},
		{state{0, "", []string{"x"}}, dropped(), []state{{}}},
		{state{3, "data", nil}, dropped(), []state{{}}},
		{full, dropped(), []state{{3, "data", nil}, {}}}, // the document has the log go alone
	} {
		for fuse := range 7 {
			for _, draw := range draws {
				for _, crash := range []bool{true, false} {
					l, d := openedOf(t, c.s)
					d.Fuse(fuse)
					e := c.do.do(l)
					may := c.is[len(c.is)-1:]
					if e != api.OK {
						may = append(c.is[:len(c.is):len(c.is)], c.s)
					}
					expectOneOf(t, c.do.what+", fuse "+strconv.Itoa(fuse)+", draw "+strconv.Itoa(draw), d, crash, draw, may)
				}
			}
		}
	}
}

// expectOneOf asks what Opens make of a disk, behind a crash or not, for one of these states, which stays what it is; and for Appends that go on.
func expectOneOf(t *testing.T, what string, d *disk.Disk, crash bool, draw int, may []state) {
	t.Helper()
	d.Fuse(-1)
	if crash {
		d.Crash(draw)
	}
	s := stateOf(t, what, opened(t, what, d))
	if !slices.ContainsFunc(may, s.is) {
		t.Errorf("%s: %s, want one of %s", what, s, may)
	}
	d.Crash(0)
	l := opened(t, what, d)
	expectState(t, what+", once more", l, s)
	if n, e := l.Append([]byte("then")); n != s.last()+1 || e != api.OK {
		t.Errorf("%s: Append: %d, error %d", what, n, e)
	}
	d.Crash(draw)
	expectState(t, what+", an Append behind it", opened(t, what, d), s.with("then"))
}

func TestOpenBehindACrash(t *testing.T) {
	good := state{4, "data", []string{"x", "y"}}
	for what, c := range map[string]struct {
		more files // not Synced, behind what is there
		s    state
	}{
		"nothing":         {nil, good},
		"a draft":         {files{draft: "left"}, good},
		"a tear":          {files{log: "torn"}, good},
		"a tear and more": {files{draft: numbered(9, "new"), log: numbered(7, "z")[:12]}, good},
		"no log":          {files{draft: "left"}, state{4, "data", nil}},
		"a torn first":    {files{log: numbered(5, "z")[:12], draft: ""}, state{4, "data", nil}},
	} {
		for fuse := range 5 {
			for _, draw := range draws {
				for _, crash := range []bool{true, false} {
					d := madeOf(t, roomy, filesIn(c.s))
					for name, text := range c.more {
						expect(t, "Append", d.Append(name, []byte(text)), api.OK)
					}
					d.Fuse(fuse)
					if l, e := ledger.Open(d, prefix); e == api.OK {
						expectState(t, what, l, c.s)
					} else {
						expect(t, what, e, api.ErrDead)
					}
					expectOneOf(t, what, d, crash, draw, []state{c.s})
				}
			}
		}
	}
}

// TestWhatAnOpenToldLasts: an entry that was Appended, but not Synced, may go with a crash, though not behind an Open that told it.
func TestWhatAnOpenToldLasts(t *testing.T) {
	s := state{4, "data", []string{"x"}}
	l, d := openedOf(t, s)
	d.Fuse(1)
	expectNoAppend(t, "a fuse that burns ahead of the Sync", l, []byte("y"), api.ErrDead)
	expectNoOpen(t, "it is there, but cannot last", d, prefix, api.ErrDead)
	crashed := d.Copy()
	crashed.Crash(0)
	expectState(t, "it went with a crash", opened(t, "crashed", crashed), s)
	d.Fuse(1)
	expectState(t, "it lasts now", opened(t, "it lasts now", d), s.with("y"))
	d.Crash(0)
	expectState(t, "it lasts now, behind a crash", opened(t, "it lasts now", d), s.with("y"))
}

func TestACrashBetweenCalls(t *testing.T) {
	s := state{}
	l, d := openedOf(t, s)
	for i := range 12 {
		s = s.with(strconv.Itoa(i))
		if n, e := l.Append([]byte(strconv.Itoa(i))); n != s.last() || e != api.OK {
			t.Errorf("Append: %d, error %d", n, e)
		}
		d.Crash(0)
		if i%4 == 3 {
			s = state{s.last(), "data" + strconv.Itoa(i), nil}
			expect(t, "Write", l.Write(s.base, []byte(s.data)), api.OK)
			d.Crash(0)
		}
		expectState(t, "the same ledger", l, s)
		expectState(t, "a new one", opened(t, "a new one", d), s)
	}
}

func TestUnlikePrefixesDoNotMeet(t *testing.T) {
	d := madeOf(t, roomy, nil)
	prefixes := []string{"a", "b", "aa", "a-", "a-img", "a-log", "-img", "-log", "a-img~", "~"}
	var ledgers []*ledger.Ledger
	states := make([]state, len(prefixes))
	for _, p := range prefixes {
		l, e := ledger.Open(d, p)
		expect(t, "Open", e, api.OK)
		ledgers = append(ledgers, l)
	}
	for round := range 6 {
		for i, l := range ledgers {
			text := prefixes[i] + strconv.Itoa(round)
			if (round+i)%3 == 2 {
				states[i] = state{states[i].last() + i, text, nil}
				expect(t, "Write", l.Write(states[i].base, []byte(text)), api.OK)
			} else {
				states[i] = states[i].with(text)
				_, e := l.Append([]byte(text))
				expect(t, "Append", e, api.OK)
			}
		}
		for i, p := range prefixes {
			expectState(t, p, ledgers[i], states[i])
			l, e := ledger.Open(d, p)
			expect(t, "Open", e, api.OK)
			expectState(t, p+" opened", l, states[i])
		}
	}
	for i, l := range ledgers {
		expect(t, "Drop", l.Drop(), api.OK)
		for j, p := range prefixes {
			if j <= i {
				states[j] = state{}
			}
			l, e := ledger.Open(d, p)
			expect(t, "Open", e, api.OK)
			expectState(t, p+" behind a Drop", l, states[j])
		}
	}
	expectFiles(t, "all are dropped", d, files{})
}

func TestNothingIsKept(t *testing.T) {
	all := []byte("abcdefSPARE")
	l, d := openedOf(t, state{})
	_, e := l.Append(all[:3])
	expect(t, "Append", e, api.OK)
	if string(all) != "abcdefSPARE" {
		t.Errorf("Append changed what was handed in: %q", all)
	}
	soil(all[:3])
	expectAgain(t, "what was handed in has changed", l, d, state{0, "", []string{"abc"}})
	all = []byte("abcdefSPARE")
	expect(t, "Write", l.Write(7, all[:6]), api.OK)
	if string(all) != "abcdefSPARE" {
		t.Errorf("Write changed what was handed in: %q", all)
	}
	soil(all)
	expectAgain(t, "what was handed in has changed", l, d, state{7, "abcdef", nil})
}

func TestAnswersAreNewMemory(t *testing.T) {
	s := state{3, "data", []string{"one", "two"}}
	made, d := openedOf(t, state{3, "data", nil})
	made.Append([]byte("one"))
	made.Append([]byte("two"))
	for _, l := range []*ledger.Ledger{made, opened(t, "read", d)} {
		_, base := l.Base()
		first, _ := l.At(4)
		second, _ := l.At(5)
		_, kept := l.Base()
		keptFirst, _ := l.At(4)
		for _, p := range [][]byte{base, first, second} {
			soil(p)
			_ = append(p, "overwritten"...)
		}
		expectAgain(t, "answers were changed", l, d, s)
		if l == made {
			continue // both are on one disk: only the last one may change it
		}
		l.Write(9, []byte("other"))
		l.Append([]byte("xyz"))
		if string(kept) != "data" || string(keptFirst) != "one" {
			t.Errorf("answers changed: %q, %q", kept, keptFirst)
		}
	}
}

func TestNilLedger(t *testing.T) {
	var l *ledger.Ledger
	for range 2 {
		for _, p := range [][]byte{nil, []byte("x"), make([]byte, 1<<16+1)} {
			expectNoAppend(t, "nil", l, p, api.ErrArg)
			for _, index := range []int{-1, 0, 1, most, most + 1, math.MaxInt} {
				expect(t, "Write of nil", l.Write(index, p), api.ErrArg)
			}
		}
		expect(t, "Drop of nil", l.Drop(), api.ErrArg)
		expectState(t, "nil", l, state{})
		if _, data := l.Base(); len(data) != 0 || l.Last() != 0 {
			t.Errorf("nil: %q, %d", data, l.Last())
		}
	}
}

func TestLedgerThatNobodyOpened(t *testing.T) {
	l := &ledger.Ledger{}
	expectState(t, "a ledger that nobody opened", l, state{})
	l.Append([]byte("x"))
	l.Write(1, nil)
	l.Drop()
	l = &ledger.Ledger{}
	l.Write(1, nil)
	l = &ledger.Ledger{}
	l.Drop()
}

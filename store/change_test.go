package store_test

import (
	"bytes"
	"encoding/binary"
	"fmt"
	"math"
	"math/rand/v2"
	"slices"
	"strings"
	"testing"

	"letterbox/api"
	"letterbox/store"
)

// P14.4, and which changes may be

// upTo is the numbers from 1 to n.
func upTo(n int) []int {
	var l []int
	for i := range n {
		l = append(l, i+1)
	}
	return l
}

// goodUIDs are such as a change may name.
func goodUIDs() [][]int {
	return [][]int{
		nil, {}, {1}, {127, 128}, {1, 2, 3}, {1, 300, api.MaxUID - 1, api.MaxUID}, {api.MaxUID}, upTo(api.MaxMsgs - 1), upTo(api.MaxMsgs),
	}
}

// badUIDs are such as none may name, each for one thing alone.
func badUIDs() [][]int {
	return [][]int{
		{0}, {-1}, {0, 1}, {-1, 1}, {1, 0}, {1, -1}, {api.MaxUID + 1}, {1, api.MaxUID + 1}, {math.MaxInt}, {math.MinInt}, {1 << 32}, {1<<32 + 1}, {1 << 62}, {1<<62 + 1},
		{1, 1}, {2, 1}, {1, 2, 2}, {1, 3, 2}, {2, 1, 3}, {api.MaxUID, api.MaxUID}, {1, 2, 3, 1},
		upTo(api.MaxMsgs + 1), upTo(api.MaxMsgs + 2), upTo(256 + 1), upTo(1 << 16), make([]int, api.MaxMsgs+1),
	}
}

var (
	goodNames  = []string{"a", "z", "0", "9", "inbox", "az09", "abcdefghijkl", "000000000000"}
	badNames   = []string{"", " ", "A", "Z", "INBOX", "a b", "a ", " a", "a-b", "a_b", "a.b", "a/b", "/", "`", "{", ":", "@", "[", "a\n", "\x00", "a\x00", "\x7f", "\x80", "\xff", "a\xff", "\u00e4", "\u0661", "\u212a", "abcdefghijklm", "aaaaaaaaaaa\u00e4", strings.Repeat("a", 268), strings.Repeat("a", 1<<16+1)}
	goodPasses = []string{"!", "~", "p", "!~", "A", "\"\\", "abcdefghijkl", "~~~~~~~~~~~~", "0"}
	badPasses  = []string{"", " ", "\x20", "\x7f", "a b", "a ", " a", "\x00", "a\x00", "\n", "\x1f", "\x80", "\xff", "a\xff", "\u00e4", "\u212a", "\ufffd", "abcdefghijklm", "!!!!!!!!!!! ", strings.Repeat("p", 268), strings.Repeat("p", 1<<16+1)}
	badModes   = []int{-1, 3, 4, 256, 1 << 32, math.MaxInt, math.MinInt}
	badFlags   = []int{-1, -31, api.AllFlags + 1, 33, 64, 256, 1 << 32, 1<<62 + 1, math.MaxInt, math.MinInt}
	badDates   = []int{-1, api.MaxDate + 1, api.MaxDate + 2, 1 << 32, 1 << 62, math.MaxInt, math.MinInt}
)

func bodyOf(n int) string { return strings.Repeat("\x80", n) }

// someChanges has one of each kind, of which all that its kind names is not zero.
func someChanges() []api.Change {
	return []api.Change{
		enrol("user", "p!"),
		create("user", "box"),
		remove("user", "box"),
		rename("user", "box", "to"),
		add("user", "box", 9, 300, "body"),
		marking("user", "box", api.ModeSub, 31, 1, 300),
		expunge("user", "box", 2, 128),
		transcribe("user", "box", "to", 3, 129, 70000),
	}
}

// with is c in another way.
func with(c api.Change, other func(c *api.Change)) api.Change {
	c.UIDs, c.Body = slices.Clone(c.UIDs), slices.Clone(c.Body)
	other(&c)
	return c
}

// goodChanges may be, at the edges too.
func goodChanges() []api.Change {
	l := someChanges()
	for _, name := range goodNames {
		for _, c := range someChanges() {
			l = append(l, with(c, func(c *api.Change) { c.User = name }))
			if c.Box != "" {
				l = append(l, with(c, func(c *api.Change) { c.Box = name }))
			}
			if c.To != "" {
				l = append(l, with(c, func(c *api.Change) { c.To = name }))
			}
		}
	}
	for _, pass := range goodPasses {
		l = append(l, enrol("user", pass))
	}
	for _, uids := range goodUIDs() {
		l = append(l, marking("user", "box", 0, 0, uids...), expunge("user", "box", uids...), transcribe("user", "box", "to", uids...))
	}
	for mode := range 3 {
		for flags := range 32 {
			l = append(l, marking("user", "box", mode, flags, 1), add("user", "box", flags, mode, ""))
		}
	}
	for _, date := range []int{0, 1, 127, 128, api.MaxDate - 1, api.MaxDate} {
		l = append(l, add("user", "box", 0, date, ""))
	}
	for _, n := range []int{0, 1, 127, 128, api.MaxBody - 1, api.MaxBody} {
		l = append(l, add("user", "box", 0, 0, bodyOf(n)))
	}
	l = append(l, with(create("user", "box"), func(c *api.Change) { c.UIDs, c.Body = []int{}, []byte{} }))
	return append(l, with(add("user", "box", 1, 2, ""), func(c *api.Change) { c.UIDs, c.Body = []int{}, nil }))
}

// badChanges may not be, each for one thing alone.
func badChanges() []api.Change {
	l := []api.Change{{}}
	each := func(other func(c *api.Change)) {
		for _, c := range someChanges() {
			l = append(l, with(c, other))
		}
	}
	only := func(has func(c api.Change) bool, other func(c *api.Change)) {
		for _, c := range someChanges() {
			if has(c) {
				l = append(l, with(c, other))
			}
		}
	}
	for _, kind := range []int{0, -1, -8, 9, 10, 257, 1<<32 + 1, math.MaxInt, math.MinInt} {
		each(func(c *api.Change) { c.Kind = kind })
	}
	for _, name := range badNames {
		each(func(c *api.Change) { c.User = name })
		only(func(c api.Change) bool { return c.Box != "" }, func(c *api.Change) { c.Box = name })
		only(func(c api.Change) bool { return c.To != "" }, func(c *api.Change) { c.To = name })
	}
	for _, pass := range badPasses {
		l = append(l, enrol("user", pass))
	}
	hasUIDs := func(c api.Change) bool { return c.UIDs != nil }
	for _, uids := range badUIDs() {
		only(hasUIDs, func(c *api.Change) { c.UIDs = uids })
	}
	for _, mode := range badModes {
		l = append(l, marking("user", "box", mode, 1, 1))
	}
	for _, flags := range badFlags {
		only(func(c api.Change) bool { return c.Flags != 0 }, func(c *api.Change) { c.Flags = flags })
	}
	for _, date := range badDates {
		l = append(l, add("user", "box", 0, date, ""))
	}
	for _, n := range []int{api.MaxBody + 1, api.MaxBody + 2, 2 * api.MaxBody, 1<<16 + 1} {
		l = append(l, add("user", "box", 0, 0, bodyOf(n)))
	}
	return append(l, strangers()...)
}

// strangers have each a field that their kind does not name, of a value that may be, and of one that may not.
func strangers() []api.Change {
	var l []api.Change
	for _, c := range someChanges() {
		for _, text := range []string{"a", "box", " "} {
			if c.Pass == "" {
				l = append(l, with(c, func(c *api.Change) { c.Pass = text }))
			}
			if c.Box == "" {
				l = append(l, with(c, func(c *api.Change) { c.Box = text }))
			}
			if c.To == "" {
				l = append(l, with(c, func(c *api.Change) { c.To = text }))
			}
			if c.Body == nil {
				l = append(l, with(c, func(c *api.Change) { c.Body = []byte(text) }))
			}
		}
		for _, n := range []int{1, 2, -1} {
			if c.UIDs == nil {
				l = append(l, with(c, func(c *api.Change) { c.UIDs = []int{n} }))
			}
			if c.Mode == 0 {
				l = append(l, with(c, func(c *api.Change) { c.Mode = n }))
			}
			if c.Flags == 0 {
				l = append(l, with(c, func(c *api.Change) { c.Flags = n }))
			}
			if c.Date == 0 {
				l = append(l, with(c, func(c *api.Change) { c.Date = n }))
			}
		}
	}
	return l
}

// textOfChange is all of a change, where no list and an empty one are the same.
func textOfChange(c api.Change) string {
	return fmt.Sprintf("%d %q %q %q %q %v %d %d %d %q", c.Kind, c.User, c.Pass, c.Box, c.To, c.UIDs, c.Mode, c.Flags, c.Date, c.Body)
}

// isNone tells whether nothing is in a change.
func isNone(c api.Change) bool { return textOfChange(c) == textOfChange(api.Change{}) }

func TestEncode(t *testing.T) {
	for _, c := range goodChanges() {
		if !plainMay(c) {
			t.Fatalf("the test's own: %.200s may not be", textOfChange(c))
		}
		p, e := store.Encode(c)
		if e != api.OK || !bytes.Equal(p, plainBytes(c)) {
			t.Errorf("Encode of %.200s: % x, error %d; want % x", textOfChange(c), p, e, plainBytes(c))
		}
		back, e := store.Decode(p)
		if e != api.OK || textOfChange(back) != textOfChange(c) {
			t.Errorf("Decode of Encode: %.200s, error %d; want %.200s", textOfChange(back), e, textOfChange(c))
		}
		again, e := store.Encode(back)
		if e != api.OK || !bytes.Equal(again, p) {
			t.Errorf("Encode of Decode: % x, error %d; want % x", again, e, p)
		}
	}
}

func TestEncodeByHand(t *testing.T) {
	for want, c := range map[string]api.Change{
		"\x01\x01u\x02p!\x00\x00\x00\x00\x00\x00\x00":                                    enrol("u", "p!"),
		"\x02\x01u\x00\x01b\x00\x00\x00\x00\x00\x00":                                     create("u", "b"),
		"\x03\x01u\x00\x01b\x00\x00\x00\x00\x00\x00":                                     remove("u", "b"),
		"\x04\x01u\x00\x01b\x02to\x00\x00\x00\x00\x00":                                   rename("u", "b", "to"),
		"\x05\x01u\x00\x01b\x00\x00\x00\x1f\xac\x02\x03abc":                              add("u", "b", 31, 300, "abc"),
		"\x05\x05inbox\x00\x05inbox\x00\x00\x00\x00\x80\x80\x80\x80\x04\x00":             add("inbox", "inbox", 0, api.MaxDate, ""),
		"\x06\x01u\x00\x01b\x00\x03\x01\xac\x02\x80\x80\x40\x02\x09\x00\x00":             marking("u", "b", api.ModeSub, 9, 1, 300, api.MaxUID),
		"\x07\x01u\x00\x01b\x00\x02\x07\x08\x00\x00\x00\x00":                             expunge("u", "b", 7, 8),
		"\x08\x01u\x00\x01b\x0cabcdefghijkl\x01\x7f\x00\x00\x00\x00":                     transcribe("u", "b", "abcdefghijkl", 127),
		"\x08\x01u\x00\x01b\x01b\x00\x00\x00\x00\x00":                                    transcribe("u", "b", "b"),
		"\x05\x01u\x00\x01b\x00\x00\x00\x00\x00\xb0\x09" + strings.Repeat("z", 1200):     add("u", "b", 0, 0, strings.Repeat("z", 1200)),
		"\x07\x01u\x00\x01b\x00\x18" + string(numbers(upTo(24)...)) + "\x00\x00\x00\x00": expunge("u", "b", upTo(24)...),
	} {
		if p, e := store.Encode(c); e != api.OK || string(p) != want {
			t.Errorf("Encode of %.100s: % x, error %d; want % x", textOfChange(c), p, e, want)
		}
		if got, e := store.Decode([]byte(want)); e != api.OK || textOfChange(got) != textOfChange(c) {
			t.Errorf("Decode of % x: %.100s, error %d", want, textOfChange(got), e)
		}
	}
}

// A change that may not be is refused by Encode and by Do, and its bytes by Decode, if it can be laid in any.
func TestWhatMayNotBe(t *testing.T) {
	s, d, now := ready(t, enrol("user", "p"), create("user", "box"), create("user", "to"), add("user", "box", 0, 0, "one"))
	for _, c := range badChanges() {
		if plainMay(c) {
			t.Fatalf("the test's own: %.200s may be", textOfChange(c))
		}
		if p, e := store.Encode(c); len(p) != 0 || e != api.ErrArg {
			t.Errorf("Encode of %.200s: % .50x, error %d", textOfChange(c), p, e)
		}
		if n, e := s.Do(c); n != 0 || e != api.ErrArg {
			t.Errorf("Do of %.200s: %d, error %d", textOfChange(c), n, e)
		}
		expectNone(t, plainBytes(c))
	}
	expectTold(t, "behind what may not be", s, now)
	expectTold(t, "behind what may not be, opened again", opened(t, "again", d), now)
	if last := bookIn(t, d).Last(); last != 4 {
		t.Errorf("what may not be was written: %d entries", last)
	}
}

// Each byte at each place of names and passes of each length.
func TestBytesOfNamesAndPasses(t *testing.T) {
	for n := 1; n <= api.MaxName+1; n++ {
		for place := range n {
			for x := range 256 {
				p := []byte("az09bycx18270")[:n]
				p[place] = byte(x)
				for _, c := range []api.Change{enrol(string(p), "p"), enrol("u", string(p)), rename("u", string(p), "to"), rename("u", "b", string(p))} {
					_, e := store.Encode(c)
					if (e == api.OK) != plainMay(c) {
						t.Errorf("Encode of %s: error %d", textOfChange(c), e)
					}
				}
			}
		}
	}
}

func TestNumbersOfChanges(t *testing.T) {
	for n := -3; n < 1300; n++ {
		for _, c := range []api.Change{
			{Kind: n, User: "u", Box: "b"}, marking("u", "b", n, 0), marking("u", "b", 0, n), marking("u", "b", 0, 0, n), add("u", "b", n, 0, ""), add("u", "b", 0, n, ""),
			add("u", "b", 0, 0, bodyOf(max(n, 0))), expunge("u", "b", upTo(n)...), transcribe("u", "b", "t", n, 5), transcribe("u", "b", "t", 5, n),
		} {
			if _, e := store.Encode(c); (e == api.OK) != plainMay(c) {
				t.Errorf("Encode of %.200s: error %d", textOfChange(c), e)
			}
		}
	}
}

// expectNone wants of Decode that it refuses bytes.
func expectNone(t *testing.T, p []byte) {
	t.Helper()
	if c, e := store.Decode(p); e != api.ErrForm || !isNone(c) {
		t.Errorf("Decode of % .100x: %.200s, error %d", p, textOfChange(c), e)
	}
}

// expectDecoded wants of Decode what the plain one tells.
func expectDecoded(t *testing.T, p []byte) bool {
	t.Helper()
	want, is := plainParse(p)
	if !is {
		expectNone(t, p)
		return false
	}
	if c, e := store.Decode(p); e != api.OK || textOfChange(c) != textOfChange(want) {
		t.Errorf("Decode of % .100x: %.200s, error %d; want %.200s", p, textOfChange(c), e, textOfChange(want))
	}
	return true
}

func TestDecodeOfBytesCutShort(t *testing.T) {
	expectNone(t, nil)
	expectNone(t, []byte{})
	for _, c := range append(someChanges(), marking("u", "b", 0, 0, upTo(24)...), add("u", "b", 0, 0, bodyOf(api.MaxBody))) {
		p := plainBytes(c)
		for n := range p {
			expectNone(t, p[:n])
			expectNone(t, p[:n:n])
		}
		for x := range 256 {
			expectNone(t, append(p[:len(p):len(p)], byte(x)))
		}
		expectNone(t, slices.Concat(p, p))
		expectNone(t, append([]byte{0}, p...))
	}
}

func TestDecodeOfOtherBytes(t *testing.T) {
	for _, c := range append(someChanges(), marking("u", "b", 2, 31), add("u", "b", 0, 0, ""), rename("abcdefghijkl", "b", "inbox")) {
		p := plainBytes(c)
		for place := range p {
			for x := range 256 {
				other := slices.Clone(p)
				other[place] = byte(x)
				expectDecoded(t, other)
			}
			expectDecoded(t, slices.Delete(slices.Clone(p), place, place+1))
			for _, x := range []byte{0, 1, 0x80, 0xff} {
				expectDecoded(t, slices.Insert(slices.Clone(p), place, x))
			}
		}
	}
}

// Numbers in more bytes than they need, and such as no number has.
func TestDecodeOfOtherNumbers(t *testing.T) {
	for _, c := range someChanges() {
		p := plainBytes(c)
		for place := range p {
			if p[place] > 0x7f {
				continue
			}
			longer := slices.Concat(p[:place], []byte{p[place] | 0x80, 0}, p[place+1:])
			if expectDecoded(t, longer) {
				t.Errorf("the test's own: % x is a change", longer)
			}
			expectNone(t, slices.Concat(p[:place], []byte{p[place] | 0x80, 0x80, 0}, p[place+1:]))
			for _, n := range []uint64{api.MaxMsgs + 1, api.MaxUID + 1, api.MaxDate + 1, 1 << 32, 1<<32 + 1, 1 << 40, 1 << 62, 1<<62 + 1, 1 << 63, math.MaxUint64} {
				expectDecoded(t, slices.Concat(p[:place], binary.AppendUvarint(nil, n), p[place+1:]))
			}
			expectNone(t, slices.Concat(p[:place], bytes.Repeat([]byte{0xff}, 12), p[place+1:]))
		}
	}
	huge := slices.Concat([]byte{7, 1, 'u', 0, 1, 'b', 0}, numbers(1<<40), bytes.Repeat([]byte{1}, 1<<20))
	expectNone(t, huge)
}

func TestDecodeOfRandomBytes(t *testing.T) {
	r := rand.New(rand.NewPCG(14, 4))
	all := goodChanges()
	good, bad := 0, 0
	for range 200000 {
		p := plainBytes(all[r.IntN(len(all))])
		if len(p) > 100 && r.IntN(10) > 0 {
			continue
		}
		for r.IntN(3) > 0 {
			p[r.IntN(len(p))] = []byte{byte(r.IntN(256)), byte(r.IntN(4)), 'a' + byte(r.IntN(26))}[r.IntN(3)]
		}
		if expectDecoded(t, p) {
			good++
		} else {
			bad++
		}
	}
	for range 50000 {
		p := make([]byte, r.IntN(30))
		for i := range p {
			p[i] = []byte{byte(r.IntN(256)), byte(r.IntN(9)), 0, 1, 'a'}[r.IntN(5)]
		}
		expectDecoded(t, p)
	}
	if good < 10000 || bad < 10000 {
		t.Errorf("the test's own: %d changes, %d others", good, bad)
	}
}

// Memory

// soil overwrites bytes and the spare room behind them.
func soil(p []byte) {
	p = p[:cap(p)]
	for i := range p {
		p[i] ^= 0xff
	}
}

// soilUIDs does so with numbers.
func soilUIDs(l []int) {
	l = l[:cap(l)]
	for i := range l {
		l[i] = -7
	}
}

func TestBytesAreNewMemory(t *testing.T) {
	for _, c := range goodChanges() {
		text := textOfChange(c)
		c.UIDs = append(make([]int, 0, len(c.UIDs)+3), c.UIDs...)
		c.Body = append(make([]byte, 0, len(c.Body)+3), c.Body...)
		p, _ := store.Encode(c)
		q, _ := store.Encode(c)
		uids, body := c.UIDs[len(c.UIDs):cap(c.UIDs)], c.Body[len(c.Body):cap(c.Body)]
		if textOfChange(c) != text || !slices.Equal(uids, make([]int, len(uids))) || !bytes.Equal(body, make([]byte, len(body))) {
			t.Errorf("Encode changed what it was handed: %.200s, was %.200s", textOfChange(c), text)
		}
		want := bytes.Clone(q)
		soil(p)
		soil(c.Body)
		soilUIDs(c.UIDs)
		if !bytes.Equal(q, want) {
			t.Errorf("Encode keeps what it was handed, or what it told: % x, was % x", q, want)
		}
		room := append(make([]byte, 0, len(q)+3), q...)
		one, _ := store.Decode(room)
		two, _ := store.Decode(room)
		if !bytes.Equal(room, want) || !bytes.Equal(room[len(room):cap(room)], make([]byte, cap(room)-len(room))) {
			t.Errorf("Decode changed what it was handed: % x, was % x", room, want)
		}
		soil(one.Body)
		soilUIDs(one.UIDs)
		if !bytes.Equal(room, want) {
			t.Errorf("what Decode was handed has changed with what it told: % x, was % x", room, want)
		}
		soil(room)
		if textOfChange(two) != text {
			t.Errorf("Decode keeps what it was handed, or what it told: %.200s, was %.200s", textOfChange(two), text)
		}
	}
}

package box_test

import (
	"bytes"
	"fmt"
	"math"
	"slices"
	"strings"
	"testing"

	"letterbox/api"
	"letterbox/box"
	"letterbox/mark"
)

func message(uid, flags, date int, body string) api.Message {
	return api.Message{UID: uid, Flags: flags, Date: date, Body: []byte(body)}
}

func boxOf(next int, l ...api.Message) api.Box {
	return api.Box{Name: "x", Validity: 7, Next: next, L: l}
}

// some is a box of five messages, with UIDs between that are gone, and each field's edges.
func some() api.Box {
	return boxOf(20,
		message(2, 0, 0, "two"),
		message(3, api.AllFlags, api.MaxDate, ""),
		message(7, 9, 1, "\x00\xff\r\n"),
		message(8, 16, 300, "two"),
		message(19, 1, 5, strings.Repeat("z", api.MaxBody)))
}

// rowOf is a box of n messages with the UIDs from 1 on.
func rowOf(n int) api.Box {
	b := boxOf(n + 1)
	for uid := 1; uid <= n; uid++ {
		b.L = append(b.L, message(uid, uid%32, uid*3, strings.Repeat("b", uid%4)))
	}
	return b
}

// textOf is all of a box, where no list and an empty one are the same.
func textOf(b api.Box) string {
	text := fmt.Sprintf("%q %d %d", b.Name, b.Validity, b.Next)
	for _, m := range b.L {
		text += fmt.Sprintf(" [%d %d %d %q]", m.UID, m.Flags, m.Date, m.Body)
	}
	return text
}

func uidsOf(b api.Box) []int {
	var uids []int
	for _, m := range b.L {
		uids = append(uids, m.UID)
	}
	return uids
}

func expectBox(t *testing.T, what string, got, want api.Box) {
	t.Helper()
	if textOf(got) != textOf(want) {
		t.Errorf("%s is %.500s; want %.500s", what, textOf(got), textOf(want))
	}
}

// changed is what change makes of some.
func changed(change func(b *api.Box)) api.Box {
	b := some()
	change(&b)
	return b
}

// good has boxes that may be, at the edges too.
func good() map[string]api.Box {
	long := changed(func(b *api.Box) { b.Name = "azbycx019283"[:api.MaxName] })
	return map[string]api.Box{
		"an empty one":             box.New("a", 1),
		"an empty one, as late":    {Name: "z9", Validity: api.MaxUID, Next: api.MaxUID},
		"one with an empty list":   {Name: "x", Validity: 7, Next: 1, L: []api.Message{}},
		"some":                     some(),
		"the longest name":         long,
		"Validity 1":               changed(func(b *api.Box) { b.Validity = 1 }),
		"Validity MaxUID":          changed(func(b *api.Box) { b.Validity = api.MaxUID }),
		"Next MaxUID":              changed(func(b *api.Box) { b.Next = api.MaxUID }),
		"UID 1":                    changed(func(b *api.Box) { b.L[0].UID = 1 }),
		"the last UID there is":    boxOf(api.MaxUID, message(1, 0, 0, ""), message(api.MaxUID-1, 0, 0, "")),
		"one message, the last":    boxOf(2, message(1, 0, 0, "")),
		"MaxMsgs messages":         rowOf(api.MaxMsgs),
		"MaxMsgs of the longest":   longest(api.MaxMsgs),
		"a nil body":               changed(func(b *api.Box) { b.L[0].Body = nil }),
		"an empty body":            changed(func(b *api.Box) { b.L[0].Body = []byte{} }),
		"a body of MaxBody":        changed(func(b *api.Box) { b.L[0].Body = make([]byte, api.MaxBody) }),
		"AllFlags in all":          changed(func(b *api.Box) { setAll(b, func(m *api.Message) { m.Flags = api.AllFlags }) }),
		"MaxDate in all":           changed(func(b *api.Box) { setAll(b, func(m *api.Message) { m.Date = api.MaxDate }) }),
		"no flags, no date in all": changed(func(b *api.Box) { setAll(b, func(m *api.Message) { m.Flags, m.Date = 0, 0 }) }),
	}
}

func setAll(b *api.Box, set func(m *api.Message)) {
	for place := range b.L {
		set(&b.L[place])
	}
}

func longest(n int) api.Box {
	b := rowOf(n)
	setAll(&b, func(m *api.Message) { m.Body = bytes.Repeat([]byte{byte(m.UID)}, api.MaxBody) })
	return b
}

// noNumbers are neither Validity nor Next of a box.
var noNumbers = []int{0, -1, -2, -api.MaxUID, api.MaxUID + 1, api.MaxUID + 2, 2 * api.MaxUID, 1<<31 - 1, 1 << 32, 1<<32 + 7, 1 << 62, math.MaxInt, math.MinInt}

// noFlags are none that a message may have, noDates likewise.
var (
	noFlags = []int{-1, -2, -32, api.AllFlags + 1, 33, 64, 255, 256, 1 << 32, 1 << 62, math.MaxInt, math.MinInt}
	noDates = []int{-1, -2, -api.MaxDate, api.MaxDate + 1, api.MaxDate + 2, 1<<31 - 1, 1 << 32, 1 << 62, math.MaxInt, math.MinInt}
)

// none has boxes that may not be, each for one thing alone.
func none() map[string]api.Box {
	boxes := map[string]api.Box{}
	for _, name := range noNames {
		boxes[fmt.Sprintf("the name %q", name)] = changed(func(b *api.Box) { b.Name = name })
	}
	for _, n := range noNumbers {
		boxes[fmt.Sprint("Validity ", n)] = changed(func(b *api.Box) { b.Validity = n })
		boxes[fmt.Sprint("Next ", n)] = changed(func(b *api.Box) { b.Next = n })
		boxes[fmt.Sprint("Next of an empty one ", n)] = boxOf(n)
	}
	for place, m := range some().L {
		at := fmt.Sprint(" of message ", place, " ")
		for _, uid := range []int{0, -1, -20, 20, 21, math.MaxInt, math.MinInt} { // some's Next, and beyond all
			boxes[fmt.Sprint("UID", at, uid)] = changed(func(b *api.Box) { b.L[place].UID = uid })
		}
		if place > 0 {
			boxes["that UID again, place"+at] = changed(func(b *api.Box) { b.L[place].UID = b.L[place-1].UID })
			boxes["a UID below the one ahead, place"+at] = changed(func(b *api.Box) { b.L[place].UID = b.L[place-1].UID - 1 })
			boxes["two turned round"+at] = changed(func(b *api.Box) { b.L[place], b.L[place-1] = b.L[place-1], b.L[place] })
		}
		boxes["Next like that UID"+at] = changed(func(b *api.Box) { b.L, b.Next = b.L[:place+1], m.UID })
		for _, flags := range noFlags {
			boxes[fmt.Sprint("Flags", at, flags)] = changed(func(b *api.Box) { b.L[place].Flags = flags })
		}
		for _, date := range noDates {
			boxes[fmt.Sprint("Date", at, date)] = changed(func(b *api.Box) { b.L[place].Date = date })
		}
		for _, size := range []int{api.MaxBody + 1, api.MaxBody + 2, 2 * api.MaxBody, 1 << 16} {
			boxes[fmt.Sprint("Body", at, size)] = changed(func(b *api.Box) { b.L[place].Body = make([]byte, size) })
		}
	}
	for _, n := range []int{api.MaxMsgs + 1, api.MaxMsgs + 2, 2 * api.MaxMsgs, 1000} {
		boxes[fmt.Sprint(n, " messages")] = rowOf(n)
	}
	boxes["nothing"] = api.Box{}
	boxes["messages of nothing"] = boxOf(9, api.Message{}, api.Message{})
	return boxes
}

// P13.1: New, names, and boxes that may be

// noNames are none.
var noNames = []string{
	"", " ", "A", "Z", "INBOX", "Inbox", "inboX", "a b", " a", "a ", "a-b", "a_b", "a.b", "a/b", "-", "_", ".", "..", "/", "a\n", "\na", "a\x00", "\x00", "\x7f", "\xff", "a\xff", "\xe1", "\x80a",
	"\u00e4", "a\u0301", "\u0430", "\uff41", "\u0661", "\u00b2", "\u017f", "\u212a", "\ufeffa", "\u200b", "aaaaaaaaaaaaa", "0000000000000", "aaaaaaaaaaa\u00e4", "aaaaaaaaaaaa ", "`", "{", ":", "@", "[", "a`", "9:",
}

func TestNew(t *testing.T) {
	for _, name := range append([]string{"a", "inbox", "0", "abcdefghijkl"}, noNames...) {
		for _, validity := range append([]int{1, 2, 7, api.MaxUID - 1, api.MaxUID}, noNumbers...) {
			b := box.New(name, validity)
			if b.Name != name || b.Validity != validity || b.Next != 1 || len(b.L) != 0 {
				t.Errorf("New of %q, %d is %s", name, validity, textOf(b))
			}
			want := !slices.Contains(noNames, name) && !slices.Contains(noNumbers, validity)
			if box.Is(b) != want {
				t.Errorf("Is of New of %q, %d is not %t", name, validity, want)
			}
		}
	}
}

func TestLengthsOfNames(t *testing.T) {
	for _, letter := range []string{"a", "m", "z", "0", "5", "9"} {
		for n := range 300 {
			if box.Name(strings.Repeat(letter, n)) != (1 <= n && n <= api.MaxName) {
				t.Errorf("Name of %d of %q", n, letter)
			}
		}
		if box.Name(strings.Repeat(letter, 1<<20)) || box.Name(strings.Repeat(letter, 1<<8+1)) || box.Name(strings.Repeat(letter, 1<<16+1)) {
			t.Errorf("Name of very many of %q", letter)
		}
	}
	for _, name := range noNames {
		if box.Name(name) {
			t.Errorf("Name of %q", name)
		}
	}
}

// Each byte at each place of a name of each length.
func TestBytesOfNames(t *testing.T) {
	for n := 1; n <= api.MaxName; n++ {
		for place := range n {
			for x := range 256 {
				name := []byte("az09bycx1827")[:n]
				name[place] = byte(x)
				want := 'a' <= x && x <= 'z' || '0' <= x && x <= '9'
				if box.Name(string(name)) != want || box.Is(box.New(string(name), 1)) != want {
					t.Errorf("Name of %q is not %t", name, want)
				}
			}
		}
	}
}

func TestIs(t *testing.T) {
	for what, b := range good() {
		if !box.Is(b) {
			t.Errorf("Is of %s is false", what)
		}
	}
	for what, b := range none() {
		if box.Is(b) {
			t.Errorf("Is of one with %s is true", what)
		}
	}
}

func TestEachNumberOfABox(t *testing.T) {
	for n := -3; n <= api.MaxUID+3; n += 1 + max(n, 0)/1000 {
		want := 1 <= n && n <= api.MaxUID
		if box.Is(box.New("a", n)) != want || box.Is(boxOf(n)) != want {
			t.Errorf("Validity or Next %d is not %t", n, want)
		}
		if box.Is(boxOf(n, message(n-1, 0, 0, ""))) != (2 <= n && n <= api.MaxUID) {
			t.Errorf("a message with UID %d, one below Next", n-1)
		}
		if box.Is(boxOf(n, message(n, 0, 0, ""))) || box.Is(boxOf(n, message(n+1, 0, 0, ""))) {
			t.Errorf("a message with UID %d, Next, or one beyond", n)
		}
	}
	for flags := -70; flags <= 300; flags++ {
		if box.Is(boxOf(2, message(1, flags, 0, ""))) != (0 <= flags && flags <= 31) {
			t.Errorf("a message with Flags %d", flags)
		}
	}
	for size := range api.MaxBody + 10 {
		if box.Is(boxOf(2, message(1, 0, 0, strings.Repeat("a", size)))) != (size <= api.MaxBody) {
			t.Errorf("a message with a body of %d", size)
		}
	}
	for n := range 3 * api.MaxMsgs {
		if box.Is(rowOf(n)) != (n <= api.MaxMsgs) {
			t.Errorf("a box of %d messages", n)
		}
	}
}

// P13.1: Add

func TestAdd(t *testing.T) {
	for what, b := range good() {
		if len(b.L) == api.MaxMsgs || b.Next == api.MaxUID {
			continue
		}
		for _, m := range []api.Message{
			message(0, 0, 0, ""), message(0, 31, api.MaxDate, strings.Repeat("b", api.MaxBody)), message(0, 9, 12, "body"),
			message(0, 0, api.MaxDate, "\x00"), message(0, 31, 0, "\r\n"), {}, {Body: make([]byte, api.MaxBody-1)},
		} {
			got, uid, e := box.Add(b, m.Flags, m.Date, m.Body)
			if uid != b.Next || e != api.OK {
				t.Errorf("Add to %s tells %d, error %d; want %d", what, uid, e, b.Next)
			}
			m.UID = b.Next
			want := api.Box{Name: b.Name, Validity: b.Validity, Next: b.Next + 1, L: append(slices.Clone(b.L), m)}
			expectBox(t, "Add to "+what, got, want)
			if !box.Is(got) {
				t.Errorf("Add to %s makes one that may not be", what)
			}
		}
	}
}

func TestAddUpToMaxMsgs(t *testing.T) {
	b := box.New("x", 7)
	for n := 1; n <= api.MaxMsgs; n++ {
		var uid int
		var e api.Errno
		b, uid, e = box.Add(b, n%32, n*3, []byte(strings.Repeat("b", n%4)))
		if uid != n || e != api.OK {
			t.Fatalf("Add of message %d tells %d, error %d", n, uid, e)
		}
		expectBox(t, "Add", b, rowOf(n))
	}
	for range 3 {
		expectNotAdded(t, b, 0, 0, nil, api.ErrFull)
	}
	b, _ = box.Expunge(b, []int{1})
	b, uid, e := box.Add(b, 0, 0, nil)
	if uid != api.MaxMsgs+1 || e != api.OK {
		t.Errorf("Add behind Expunge tells %d, error %d", uid, e)
	}
	expectNotAdded(t, b, 0, 0, nil, api.ErrFull)
}

func TestAddUpToMaxUID(t *testing.T) {
	for next := api.MaxUID - 3; next < api.MaxUID; next++ {
		b := boxOf(next, message(next-1, 0, 0, ""))
		for uid := next; uid < api.MaxUID; uid++ {
			var got int
			var e api.Errno
			b, got, e = box.Add(b, 0, 0, nil)
			if got != uid || e != api.OK || b.Next != uid+1 || !box.Is(b) {
				t.Errorf("Add to Next %d tells %d, error %d", uid, got, e)
			}
		}
		expectNotAdded(t, b, 0, 0, nil, api.ErrUsed)
		b, _ = box.Expunge(b, uidsOf(b))
		expectNotAdded(t, b, 0, 0, nil, api.ErrUsed)
	}
	for _, next := range []int{api.MaxUID + 1, math.MaxInt} {
		expectNotAdded(t, boxOf(next), 0, 0, nil, api.ErrUsed)
	}
}

// expectNotAdded wants an error, and beside it the box as it was.
func expectNotAdded(t *testing.T, b api.Box, flags, date int, body []byte, want api.Errno) {
	t.Helper()
	was := textOf(b)
	got, uid, e := box.Add(b, flags, date, body)
	if uid != 0 || e != want {
		t.Errorf("Add of %d, %d, %d bytes to %d messages, Next %d, tells %d, error %d; want error %d", flags, date, len(body), len(b.L), b.Next, uid, e, want)
	}
	if textOf(got) != was || textOf(b) != was {
		t.Errorf("Add with error %d tells %.300s, and leaves %.300s, of %.300s", e, textOf(got), textOf(b), was)
	}
}

func TestAddRefuses(t *testing.T) {
	for _, b := range []api.Box{some(), box.New("a", 1), rowOf(api.MaxMsgs - 1)} {
		for _, flags := range noFlags {
			expectNotAdded(t, b, flags, 0, nil, api.ErrArg)
			expectNotAdded(t, b, flags, api.MaxDate, []byte("a"), api.ErrArg)
		}
		for _, date := range noDates {
			expectNotAdded(t, b, 0, date, nil, api.ErrArg)
			expectNotAdded(t, b, api.AllFlags, date, []byte("a"), api.ErrArg)
		}
		for _, size := range []int{api.MaxBody + 1, api.MaxBody + 2, 1 << 16, 1 << 24} {
			expectNotAdded(t, b, 0, 0, make([]byte, size), api.ErrLong)
		}
	}
}

// Of all that applies at once, the first of the sentence is told.
func TestOrderOfErrors(t *testing.T) {
	type choice struct {
		n   int
		bad bool
	}
	mostly := func(goods []int, bads ...int) (l []choice) {
		for _, n := range goods {
			l = append(l, choice{n, false})
		}
		for _, n := range bads {
			l = append(l, choice{n, true})
		}
		return l
	}
	for _, flags := range mostly([]int{0, 31}, -1, 32) {
		for _, date := range mostly([]int{0, api.MaxDate}, -1, api.MaxDate+1) {
			for _, size := range mostly([]int{0, api.MaxBody}, api.MaxBody+1, 2*api.MaxBody) {
				for _, n := range mostly([]int{0, api.MaxMsgs - 1}, api.MaxMsgs) {
					for _, next := range mostly([]int{api.MaxMsgs + 1, api.MaxUID - 1}, api.MaxUID) {
						b := rowOf(n.n)
						b.Next = next.n
						body := make([]byte, size.n)
						switch {
						case flags.bad || date.bad:
							expectNotAdded(t, b, flags.n, date.n, body, api.ErrArg)
						case size.bad:
							expectNotAdded(t, b, flags.n, date.n, body, api.ErrLong)
						case n.bad:
							expectNotAdded(t, b, flags.n, date.n, body, api.ErrFull)
						case next.bad:
							expectNotAdded(t, b, flags.n, date.n, body, api.ErrUsed)
						default:
							if _, uid, e := box.Add(b, flags.n, date.n, body); uid != next.n || e != api.OK {
								t.Errorf("Add of what may be tells %d, error %d", uid, e)
							}
						}
					}
				}
			}
		}
	}
}

// P13.1: Find

func TestFind(t *testing.T) {
	for what, b := range good() {
		places := map[int]int{}
		for place, m := range b.L {
			places[m.UID] = place
		}
		for _, uid := range append(uidsOf(b), 0, -1, -2, math.MinInt, math.MaxInt, 1, 4, 9, 18, 20, 23, 24, 25, b.Next-1, b.Next, b.Next+1) {
			want, has := places[uid]
			if !has {
				want = -1
			}
			if got := box.Find(b, uid); got != want {
				t.Errorf("Find of %d in %s is %d, want %d", uid, what, got, want)
			}
		}
	}
	b, _ := box.Expunge(rowOf(5), []int{1, 3, 5})
	for uid, want := range []int{-1, -1, 0, -1, 1, -1, -1, -1} {
		if got := box.Find(b, uid); got != want {
			t.Errorf("Find of %d behind Expunge is %d, want %d", uid, got, want)
		}
	}
	if got := box.Find(boxOf(1, message(3, 0, 0, ""), message(2, 0, 0, ""), message(3, 1, 0, "")), 3); got != 0 {
		t.Errorf("Find of a UID that is there twice is %d", got)
	}
}

// P13.1: Mark

// uidLists are lists that are handed in, with UIDs of some and others.
func uidLists() [][]int {
	return [][]int{
		nil, {}, make([]int, 0, 9), {2}, {3}, {7}, {8}, {19}, {2, 3, 7, 8, 19}, {19, 8, 7, 3, 2}, {8, 2, 19}, {3, 3}, {7, 2, 7, 7, 2},
		{0}, {-1}, {1}, {4}, {20}, {21}, {math.MaxInt, math.MinInt}, {1, 4, 5, 6, 9, 18, 20}, {1, 2, 4, 19, 20, -2, 0, 3, 3}, {-2, -3, -7, -8, -19},
		slices.Repeat([]int{19, 2}, 1000), slices.Repeat([]int{5}, 1000), append(slices.Repeat([]int{0}, 1000), 8),
	}
}

func TestMark(t *testing.T) {
	for _, uids := range uidLists() {
		for _, mode := range []int{api.ModeSet, api.ModeAdd, api.ModeSub, 3, -1, 4, 1 << 32, math.MaxInt, math.MinInt} {
			for _, flags := range []int{0, 1, 2, 4, 8, 9, 16, 30, 31, 32, 33, 41, 1 << 40, 1<<40 + 5, -1, -2, -32, math.MaxInt, math.MinInt} {
				want, count := some(), 0
				for place, m := range want.L {
					if !slices.Contains(uids, m.UID) {
						continue
					}
					want.L[place].Flags = mark.Apply(mode, m.Flags, flags)
					if want.L[place].Flags != m.Flags {
						count++
					}
				}
				got, n := box.Mark(some(), uids, mode, flags)
				if n != count {
					t.Errorf("Mark of %.80v, mode %d, flags %d, tells %d, want %d", fmt.Sprint(uids), mode, flags, n, count)
				}
				expectBox(t, "Mark", got, want)
				if !box.Is(got) {
					t.Errorf("Mark with mode %d, flags %d makes one that may not be", mode, flags)
				}
			}
		}
	}
}

// The same, worked out by hand.
func TestMarkByHand(t *testing.T) {
	for _, c := range []struct {
		uids        []int
		mode, flags int
		want        string
		n           int
	}{
		{[]int{2, 3, 7, 8, 19}, api.ModeSet, 9, "[9 9 9 9 9]", 4},
		{[]int{2, 3, 7, 8, 19}, api.ModeAdd, 9, "[9 31 9 25 9]", 3},
		{[]int{2, 3, 7, 8, 19}, api.ModeSub, 9, "[0 22 0 16 0]", 3},
		{[]int{2, 3, 7, 8, 19}, 3, 9, "[0 31 9 16 1]", 0},
		{[]int{2, 3, 7, 8, 19}, -1, 31, "[0 31 9 16 1]", 0},
		{[]int{2, 3, 7, 8, 19}, api.ModeSet, 0, "[0 0 0 0 0]", 4},
		{[]int{2, 3, 7, 8, 19}, api.ModeAdd, 0, "[0 31 9 16 1]", 0},
		{[]int{2, 3, 7, 8, 19}, api.ModeSub, 0, "[0 31 9 16 1]", 0},
		{[]int{2, 3, 7, 8, 19}, api.ModeSet, 32, "[0 0 0 0 0]", 4},
		{[]int{2, 3, 7, 8, 19}, api.ModeAdd, 33, "[1 31 9 17 1]", 2},
		{[]int{2, 3, 7, 8, 19}, api.ModeAdd, 96, "[0 31 9 16 1]", 0},
		{[]int{2, 3, 7, 8, 19}, api.ModeSet, -1, "[31 31 31 31 31]", 4},
		{[]int{2, 3, 7, 8, 19}, api.ModeAdd, -31, "[1 31 9 17 1]", 2},
		{[]int{2, 3, 7, 8, 19}, api.ModeSub, -1, "[0 0 0 0 0]", 4},
		{[]int{19, 2}, api.ModeSet, 1, "[1 31 9 16 1]", 1},
		{[]int{8, 8, 8}, api.ModeAdd, 1, "[0 31 9 17 1]", 1},
		{[]int{1, 4, 20, 0, -7}, api.ModeSet, 2, "[0 31 9 16 1]", 0},
		{nil, api.ModeSet, 2, "[0 31 9 16 1]", 0},
	} {
		b, n := box.Mark(some(), c.uids, c.mode, c.flags)
		var flags []int
		for _, m := range b.L {
			flags = append(flags, m.Flags)
		}
		if n != c.n || fmt.Sprint(flags) != c.want {
			t.Errorf("Mark of %v, mode %d, flags %d, is %v, %d; want %s, %d", c.uids, c.mode, c.flags, flags, n, c.want, c.n)
		}
	}
	if b, n := box.Mark(box.New("a", 1), []int{1, 0}, api.ModeSet, 1); n != 0 || textOf(b) != textOf(box.New("a", 1)) {
		t.Errorf("Mark of an empty one is %s, %d", textOf(b), n)
	}
}

// P13.1: Expunge

func TestExpunge(t *testing.T) {
	for what, b := range good() {
		for _, uids := range append(uidLists(), uidsOf(b), []int{1}, []int{24, 1, 12}) {
			want := api.Box{Name: b.Name, Validity: b.Validity, Next: b.Next}
			var wantGone []int
			for _, m := range b.L {
				if slices.Contains(uids, m.UID) {
					wantGone = append(wantGone, m.UID)
				} else {
					want.L = append(want.L, m)
				}
			}
			got, gone := box.Expunge(b, uids)
			if !slices.Equal(gone, wantGone) {
				t.Errorf("Expunge of %.80s of %s tells %v, want %v", fmt.Sprint(uids), what, gone, wantGone)
			}
			expectBox(t, "Expunge of "+what, got, want)
			if !box.Is(got) {
				t.Errorf("Expunge of %s makes one that may not be", what)
			}
		}
	}
}

// The same, worked out by hand.
func TestExpungeByHand(t *testing.T) {
	for _, c := range []struct {
		uids       []int
		gone, stay string
	}{
		{nil, "[]", "[2 3 7 8 19]"},
		{[]int{}, "[]", "[2 3 7 8 19]"},
		{[]int{1, 4, 20, 0, -2}, "[]", "[2 3 7 8 19]"},
		{[]int{2}, "[2]", "[3 7 8 19]"},
		{[]int{19}, "[19]", "[2 3 7 8]"},
		{[]int{7, 7}, "[7]", "[2 3 8 19]"},
		{[]int{19, 3}, "[3 19]", "[2 7 8]"},
		{[]int{8, 7, 3}, "[3 7 8]", "[2 19]"},
		{[]int{8, 1, 2, 8, 2, 30}, "[2 8]", "[3 7 19]"},
		{[]int{2, 3, 7, 8, 19}, "[2 3 7 8 19]", "[]"},
		{[]int{19, 8, 7, 3, 2}, "[2 3 7 8 19]", "[]"},
	} {
		b, gone := box.Expunge(some(), c.uids)
		if fmt.Sprint(gone) != c.gone || fmt.Sprint(uidsOf(b)) != c.stay || b.Next != 20 {
			t.Errorf("Expunge of %v tells %v, leaves %v, Next %d; want %s, %s, 20", c.uids, gone, uidsOf(b), b.Next, c.gone, c.stay)
		}
	}
}

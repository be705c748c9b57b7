package box_test

import (
	"bytes"
	"encoding/binary"
	"fmt"
	"math"
	"slices"
	"strings"
	"testing"

	"letterbox/api"
	"letterbox/box"
)

// P13.2: Stamp

// plainStamp is worked out with whole numbers: place by place, a quarter more.
func plainStamp(b api.Box) complex128 {
	x, y := 0, 0
	for place, m := range b.L {
		switch place % 4 {
		case 0:
			x += m.UID
		case 1:
			y += m.UID
		case 2:
			x -= m.UID
		case 3:
			y -= m.UID
		}
	}
	return complex(float64(x), float64(y))
}

func TestStamp(t *testing.T) {
	for _, c := range []struct {
		uids []int
		want complex128
	}{
		{nil, 0},
		{[]int{1}, 1},
		{[]int{5}, 5},
		{[]int{1, 2}, 1 + 2i},
		{[]int{1, 2, 4}, -3 + 2i},
		{[]int{1, 2, 4, 8}, -3 - 6i},
		{[]int{1, 2, 4, 8, 16}, 13 - 6i},
		{[]int{1, 2, 3, 4, 5, 6}, 3 + 4i},
		{[]int{1, 2, 4, 8, 16, 32, 64, 128}, -51 - 102i},
		{[]int{api.MaxUID - 1}, api.MaxUID - 1},
		{[]int{2, 3, 7, 8, 19}, 14 - 5i},
	} {
		b := boxOf(api.MaxUID)
		for _, uid := range c.uids {
			b.L = append(b.L, message(uid, uid%32, uid, "body"))
		}
		if got := box.Stamp(b); got != c.want || got != plainStamp(b) {
			t.Errorf("Stamp of %v is %v, want %v", c.uids, got, c.want)
		}
	}
	for n := range api.MaxMsgs + 1 {
		b := rowOf(n)
		setAll(&b, func(m *api.Message) { m.UID = m.UID*m.UID*1000 + 7 })
		if got := box.Stamp(b); got != plainStamp(b) {
			t.Errorf("Stamp of %v is %v, want %v", uidsOf(b), got, plainStamp(b))
		}
	}
	for what, b := range good() {
		if got := box.Stamp(b); got != plainStamp(b) {
			t.Errorf("Stamp of %s is %v, want %v", what, got, plainStamp(b))
		}
	}
}

// It hangs on the UIDs and on their order alone.
func TestStampOfUIDsAlone(t *testing.T) {
	b := some()
	want := box.Stamp(b)
	b.Name, b.Validity, b.Next = "other", 1000, 1<<19
	setAll(&b, func(m *api.Message) { m.Flags, m.Date, m.Body = 3, 77, nil })
	if got := box.Stamp(b); got != want {
		t.Errorf("Stamp is %v, want %v", got, want)
	}
	for _, turned := range [][]api.Message{b.L[1:], {b.L[1], b.L[0]}, {b.L[0]}, {b.L[0], b.L[0]}} {
		b.L = turned
		if got := box.Stamp(b); got != plainStamp(b) || got == want {
			t.Errorf("Stamp of %v is %v, want %v", uidsOf(b), got, plainStamp(b))
		}
	}
}

// P13.2: Encode and Decode

// plainBytes are those of a box, laid without the package; numbers below 0 as 0.
func plainBytes(b api.Box) []byte {
	var p []byte
	number := func(l ...int) {
		for _, n := range l {
			p = binary.AppendUvarint(p, uint64(max(n, 0)))
		}
	}
	number(len(b.Name))
	p = append(p, b.Name...)
	number(b.Validity, b.Next, len(b.L))
	for _, m := range b.L {
		number(m.UID, m.Flags, m.Date, len(m.Body))
		p = append(p, m.Body...)
	}
	return p
}

// plainIs tells whether a box may be, worked out without the package.
func plainIs(b api.Box) bool {
	ok := len(b.Name) >= 1 && len(b.Name) <= 12 && strings.Trim(b.Name, "abcdefghijklmnopqrstuvwxyz0123456789") == ""
	ok = ok && b.Validity >= 1 && b.Validity <= 1<<20 && b.Next >= 1 && b.Next <= 1<<20 && len(b.L) <= 24
	for place, m := range b.L {
		ok = ok && m.UID >= 1 && m.UID < b.Next && (place == 0 || m.UID > b.L[place-1].UID)
		ok = ok && m.Flags >= 0 && m.Flags <= 31 && m.Date >= 0 && m.Date <= 1<<30 && len(m.Body) <= 1200
	}
	return ok
}

// plainBox is the box of bytes, taken without the package; false of none.
func plainBox(p []byte) (api.Box, bool) {
	rest, good := p, true
	number := func() int {
		n, size := binary.Uvarint(rest)
		if size <= 0 || n > 1<<62 {
			good, rest = false, nil
			return 0
		}
		rest = rest[size:]
		return int(n)
	}
	row := func() []byte {
		n := number()
		if n > len(rest) {
			good, rest = false, nil
			return nil
		}
		l := rest[:n]
		rest = rest[n:]
		return slices.Clone(l)
	}
	b := api.Box{Name: string(row()), Validity: number(), Next: number()}
	for n := number(); good && len(b.L) < n; {
		b.L = append(b.L, api.Message{UID: number(), Flags: number(), Date: number(), Body: row()})
	}
	return b, good && len(rest) == 0 && plainIs(b) && bytes.Equal(plainBytes(b), p)
}

// expectBytes wants of bytes that Decode tells what plainBox has.
func expectBytes(t *testing.T, p []byte) {
	t.Helper()
	want, is := plainBox(p)
	if !is {
		expectNoBox(t, "", p)
		return
	}
	got, e := box.Decode(p)
	if e != api.OK || textOf(got) != textOf(want) {
		t.Errorf("Decode of % x is %s, error %d; want %s", p, textOf(got), e, textOf(want))
	}
	back, e := box.Encode(got)
	if e != api.OK || !bytes.Equal(back, p) {
		t.Errorf("Encode of what Decode tells of % x is % x, error %d", p, back, e)
	}
}

// expectNoBox wants an error, and nothing beside it.
func expectNoBox(t *testing.T, what string, p []byte) {
	t.Helper()
	b, e := box.Decode(p)
	if e != api.ErrForm || b.Name != "" || b.Validity != 0 || b.Next != 0 || len(b.L) != 0 {
		t.Errorf("Decode of %s % .100x is %.200s, error %d", what, p, textOf(b), e)
	}
}

func TestEncode(t *testing.T) {
	for _, c := range []struct {
		b    api.Box
		want string
	}{
		{box.New("a", 1), "\x01a\x01\x01\x00"},
		{box.New("inbox", api.MaxUID), "\x05inbox\x80\x80\x40\x01\x00"},
		{api.Box{Name: "abcdefghi019", Validity: 128, Next: 300}, "\x0cabcdefghi019\x80\x01\xac\x02\x00"},
		{boxOf(3, message(1, 0, 0, "\x00\xff"), message(2, 31, 127, "")), "\x01x\x07\x03\x02\x01\x00\x00\x02\x00\xff\x02\x1f\x7f\x00"},
		{boxOf(api.MaxUID, message(api.MaxUID-1, 9, api.MaxDate, "abc")), "\x01x\x07\x80\x80\x40\x01\xff\xff\x3f\x09\x80\x80\x80\x80\x04\x03abc"},
	} {
		p, e := box.Encode(c.b)
		if e != api.OK || string(p) != c.want {
			t.Errorf("Encode of %s is % x, error %d; want % x", textOf(c.b), p, e, c.want)
		}
		expectBytes(t, []byte(c.want))
	}
	for what, b := range good() {
		p, e := box.Encode(b)
		if e != api.OK || !bytes.Equal(p, plainBytes(b)) {
			t.Errorf("Encode of %s is % .100x, error %d; want % .100x", what, p, e, plainBytes(b))
		}
	}
}

func TestEncodeOfNone(t *testing.T) {
	for what, b := range none() {
		if p, e := box.Encode(b); e != api.ErrArg || len(p) != 0 {
			t.Errorf("Encode of one with %s is % .100x, error %d", what, p, e)
		}
		if plainIs(b) {
			t.Errorf("the test's own: one with %s may be", what)
		}
	}
}

// Bytes that are laid as Encode lays them, but of a box that may not be, are none.
func TestDecodeOfNone(t *testing.T) {
	for what, b := range none() {
		p := plainBytes(b)
		if _, is := plainBox(p); !is { // numbers below 0 are laid as 0, which may be
			expectNoBox(t, "one with "+what, p)
		}
	}
}

func TestDecode(t *testing.T) {
	for what, b := range good() {
		p := plainBytes(b)
		got, e := box.Decode(p)
		if e != api.OK {
			t.Errorf("Decode of %s errs with %d", what, e)
		}
		expectBox(t, "Decode of "+what, got, b)
		expectBytes(t, p)
	}
	expectNoBox(t, "no bytes", nil)
	expectNoBox(t, "no bytes", []byte{})
	expectNoBox(t, "no bytes", make([]byte, 0, 9))
}

func TestCutShort(t *testing.T) {
	for what, b := range good() {
		p := plainBytes(b)
		for n := range p {
			expectNoBox(t, what+" cut short:", p[:n])
			if n < 9 || n > len(p)-9 {
				expectNoBox(t, what+" without its beginning:", p[n+1:])
			}
		}
		for x := range 256 {
			expectNoBox(t, what+" with a byte more:", append(slices.Clone(p), byte(x)))
			expectBytes(t, append([]byte{byte(x)}, p...))
		}
		expectNoBox(t, what+" with that again:", append(slices.Clone(p), p...))
		expectNoBox(t, what+" with bytes more:", append(slices.Clone(p), 1, 0, 0, 0))
	}
}

// short are boxes with few bytes.
func short() []api.Box {
	return []api.Box{
		box.New("a", 1),
		{Name: "az09", Validity: 300, Next: 20000},
		boxOf(3, message(1, 0, 0, "ab"), message(2, 1, 1, "")),
		boxOf(400, message(2, 31, api.MaxDate, "\x00\x01\x02"), message(127, 0, 128, "x"), message(128, 9, 127, ""), message(399, 16, 0, "yz")),
		boxOf(api.MaxUID, message(api.MaxUID-2, 0, 0, ""), message(api.MaxUID-1, 0, 0, "")),
		boxOf(25, slices.Repeat([]api.Message{message(1, 0, 0, "")}, 3)...),
	}
}

// Each byte in place of another, one more, one less, two that are other ones.
func TestEachByteAtEachPlace(t *testing.T) {
	for _, b := range short() {
		p := plainBytes(b)
		for place := range len(p) + 1 {
			for x := range 256 {
				expectBytes(t, slices.Insert(slices.Clone(p), place, byte(x)))
				if place == len(p) {
					continue
				}
				q := slices.Clone(p)
				q[place] = byte(x)
				expectBytes(t, q)
				for other := place + 1; other < len(p); other++ {
					q[other] ^= byte(x)
					expectBytes(t, q)
					q[other] = p[other]
				}
			}
			for behind := place; behind <= len(p); behind++ {
				expectBytes(t, slices.Delete(slices.Clone(p), place, behind))
			}
		}
	}
}

// TestShortBytes goes through all rows of so few bytes of these behind one that begins well.
func TestShortBytes(t *testing.T) {
	for _, begin := range []string{"", "\x01a", "\x01a\x01\x05\x01", "\x01a\x01\x05\x02\x02\x00\x00\x00"} {
		kinds := []byte{0, 1, 2, 3, 4, 5, 31, 32, 'a', 0x7f, 0x80, 0x81, 0xff}
		var longer func(p []byte, more int)
		longer = func(p []byte, more int) {
			expectBytes(t, p)
			if more == 0 {
				return
			}
			for _, x := range kinds {
				longer(append(p[:len(p):len(p)], x), more-1)
			}
		}
		longer([]byte(begin), 4)
	}
}

// numbersAt are the places of the numbers in a box's bytes.
func numbersAt(b api.Box) []int {
	at := []int{0}
	place := len(plainBytes(api.Box{Name: b.Name})) - 3
	step := func(n int) {
		at = append(at, place)
		place += len(binary.AppendUvarint(nil, uint64(n)))
	}
	step(b.Validity)
	step(b.Next)
	step(len(b.L))
	for _, m := range b.L {
		step(m.UID)
		step(m.Flags)
		step(m.Date)
		step(len(m.Body))
		place += len(m.Body)
	}
	return at
}

// A number with more bytes than it needs, or another one in its place, anywhere.
func TestOtherNumbers(t *testing.T) {
	for _, b := range short() {
		p := plainBytes(b)
		for _, at := range numbersAt(b) {
			n, size := binary.Uvarint(p[at:])
			for noughts := 1; noughts <= 10; noughts++ {
				long := binary.AppendUvarint(nil, n)
				long[len(long)-1] |= 0x80
				long = append(long, slices.Repeat([]byte{0x80}, noughts-1)...)
				long = append(long, 0)
				expectNoBox(t, "a number that is longer than it needs,", slices.Replace(slices.Clone(p), at, at+size, long...))
			}
			for _, other := range []uint64{0, 1, 2, n - 1, n + 1, 24, 25, 31, 32, 127, 128, 1200, 1201, 1 << 20, 1<<20 + 1, 1 << 30, 1<<30 + 1, 1 << 31, 1 << 32, 1<<32 + n, 1 << 62, 1<<62 + 1, 1 << 63, 1<<63 + n, math.MaxUint64} {
				expectBytes(t, slices.Replace(slices.Clone(p), at, at+size, binary.AppendUvarint(nil, other)...))
			}
			for _, bad := range [][]byte{slices.Repeat([]byte{0x80}, 9), slices.Repeat([]byte{0x80}, 10), slices.Repeat([]byte{0xff}, 9), slices.Repeat([]byte{0xff}, 30), {}} {
				expectBytes(t, slices.Replace(slices.Clone(p), at, at+size, bad...))
			}
		}
	}
}

// A count that is beyond all messages is refused ahead of them.
func TestGreatCounts(t *testing.T) {
	for _, count := range []uint64{25, 26, 1 << 20, 1 << 32, 1 << 40, 1 << 61, 1 << 62} {
		p := binary.AppendUvarint([]byte("\x01a\x01\x40"), count)
		expectNoBox(t, "no message of many", p)
		for _, n := range []int{1, 24 * 4, 25 * 4, 26 * 4, 1 << 22} {
			expectNoBox(t, "noughts of many", append(slices.Clone(p), make([]byte, n)...))
		}
		for _, n := range []int{24, 25, 26} {
			q := slices.Clone(p)
			for uid := 1; uid <= n; uid++ {
				q = append(q, byte(uid), 0, 0, 0)
			}
			expectNoBox(t, "messages of more than there may be", q)
		}
	}
	var all []byte
	for count := range 30 {
		p := append(binary.AppendUvarint([]byte("\x01a\x01\x40"), uint64(count)), all...)
		expectBytes(t, p)
		if _, e := box.Decode(p); (e == api.OK) != (count <= 24) {
			t.Errorf("Decode of %d messages errs with %d", count, e)
		}
		all = append(all, byte(count+1), 0, 0, 0)
	}
}

func TestVeryManyBytes(t *testing.T) {
	for _, x := range []byte{0, 1, 'a', 0x7f, 0x80, 0xff} {
		for _, begin := range []string{"", "\x01a", "\x01a\x01", "\x01a\x01\x09", "\x01a\x01\x09\x01", "\x80\x80\x80\x01", "\x01a\x01\x09\x01\x01\x00\x00\x80\x80\x80\x01"} {
			expectNoBox(t, "many of one byte", append([]byte(begin), bytes.Repeat([]byte{x}, 1<<21)...))
		}
	}
}

// P13.2: Same

// expectSame wants it either way round.
func expectSame(t *testing.T, what string, a, b api.Box, want bool) {
	t.Helper()
	if box.Same(a, b) != want || box.Same(b, a) != want {
		t.Errorf("Same of %s is not %t both ways", what, want)
	}
}

func TestSame(t *testing.T) {
	for what, b := range good() {
		for other, c := range good() {
			expectSame(t, what+" and "+other, b, c, textOf(b) == textOf(c))
		}
	}
	for what, b := range none() {
		expectSame(t, "some and one with "+what, some(), b, false)
		expectSame(t, "one with "+what+" and itself", b, b, true)
	}
	for what, change := range map[string]func(b *api.Box){
		"Name":                  func(b *api.Box) { b.Name = "y" },
		"a Name that is longer": func(b *api.Box) { b.Name = "xx" },
		"no Name":               func(b *api.Box) { b.Name = "" },
		"Validity":              func(b *api.Box) { b.Validity++ },
		"Next":                  func(b *api.Box) { b.Next++ },
		"one message less":      func(b *api.Box) { b.L = b.L[:4] },
		"the first one less":    func(b *api.Box) { b.L = b.L[1:] },
		"no message":            func(b *api.Box) { b.L = nil },
		"one message more":      func(b *api.Box) { b.L = append(b.L, message(0, 0, 0, "")) },
		"that message again":    func(b *api.Box) { b.L = append(b.L, b.L[4]) },
		"another order":         func(b *api.Box) { b.L[0], b.L[3] = b.L[3], b.L[0] },
		"bodies changed about":  func(b *api.Box) { b.L[0].Body, b.L[2].Body = b.L[2].Body, b.L[0].Body },
	} {
		expectSame(t, "some and one of another "+what, some(), changed(change), false)
	}
	for place := range some().L {
		for what, change := range map[string]func(m *api.Message){
			"UID":                    func(m *api.Message) { m.UID++ },
			"UID, wide":              func(m *api.Message) { m.UID += 1 << 32 },
			"Flags":                  func(m *api.Message) { m.Flags ^= 1 },
			"Date":                   func(m *api.Message) { m.Date++ },
			"Date, wide":             func(m *api.Message) { m.Date += 1 << 32 },
			"a byte more":            func(m *api.Message) { m.Body = append(m.Body, 0) },
			"a Body that is another": func(m *api.Message) { m.Body = []byte("other") },
		} {
			expectSame(t, fmt.Sprint("some and one of another ", what, " at ", place), some(), changed(func(b *api.Box) { change(&b.L[place]) }), false)
		}
		for at := range some().L[place].Body {
			expectSame(t, fmt.Sprint("some and one of another byte ", at, " at ", place), some(), changed(func(b *api.Box) { b.L[place].Body[at] ^= 0x20 }), false)
		}
	}
}

func TestSameOfNilAndEmpty(t *testing.T) {
	bodies := [][]byte{nil, {}, make([]byte, 0, 9), []byte("abc")[:0]}
	for _, one := range bodies {
		for _, other := range bodies {
			expectSame(t, "empty bodies", boxOf(2, api.Message{UID: 1, Body: one}), boxOf(2, api.Message{UID: 1, Body: other}), true)
		}
		expectSame(t, "an empty body and one", boxOf(2, api.Message{UID: 1, Body: one}), boxOf(2, message(1, 0, 0, "\x00")), false)
	}
	lists := [][]api.Message{nil, {}, make([]api.Message, 0, 9), some().L[:0]}
	for _, one := range lists {
		for _, other := range lists {
			expectSame(t, "empty lists", boxOf(1, one...), boxOf(1, other...), true)
			expectSame(t, "empty lists of other boxes", boxOf(1, one...), boxOf(2, other...), false)
		}
		expectSame(t, "an empty list and one", boxOf(1, one...), boxOf(1, api.Message{}), false)
	}
}

package frame_test

import (
	"bytes"
	"encoding/binary"
	"hash/crc32"
	"math"
	"testing"

	"letterbox/api"
	"letterbox/frame"
)

// lengthOf is how a record begins that tells n bytes.
func lengthOf(n uint32) []byte {
	b := binary.LittleEndian.AppendUint32(nil, n)
	return binary.LittleEndian.AppendUint32(b, crc32.ChecksumIEEE(b))
}

// recordOf is the record of p, worked out without the package.
func recordOf(p []byte) []byte {
	b := append(lengthOf(uint32(len(p))), p...)
	return binary.LittleEndian.AppendUint32(b, crc32.ChecksumIEEE(b))
}

func joined(p ...[]byte) []byte { return bytes.Join(p, nil) }

// soil overwrites a list and the spare room behind its end.
func soil(p []byte) {
	p = p[:cap(p)]
	for i := range p {
		p[i] ^= 0xff
	}
}

// roomy is p with spare room behind it, and all of both.
func roomy(p []byte) (list, all []byte) {
	all = joined(p, []byte("spare"))
	return all[:len(p)], all
}

// bodies are rows of bytes of many lengths and kinds.
func bodies() [][]byte {
	l := [][]byte{nil, {}, {0}, {0xff}, []byte("abc"), make([]byte, 12), bytes.Repeat([]byte{0xff}, 12), recordOf([]byte("within"))}
	for n := range 40 {
		l = append(l, bytes.Repeat([]byte{byte(7 * n)}, n))
	}
	for _, n := range []int{255, 256, 257, 65535, 65536, 65537} {
		l = append(l, bytes.Repeat([]byte("xyz"), n)[:n])
	}
	return l
}

// expectEncoded holds what Encode answers of the rows against their record.
func expectEncoded(t *testing.T, what string, rows ...[]byte) {
	t.Helper()
	b, e := frame.Encode(rows...)
	if want := recordOf(joined(rows...)); e != api.OK || !bytes.Equal(b, want) {
		t.Errorf("%s: % x, error %d; want % x", what, b, e, want)
	}
}

// expectDecoded asks Decode for a body and a size.
func expectDecoded(t *testing.T, what string, b, p []byte, size int) {
	t.Helper()
	got, n, e := frame.Decode(b)
	if e != api.OK || n != size || !bytes.Equal(got, p) {
		t.Errorf("%s: % x, %d bytes, error %d; want % x, %d bytes", what, got, n, e, p, size)
	}
}

// expectRefused asks Decode and One for an error, with nothing beside it.
func expectRefused(t *testing.T, what string, b []byte, want api.Errno) {
	t.Helper()
	if p, n, e := frame.Decode(b); e != want || n != 0 || len(p) != 0 {
		t.Errorf("Decode, %s: % x, %d bytes, error %d; want error %d", what, p, n, e, want)
	}
	if p, e := frame.One(b); e != want || len(p) != 0 {
		t.Errorf("One, %s: % x, error %d; want error %d", what, p, e, want)
	}
	if l, n := frame.Scan(b); len(l) != 0 || n != 0 {
		t.Errorf("Scan, %s: %d records of %d bytes", what, len(l), n)
	}
}

// expectScanned asks Scan for bodies, of so many bytes.
func expectScanned(t *testing.T, what string, b []byte, want [][]byte, size int) {
	t.Helper()
	l, n := frame.Scan(b)
	if len(l) != len(want) || n != size {
		t.Errorf("%s: %d records of %d bytes, want %d of %d", what, len(l), n, len(want), size)
		return
	}
	for i, p := range want {
		if !bytes.Equal(l[i], p) {
			t.Errorf("%s: record %d: % x, want % x", what, i, l[i], p)
		}
	}
}

// P2.1: Encode

func TestEncode(t *testing.T) {
	b, e := frame.Encode()
	if want := []byte{0, 0, 0, 0, 0x1c, 0xdf, 0x44, 0x21, 0x1c, 0xdf, 0x44, 0x21}; e != api.OK || !bytes.Equal(b, want) {
		t.Errorf("no row: % x, error %d; want % x", b, e, want)
	}
	expectEncoded(t, "no row")
	expectEncoded(t, "a nil list of rows", [][]byte(nil)...)
	expectEncoded(t, "a nil row", nil)
	expectEncoded(t, "an empty row", []byte{})
	expectEncoded(t, "nil rows", nil, []byte{}, nil)
	expectEncoded(t, "nil rows between", nil, []byte("ab"), nil, []byte{}, []byte("c"), nil)
	expectEncoded(t, "very many rows", make([][]byte, 1<<17)...)
	for _, p := range bodies() {
		expectEncoded(t, "one row", p)
		expectEncoded(t, "the same row twice", p, p)
		for _, at := range []int{0, len(p) / 3, len(p) / 2, len(p)} {
			expectEncoded(t, "rows", p[:at], p[at:])
			expectEncoded(t, "rows", p[at:], nil, p[:at], []byte{1})
		}
	}
}

func TestEncodeLong(t *testing.T) {
	full := bytes.Repeat([]byte("full"), api.MaxFrame/4)
	half := full[:api.MaxFrame/2]
	fits := [][][]byte{
		{full},
		{nil, full, {}},
		{half, half},
		{full[1:], {1}},
		{full[:api.MaxFrame-1], nil},
	}
	for _, rows := range fits {
		expectEncoded(t, "rows that fit", rows...)
	}
	long := [][][]byte{
		{joined(full, []byte{1})},
		{full, {1}},
		{{1}, full},
		{half, {1}, half},
		{full, {1}, nil},
		{full, full},
		{joined(full, full), nil, {1}},
	}
	many := make([][]byte, 1<<16)
	for i := range many {
		many[i] = full
	}
	long = append(long, many)
	for i, rows := range long {
		if b, e := frame.Encode(rows...); e != api.ErrLong || len(b) != 0 {
			t.Errorf("rows that are too long (%d): %d bytes, error %d", i, len(b), e)
		}
	}
}

// P2.1: Decode and One

func TestDecode(t *testing.T) {
	full := bytes.Repeat([]byte("full"), api.MaxFrame/4)
	for _, p := range append(bodies(), full, full[1:]) {
		b := recordOf(p)
		expectDecoded(t, "a record", b, p, len(p)+12)
		if got, e := frame.One(b); e != api.OK || !bytes.Equal(got, p) {
			t.Errorf("One: %d bytes, error %d; want %d bytes", len(got), e, len(p))
		}
	}
}

func TestFewerThanEightBytes(t *testing.T) {
	for n := range 8 {
		expectRefused(t, "zeros", make([]byte, n), api.ErrShort)
		expectRefused(t, "others", bytes.Repeat([]byte{0xff}, n), api.ErrShort)
		expectRefused(t, "a good beginning", recordOf(nil)[:n], api.ErrShort)
		expectRefused(t, "a beginning that tells too much", lengthOf(api.MaxFrame + 1)[:n], api.ErrShort)
	}
	expectRefused(t, "nil", nil, api.ErrShort)
}

func TestFirstSum(t *testing.T) {
	expectRefused(t, "eight zeros", make([]byte, 8), api.ErrSum)
	expectRefused(t, "zeros", make([]byte, 100), api.ErrSum)
	for i := range 8 {
		bad := lengthOf(3)
		bad[i] ^= 0x10
		expectRefused(t, "only the beginning", bad, api.ErrSum)
		expectRefused(t, "not all there", joined(bad, []byte("abc")), api.ErrSum)
		expectRefused(t, "a last Sum that is right", binary.LittleEndian.AppendUint32(joined(bad, []byte("abc")), crc32.ChecksumIEEE(joined(bad, []byte("abc")))), api.ErrSum)
	}
	for _, n := range []uint32{api.MaxFrame + 1, math.MaxInt32, math.MaxUint32} {
		bad := lengthOf(n)
		bad[4] ^= 1
		expectRefused(t, "one that tells too much", bad, api.ErrSum)
		expectRefused(t, "one that tells too much, and more", joined(bad, make([]byte, 100)), api.ErrSum)
	}
	turned := lengthOf(3)
	turned[4], turned[7] = turned[7], turned[4]
	expectRefused(t, "the highest byte first", joined(turned, []byte("abc1234")), api.ErrSum)
}

func TestLongerThanMaxFrame(t *testing.T) {
	for _, n := range []uint32{api.MaxFrame + 1, api.MaxFrame + 2, 1 << 24, math.MaxInt32, math.MaxInt32 + 1, math.MaxUint32 - 11, math.MaxUint32} {
		expectRefused(t, "only the beginning", lengthOf(n), api.ErrLong)
		expectRefused(t, "not all there", joined(lengthOf(n), make([]byte, 20)), api.ErrLong)
	}
	long := make([]byte, api.MaxFrame+1)
	expectRefused(t, "all there", recordOf(long), api.ErrLong)
	expectRefused(t, "all there, a last Sum that is not right", joined(lengthOf(uint32(len(long))), long, make([]byte, 4)), api.ErrLong)
	expectRefused(t, "as long as may be, not there", lengthOf(api.MaxFrame), api.ErrShort)
}

func TestCutShort(t *testing.T) {
	for _, p := range bodies() {
		b := recordOf(p)
		step := 1 + len(b)/200
		for n := 0; n < len(b); n += step {
			expectRefused(t, "cut short", b[:n], api.ErrShort)
		}
		expectRefused(t, "the last byte is not there", b[:len(b)-1], api.ErrShort)
	}
	full := recordOf(make([]byte, api.MaxFrame))
	expectRefused(t, "a full one, the last byte is not there", full[:len(full)-1], api.ErrShort)
	wrong := recordOf([]byte("abcdef"))
	wrong[10] ^= 1
	expectRefused(t, "cut short, and another byte", wrong[:len(wrong)-1], api.ErrShort)
	expectRefused(t, "what is behind does not count", joined(lengthOf(9), recordOf(nil)), api.ErrShort)
}

func TestLastSum(t *testing.T) {
	for _, p := range bodies() {
		wrong := recordOf(p)
		wrong[len(wrong)-1] ^= 0x80
		expectRefused(t, "another last byte", wrong, api.ErrSum)
		expectRefused(t, "another last byte, and more", joined(wrong, []byte{1}), api.ErrSum)
		alone := binary.LittleEndian.AppendUint32(joined(lengthOf(uint32(len(p))), p), crc32.ChecksumIEEE(p))
		expectRefused(t, "a Sum of the body alone", alone, api.ErrSum)
	}
	expectRefused(t, "no Sum", joined(lengthOf(2), []byte("ab"), make([]byte, 4)), api.ErrSum)
}

func TestOneAndNoMore(t *testing.T) {
	b := recordOf([]byte("abc"))
	for _, behind := range [][]byte{{0}, {1}, {1, 2, 3}, make([]byte, 12), b, recordOf(nil), lengthOf(api.MaxFrame + 1), bytes.Repeat([]byte("x"), 5000)} {
		if p, e := frame.One(joined(b, behind)); e != api.ErrForm || len(p) != 0 {
			t.Errorf("One, %d bytes behind: % x, error %d", len(behind), p, e)
		}
		expectDecoded(t, "something behind", joined(b, behind), []byte("abc"), len(b))
	}
	if p, e := frame.One(joined(recordOf(nil), []byte{0})); e != api.ErrForm || len(p) != 0 {
		t.Errorf("One, a byte behind nothing: % x, error %d", p, e)
	}
}

// P2.2

func TestScan(t *testing.T) {
	expectScanned(t, "nil", nil, nil, 0)
	expectScanned(t, "no byte", []byte{}, nil, 0)
	expectScanned(t, "a record of nothing", recordOf(nil), [][]byte{nil}, 12)
	var all []byte
	l := bodies()
	for i, p := range l {
		all = joined(all, recordOf(p))
		expectScanned(t, "records", all, l[:i+1], len(all))
	}
	full := make([]byte, api.MaxFrame)
	expectScanned(t, "full ones", joined(recordOf(full), recordOf(full), recordOf(nil)), [][]byte{full, full, nil}, 2*api.MaxFrame+36)
	many := make([][]byte, 20000)
	expectScanned(t, "many", bytes.Repeat(recordOf(nil), len(many)), many, 12*len(many))
}

func TestScanEndsAtTheFirstThatErrs(t *testing.T) {
	a, b, c := recordOf([]byte("a")), recordOf([]byte("bcd")), recordOf(nil)
	two := joined(a, b)
	want := [][]byte{[]byte("a"), []byte("bcd")}
	wrong := bytes.Clone(c)
	wrong[11] ^= 1
	for _, behind := range [][]byte{{0}, {1, 2, 3}, make([]byte, 8), make([]byte, 12), bytes.Repeat([]byte{0xff}, 50), wrong, lengthOf(api.MaxFrame + 1), recordOf(make([]byte, api.MaxFrame+1)), lengthOf(5), lengthOf(0), recordOf([]byte("xyz"))[:14]} {
		expectScanned(t, "what errs", joined(two, behind), want, len(two))
		expectScanned(t, "what errs, and a good one", joined(two, behind, c), want, len(two))
		expectScanned(t, "what errs first", joined(behind, two), nil, 0)
	}
	all := joined(two, c)
	for n := range all {
		k, size := 0, 0
		if n >= len(a) {
			k, size = 1, len(a)
		}
		if n >= len(two) {
			k, size = 2, len(two)
		}
		expectScanned(t, "cut short", all[:n], want[:k], size)
		changed := bytes.Clone(all)
		changed[n] ^= 0x20
		expectScanned(t, "another byte", changed, want[:k], size)
	}
}

// P2.3

func TestDecodeOfEncode(t *testing.T) {
	for _, p := range bodies() {
		b, _ := frame.Encode(p[:len(p)/2], nil, p[len(p)/2:])
		for _, behind := range [][]byte{nil, {0}, {0xff, 0xff}, b, make([]byte, 100)} {
			expectDecoded(t, "what was encoded", joined(b, behind), p, len(b))
		}
		if got, e := frame.One(b); e != api.OK || !bytes.Equal(got, p) {
			t.Errorf("One of what was encoded: %d bytes, error %d", len(got), e)
		}
	}
}

func TestAnotherByte(t *testing.T) {
	for _, p := range [][]byte{nil, {0}, []byte("abc"), bytes.Repeat([]byte{0xff}, 20)} {
		b := recordOf(p)
		for i := range b {
			for x := 1; x < 256; x++ {
				changed := bytes.Clone(b)
				changed[i] ^= byte(x)
				expectRefused(t, "another byte", changed, api.ErrSum)
			}
		}
	}
}

func TestEncodeLeavesWhatIsHandedIn(t *testing.T) {
	a, allA := roomy([]byte("abc"))
	b, allB := roomy([]byte("de"))
	rows := [][]byte{a, b, allA[4:], nil}
	first, _ := frame.Encode(rows[:2]...)
	second, _ := frame.Encode(rows[:2]...)
	if string(allA) != "abcspare" || string(allB) != "despare" || &rows[2][0] != &allA[4] || rows[3] != nil || len(rows[0]) != 3 || len(rows[1]) != 2 {
		t.Error("Encode changed what was handed in")
	}
	soil(first)
	soil(allB)
	if string(allA) != "abcspare" || !bytes.Equal(second, recordOf([]byte("abcde"))) {
		t.Error("what Encode answers is not new memory")
	}
	alone, _ := frame.Encode(a)
	soil(alone)
	if string(allA) != "abcspare" {
		t.Error("the record of one row shares with it")
	}
}

func TestDecodeLeavesWhatIsHandedIn(t *testing.T) {
	want := joined(recordOf([]byte("abc")), recordOf(nil), recordOf([]byte("defg")))
	b, all := roomy(want)
	p, _, _ := frame.Decode(b)
	again, _, _ := frame.Decode(b)
	one, allOne := roomy(recordOf([]byte("abc")))
	q, _ := frame.One(one)
	l, _ := frame.Scan(b)
	other, _ := frame.Scan(b)
	soil(p)
	soil(q)
	for i := range l {
		soil(l[i])
		_ = append(l[i], "xyzxyzxyz"...)
	}
	if !bytes.Equal(all, joined(want, []byte("spare"))) || !bytes.Equal(allOne, joined(recordOf([]byte("abc")), []byte("spare"))) {
		t.Error("what was handed in has changed")
	}
	soil(all)
	if string(again) != "abc" || string(other[0]) != "abc" || len(other[1]) != 0 || string(other[2]) != "defg" {
		t.Error("an answer has changed")
	}
}

func TestListsOfScanShareNothing(t *testing.T) {
	want := []string{"", "abc", "de", "", "fghijklm", "n"}
	var b []byte
	for _, p := range want {
		b = joined(b, recordOf([]byte(p)))
	}
	for i := range want {
		l, _ := frame.Scan(b)
		soil(l[i])
		_ = append(l[i], "0123456789"...)
		for k := range l {
			if k != i && string(l[k]) != want[k] {
				t.Errorf("record %d changed with record %d", k, i)
			}
		}
	}
}

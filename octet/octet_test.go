package octet_test

import (
	"bytes"
	"encoding/binary"
	"hash/crc32"
	"math"
	"testing"

	"letterbox/octet"
)

const greatest = 1 << 62

// numbers are those of 0 to 2^62 at which something changes, and some between.
func numbers() []int {
	l := []int{0, 1, 2, 61, 126, 127, 128, 129, 255, 256, 300, 16383, 16384, math.MaxInt32, math.MaxUint32, greatest - 1, greatest}
	for i := range 62 {
		l = append(l, 1<<i-1, 1<<i, 1<<i+1)
	}
	return l
}

// soil overwrites a list and the spare room behind its end.
func soil(p []byte) {
	p = p[:cap(p)]
	for i := range p {
		p[i] ^= 0xff
	}
}

// roomy is p with spare room behind it, and all of both.
func roomy(p string) (list, all []byte) {
	all = append([]byte(p), "spare"...)
	return all[:len(p)], all
}

func laid(lay func(w *octet.Writer)) []byte {
	var w octet.Writer
	lay(&w)
	return w.Out()
}

func expect(t *testing.T, what string, got, want []byte) {
	t.Helper()
	if !bytes.Equal(got, want) {
		t.Errorf("%s: % x, want % x", what, got, want)
	}
}

// expectBad asks a Reader that erred for everything that it has.
func expectBad(t *testing.T, what any, r *octet.Reader) {
	t.Helper()
	for range 2 {
		a, b, c := 1, 2, 3
		r.Nums(&a, nil, &b, &c)
		if r.Good() || r.Whole() || r.Left() != 0 || r.Num() != 0 || a != 0 || b != 0 || c != 0 ||
			len(r.Bytes()) != 0 || len(r.Raw(1)) != 0 || len(r.Raw(0)) != 0 || len(r.Raw(-1)) != 0 {
			t.Errorf("%v: taken behind an error", what)
		}
		r.Bad()
	}
}

// P1.1

func TestWriterNums(t *testing.T) {
	for _, c := range []struct {
		v    int
		want []byte
	}{
		{0, []byte{0}},
		{1, []byte{1}},
		{127, []byte{0x7f}},
		{128, []byte{0x80, 1}},
		{300, []byte{0xac, 2}},
		{16383, []byte{0xff, 0x7f}},
		{16384, []byte{0x80, 0x80, 1}},
		{0x123456, []byte{0xd6, 0xe8, 0x48}},
		{greatest - 1, []byte{0xff, 0xff, 0xff, 0xff, 0xff, 0xff, 0xff, 0xff, 0x3f}},
		{greatest, []byte{0x80, 0x80, 0x80, 0x80, 0x80, 0x80, 0x80, 0x80, 0x40}},
		{greatest + 1, []byte{0x80, 0x80, 0x80, 0x80, 0x80, 0x80, 0x80, 0x80, 0x40}},
		{math.MaxInt, []byte{0x80, 0x80, 0x80, 0x80, 0x80, 0x80, 0x80, 0x80, 0x40}},
		{-1, []byte{0}},
		{-128, []byte{0}},
		{math.MinInt, []byte{0}},
	} {
		got := laid(func(w *octet.Writer) { w.Nums(c.v) })
		expect(t, "a number", got, c.want)
	}
	for _, v := range numbers() {
		got := laid(func(w *octet.Writer) { w.Nums(v) })
		expect(t, "a number", got, binary.AppendUvarint(nil, uint64(v)))
	}
}

func TestWriterLaysBehind(t *testing.T) {
	expect(t, "the example", laid(func(w *octet.Writer) {
		w.Nums(1, 300)
		w.Bytes([]byte{0x61})
	}), []byte{1, 0xac, 2, 1, 0x61})
	expect(t, "rows", laid(func(w *octet.Writer) { w.Bytes([]byte("ab"), nil, []byte{}, []byte{0, 0xff}) }), []byte{2, 'a', 'b', 0, 0, 2, 0, 0xff})
	expect(t, "raw bytes", laid(func(w *octet.Writer) { w.Raw(0, 0x7f, 0x80, 0xff) }), []byte{0, 0x7f, 0x80, 0xff})
	expect(t, "all kinds", laid(func(w *octet.Writer) {
		w.Raw(9)
		w.Bytes([]byte{8})
		w.Nums(-1, 7)
		w.Raw(6, 5)
		w.Nums(128)
	}), []byte{9, 1, 8, 0, 7, 6, 5, 0x80, 1})
	for _, n := range []int{126, 127, 128, 129, 16383, 16384, 70000} {
		row := bytes.Repeat([]byte("x"), n)
		got := laid(func(w *octet.Writer) { w.Bytes(row) })
		expect(t, "a long row", got, append(binary.AppendUvarint(nil, uint64(n)), row...))
	}
}

func TestWriterLaysNothing(t *testing.T) {
	expect(t, "the zero value", laid(func(w *octet.Writer) {}), nil)
	expect(t, "no arguments", laid(func(w *octet.Writer) {
		w.Nums()
		w.Bytes()
		w.Raw()
	}), nil)
	expect(t, "nil lists", laid(func(w *octet.Writer) {
		w.Nums([]int(nil)...)
		w.Bytes([][]byte(nil)...)
		w.Raw([]byte(nil)...)
	}), nil)
}

func TestOutIsNewEachTime(t *testing.T) {
	var w octet.Writer
	w.Raw(1, 2, 3)
	first := w.Out()
	soil(first)
	expect(t, "behind a change of what was answered", w.Out(), []byte{1, 2, 3})
	second := w.Out()
	third := w.Out()
	_ = append(second, 9)
	soil(second)
	w.Nums(4)
	w.Bytes([]byte{5})
	expect(t, "what was answered, behind more", third, []byte{1, 2, 3})
	expect(t, "all", w.Out(), []byte{1, 2, 3, 4, 1, 5})
}

// P1.2

func TestReaderTakes(t *testing.T) {
	r := octet.NewReader([]byte{1, 0xac, 2, 2, 'a', 'b', 7, 8, 9, 0, 5})
	if r.Left() != 11 || !r.Good() || r.Whole() {
		t.Error("at the beginning", r.Left())
	}
	if v := r.Num(); v != 1 || r.Left() != 10 {
		t.Error(v, r.Left())
	}
	if v := r.Num(); v != 300 || r.Left() != 8 {
		t.Error(v, r.Left())
	}
	expect(t, "a row", r.Bytes(), []byte("ab"))
	expect(t, "no bytes", r.Raw(0), nil)
	if r.Left() != 5 || !r.Good() {
		t.Error("behind a row", r.Left())
	}
	expect(t, "bytes", r.Raw(3), []byte{7, 8, 9})
	expect(t, "an empty row", r.Bytes(), nil)
	if r.Left() != 1 || !r.Good() || r.Whole() {
		t.Error("ahead of the end", r.Left())
	}
	if v := r.Num(); v != 5 || r.Left() != 0 || !r.Good() || !r.Whole() {
		t.Error("at the end", v)
	}
	expect(t, "no bytes at the end", r.Raw(0), nil)
	if !r.Whole() {
		t.Error("no bytes at the end")
	}
	r.Num()
	expectBad(t, "behind the end", r)
}

func TestReaderOfNothing(t *testing.T) {
	for _, p := range [][]byte{nil, {}} {
		r := octet.NewReader(p)
		r.Nums()
		if !r.Good() || !r.Whole() || r.Left() != 0 || len(r.Raw(0)) != 0 || !r.Whole() {
			t.Error("no bytes")
		}
		r.Bytes()
		expectBad(t, "no bytes", r)
	}
}

func TestReaderNums(t *testing.T) {
	a, b, c := -1, -1, -1
	r := octet.NewReader([]byte{1, 2, 3, 4, 5})
	r.Nums(&a, nil, &b)
	if a != 1 || b != 3 || r.Left() != 2 {
		t.Error(a, b, r.Left())
	}
	r.Nums()
	r.Nums([]*int(nil)...)
	if r.Left() != 2 || !r.Good() {
		t.Error("no places", r.Left())
	}
	r.Nums(&c, &c)
	if c != 5 || !r.Whole() {
		t.Error("one place twice", c)
	}

	a, b, c = -1, -1, -1
	r = octet.NewReader([]byte{1, 0x80, 0, 3})
	r.Nums(&a, &b, &c)
	if a != 1 || b != 0 || c != 0 {
		t.Error("an error on the way", a, b, c)
	}
	expectBad(t, "an error on the way", r)

	a = -1
	r = octet.NewReader([]byte{0x80, 0, 3})
	r.Nums(nil, &a)
	if a != 0 {
		t.Error("an error at a place that is nil", a)
	}
	expectBad(t, "an error at a place that is nil", r)
}

func TestReaderRefusesNumbers(t *testing.T) {
	high := func(n int, last ...byte) []byte { return append(bytes.Repeat([]byte{0x80}, n), last...) }
	full := func(n int, last ...byte) []byte { return append(bytes.Repeat([]byte{0xff}, n), last...) }
	refused := [][]byte{
		{0x80, 0},                         // a last byte of several that is 00
		{0x81, 0},                         //
		{0xff, 0x80, 0},                   //
		high(8, 0),                        //
		high(9, 0),                        //
		high(8, 0x41),                     // above 2^62
		full(8, 0x7f),                     //
		full(8, 0x40),                     //
		append(full(1), high(7, 0x40)...), // 2^62 + 127
		high(9, 1),                        // 2^63
		high(9, 2),                        // 2^64
		full(9, 1),                        //
		full(9, 0x7f),                     //
		high(10),                          // ten bytes above 7f
		full(10),                          //
		high(10, 0),                       //
		high(10, 1),                       //
		high(20, 1),                       //
		high(70, 1),                       //
	}
	for i, p := range refused {
		r := octet.NewReader(append(p, 1, 2, 3))
		if v := r.Num(); v != 0 {
			t.Error(i, v)
		}
		expectBad(t, i, r)
		r = octet.NewReader(append(p, 1, 2, 3))
		if b := r.Bytes(); len(b) != 0 {
			t.Error(i, b)
		}
		expectBad(t, i, r)
	}
	for n := range 12 { // bytes that end too early
		for _, p := range [][]byte{high(n), full(n)} {
			r := octet.NewReader(p)
			if v := r.Num(); v != 0 {
				t.Error(n, v)
			}
			expectBad(t, n, r)
		}
	}
}

func TestReaderTakesTheGreatest(t *testing.T) {
	for _, v := range []int{greatest - 1, greatest} {
		r := octet.NewReader(binary.AppendUvarint(nil, uint64(v)))
		if got := r.Num(); got != v || !r.Whole() {
			t.Error(v, got)
		}
	}
}

func TestReaderRefusesRows(t *testing.T) {
	for i, p := range [][]byte{
		{1},
		{3, 'a', 'b'},
		{0x80, 1, 'a'},
		binary.AppendUvarint(nil, greatest),
		append(binary.AppendUvarint(nil, greatest-1), 'a', 'b'),
	} {
		r := octet.NewReader(p)
		if b := r.Bytes(); len(b) != 0 {
			t.Error(i, b)
		}
		expectBad(t, i, r)
	}
	r := octet.NewReader([]byte{2, 'a', 'b'})
	if b := r.Bytes(); string(b) != "ab" || !r.Whole() {
		t.Error("a row to the end", b)
	}
}

func TestReaderRefusesRaw(t *testing.T) {
	for _, n := range []int{-1, math.MinInt, 4, 5, greatest, math.MaxInt} {
		r := octet.NewReader([]byte{1, 2, 3})
		if b := r.Raw(n); len(b) != 0 {
			t.Error(n, b)
		}
		expectBad(t, n, r)
	}
	r := octet.NewReader([]byte{1, 2, 3})
	if b := r.Raw(3); !bytes.Equal(b, []byte{1, 2, 3}) || !r.Whole() {
		t.Error("all bytes", b)
	}
}

func TestBad(t *testing.T) {
	r := octet.NewReader([]byte{1, 2, 3})
	r.Num()
	r.Bad()
	expectBad(t, "Bad", r)
	r = octet.NewReader(nil)
	r.Bad()
	expectBad(t, "Bad of nothing", r)
}

// P1.3

func TestJoin(t *testing.T) {
	expect(t, "nothing", octet.Join(), nil)
	expect(t, "no rows", octet.Join([][]byte(nil)...), nil)
	expect(t, "empty rows", octet.Join(nil, []byte{}, nil), nil)
	expect(t, "one row", octet.Join([]byte("abc")), []byte("abc"))
	expect(t, "rows", octet.Join([]byte("ab"), nil, []byte("c"), []byte("ab")), []byte("abcab"))
}

func TestSum(t *testing.T) {
	if v := octet.Sum([]byte("1234"), []byte("56789")); v != 0xcbf43926 {
		t.Errorf("the example: %x", v)
	}
	for _, v := range []uint32{octet.Sum(), octet.Sum(nil), octet.Sum([]byte{}, nil)} {
		if v != 0 {
			t.Errorf("nothing: %x", v)
		}
	}
	for b := range 256 {
		if v := octet.Sum([]byte{byte(b)}); v != slowSum([]byte{byte(b)}) {
			t.Errorf("byte %x: %x", b, v)
		}
	}
	row := make([]byte, 1000)
	for i := range row {
		row[i] = byte(i*i + i>>3)
	}
	for n := range row {
		v := octet.Sum(row[:n/3], nil, row[n/3:n/2], row[n/2:n])
		if v != crc32.ChecksumIEEE(row[:n]) || v != slowSum(row[:n]) || v != octet.Sum(octet.Join(row[:n/3], row[n/3:n])) {
			t.Errorf("%d bytes: %x", n, v)
		}
	}
}

// slowSum is the sum as the document tells it, digit by digit.
func slowSum(p []byte) uint32 {
	sum := uint32(0xffffffff)
	for _, b := range p {
		sum ^= uint32(b)
		for range 8 {
			low := sum & 1
			sum >>= 1
			if low == 1 {
				sum ^= 0xedb88320
			}
		}
	}
	return ^sum
}

// P1.4

func TestTakenAsLaid(t *testing.T) {
	l := numbers()
	var w octet.Writer
	for i, v := range l {
		w.Nums(v)
		w.Bytes(make([]byte, i), []byte{byte(i)})
		w.Raw(byte(i), 0x80)
	}
	r := octet.NewReader(w.Out())
	for i, v := range l {
		if got := r.Num(); got != v {
			t.Error(v, got)
		}
		expect(t, "a row", r.Bytes(), make([]byte, i))
		expect(t, "a row", r.Bytes(), []byte{byte(i)})
		expect(t, "raw bytes", r.Raw(2), []byte{byte(i), 0x80})
	}
	if !r.Whole() {
		t.Error("something is left", r.Left())
	}
}

// TestOneWayToLay: what a Reader takes as a number is what a Writer lays of it, whatever the bytes.
func TestOneWayToLay(t *testing.T) {
	for i := range 1 << 16 {
		for _, last := range []byte{0, 1, 0x7f, 0x80, 0xff} {
			p := []byte{byte(i), byte(i >> 8), last}
			r := octet.NewReader(p)
			v := r.Num()
			if !r.Good() {
				continue
			}
			n := len(p) - r.Left()
			if got := laid(func(w *octet.Writer) { w.Nums(v) }); !bytes.Equal(got, p[:n]) {
				t.Fatalf("% x is taken as %d, which is laid as % x", p[:n], v, got)
			}
		}
	}
}

func TestSumsOfOneOtherByte(t *testing.T) {
	row := []byte("Some row of bytes, of which one is another one.")
	sum := octet.Sum(row)
	for i := range row {
		was := row[i]
		for d := 1; d < 256; d++ {
			row[i] = was ^ byte(d)
			if octet.Sum(row[:i], row[i:]) == sum {
				t.Errorf("byte %d turned by %x", i, d)
			}
		}
		row[i] = was
	}
}

func TestArgumentsAreNeitherChangedNorKept(t *testing.T) {
	row, all := roomy("ab")
	nums := []int{-1, 5, math.MaxInt, 9}
	var w octet.Writer
	w.Bytes(row)
	w.Raw(row...)
	w.Raw(7)
	w.Nums(nums[:3]...)
	octet.Sum(row, row)
	joined := octet.Join(row)
	r := octet.NewReader(row)
	expect(t, "a row and its spare room", all, []byte("abspare"))
	if nums[0] != -1 || nums[1] != 5 || nums[2] != math.MaxInt || nums[3] != 9 {
		t.Error("numbers that were changed", nums)
	}
	want := w.Out()
	soil(row)
	nums[1] = 6
	expect(t, "what was laid", w.Out(), want)
	expect(t, "what was joined", joined, []byte("ab"))
	expect(t, "what is read", r.Raw(2), []byte("ab"))

	rows := [][]byte{[]byte("x"), []byte("y"), []byte("z")}
	expect(t, "a part of a list of rows", octet.Join(rows[:2]...), []byte("xy"))
	octet.Sum(rows[:2]...)
	w.Bytes(rows[:2]...)
	expect(t, "all of it", octet.Join(rows...), []byte("xyz"))
}

func TestFirstRowIsNotKept(t *testing.T) {
	row, all := roomy("ab")
	var w octet.Writer
	w.Raw(row...)
	w.Raw(7)
	expect(t, "a row and its spare room", all, []byte("abspare"))
	soil(row)
	expect(t, "what was laid", w.Out(), []byte("ab\a"))
}

func TestAnswersShareNothing(t *testing.T) {
	p := []byte{1, 2, 1, 4, 5, 6}
	r := octet.NewReader(p)
	a := r.Bytes()
	b := r.Bytes()
	c := r.Raw(1)
	soil(a)
	_ = append(a[:0], 99)
	expect(t, "the bytes that were handed in", p, []byte{1, 2, 1, 4, 5, 6})
	expect(t, "another answer", b, []byte{4})
	expect(t, "another answer", c, []byte{5})
	soil(b)
	soil(c)
	if v := r.Num(); v != 6 || !r.Whole() {
		t.Error("what a Reader keeps", v)
	}

	r = octet.NewReader(p)
	a = r.Raw(3)
	soil(a[:1])
	expect(t, "the bytes that were handed in", p, []byte{1, 2, 1, 4, 5, 6})
	expect(t, "what a Reader keeps", r.Raw(3), []byte{4, 5, 6})

	row, all := roomy("ab")
	for _, joined := range [][]byte{octet.Join(row), octet.Join(row, nil), octet.Join(nil, row)} {
		soil(joined)
		expect(t, "a row that was joined", all, []byte("abspare"))
	}
}

func TestReadersAreApart(t *testing.T) {
	p := []byte{1, 2}
	a, b := octet.NewReader(p), octet.NewReader(p)
	a.Bad()
	if !b.Good() || b.Num() != 1 || b.Num() != 2 || !b.Whole() {
		t.Error("a Reader that another one's error reached")
	}
}

func TestNilWriter(t *testing.T) {
	var w *octet.Writer
	w.Nums(1, 2)
	w.Bytes([]byte("a"), nil)
	w.Raw(1, 2)
	w.Nums()
	w.Bytes()
	w.Raw()
	expect(t, "a nil Writer", w.Out(), nil)
}

func TestNilReader(t *testing.T) {
	var r *octet.Reader
	expectBad(t, "a nil Reader", r)
	r.Nums()
}

// The ways: one behind the other is what each alone would lay.

func TestVariadicIsEachAlone(t *testing.T) {
	l := numbers()
	rows := [][]byte{[]byte("a"), nil, []byte("bcd"), make([]byte, 200), {}}
	raw := []byte{0, 1, 0x7f, 0x80, 0xff}
	together := laid(func(w *octet.Writer) {
		w.Nums(l...)
		w.Bytes(rows...)
		w.Raw(raw...)
	})
	alone := laid(func(w *octet.Writer) {
		for _, v := range l {
			w.Nums(v)
		}
		for _, row := range rows {
			w.Bytes(row)
		}
		for _, b := range raw {
			w.Raw(b)
		}
	})
	expect(t, "one behind the other", together, alone)
}

// Package octet is numbers as bytes: see DOC.md, chapter 1.
package octet

const (
	greatest  = 1 << 62 // the greatest number that is laid or taken
	mostBytes = 9       // of a number: so many has the greatest
	digits    = 0x7f    // of a byte of a number
	more      = 0x80    // beside the digits: another byte follows
)

// remainders has what four digits that are turned out of a check sum put into it: so short a table needs two steps a byte.
var remainders = [16]uint32{
	0x00000000, 0x1db71064, 0x3b6e20c8, 0x26d930ac,
	0x76dc4190, 0x6b6b51f4, 0x4db26158, 0x5005713c,
	0xedb88320, 0xf00f9344, 0xd6d6a3e8, 0xcb61b38c,
	0x9b64c2b0, 0x86d3d2d4, 0xa00ae278, 0xbdbdf21c,
}

// Writer is bytes that are laid one behind the other.
type Writer struct {
	laid []byte
}

// Nums lays numbers from 0 on.
func (w *Writer) Nums(v ...int) {
	if w == nil {
		return
	}
	for _, n := range v {
		w.laid = appendNumber(w.laid, within(n))
	}
}

// Bytes lays rows of bytes, each with its length.
func (w *Writer) Bytes(p ...[]byte) {
	for _, row := range p {
		w.Nums(len(row))
		w.Raw(row...)
	}
}

// Raw lays bytes as they are.
func (w *Writer) Raw(p ...byte) {
	if w == nil {
		return
	}
	w.laid = append(w.laid, p...)
}

// Out is what was laid.
func (w *Writer) Out() []byte {
	if w == nil {
		return nil
	}
	return Join(w.laid)
}

// within is the number that is laid for v.
func within(v int) int {
	switch {
	case v < 0:
		return 0
	case v > greatest:
		return greatest
	}
	return v
}

// appendNumber lays v, which is 0 or more, behind p.
func appendNumber(p []byte, v int) []byte {
	for v > digits {
		p = append(p, byte(v&digits|more))
		v >>= 7
	}
	return append(p, byte(v))
}

// Reader is bytes that are taken one by one; the first error stays.
type Reader struct {
	rest []byte // nothing, once it erred
	bad  bool
}

// NewReader takes from bytes.
func NewReader(p []byte) *Reader {
	return &Reader{rest: Join(p)} // a copy: whoever handed p in may change it
}

// Num takes a number.
func (r *Reader) Num() int {
	if !r.Good() {
		return 0
	}
	v, n := firstNumber(r.rest)
	if n == 0 {
		r.Bad()
		return 0
	}
	r.rest = r.rest[n:]
	return v
}

// Nums takes numbers into places.
func (r *Reader) Nums(to ...*int) {
	for _, place := range to {
		v := r.Num()
		if place != nil {
			*place = v
		}
	}
}

// Bytes takes a row of bytes.
func (r *Reader) Bytes() []byte {
	return r.Raw(r.Num())
}

// Raw takes so many bytes.
func (r *Reader) Raw(n int) []byte {
	if n < 0 || n > r.Left() {
		r.Bad()
	}
	if !r.Good() {
		return nil
	}
	p := Join(r.rest[:n])
	r.rest = r.rest[n:]
	return p
}

// Left is how many bytes are left.
func (r *Reader) Left() int {
	if r == nil {
		return 0
	}
	return len(r.rest)
}

// Bad makes it err, if it does not yet.
func (r *Reader) Bad() {
	if r == nil {
		return
	}
	r.rest = nil
	r.bad = true
}

// Good tells whether nothing erred.
func (r *Reader) Good() bool {
	return r != nil && !r.bad
}

// Whole tells whether nothing erred, and nothing is left.
func (r *Reader) Whole() bool {
	return r.Good() && r.Left() == 0
}

// firstNumber is the number that p begins with, and how many bytes it has there: none, if p begins with no number.
func firstNumber(p []byte) (int, int) {
	v := 0
	for i, b := range p {
		if i == mostBytes { // one more would not fit into v
			return 0, 0
		}
		v |= int(b&digits) << (7 * i)
		if b&more == 0 {
			if b == 0 && i > 0 || v > greatest {
				return 0, 0
			}
			return v, i + 1
		}
	}
	return 0, 0
}

// Join is rows of bytes, one behind the other.
func Join(p ...[]byte) []byte {
	n := 0
	for _, row := range p {
		n += len(row)
	}
	all := make([]byte, 0, n)
	for _, row := range p {
		all = append(all, row...)
	}
	return all
}

// Sum is the check sum of rows of bytes, one behind the other.
func Sum(p ...[]byte) uint32 {
	sum := ^uint32(0)
	for _, row := range p {
		for _, b := range row {
			sum ^= uint32(b)
			sum = sum>>4 ^ remainders[sum&15]
			sum = sum>>4 ^ remainders[sum&15]
		}
	}
	return ^sum
}

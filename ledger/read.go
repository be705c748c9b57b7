package ledger

import (
	"letterbox/api"
	"letterbox/frame"
	"letterbox/keep"
	"letterbox/octet"
)

// intake is the entries of a log as they are taken in.
type intake struct {
	base    int      // the image's number
	ahead   int      // the number of the record ahead, 0 if there is none
	entries [][]byte // those above the image's number
}

// take takes in what a record holds.
func (t *intake) take(p []byte) api.Errno {
	number, entry, ok := parse(p)
	if !ok || number < 1 || t.ahead > 0 && number != t.ahead+1 {
		return api.ErrForm
	}
	t.ahead = number
	if number <= t.base {
		return api.OK
	}
	if number != t.base+len(t.entries)+1 {
		return api.ErrForm
	}
	t.entries = append(t.entries, entry)
	return api.OK
}

// tell tells what each whole record of a log holds, up to the last one, and how many bytes they have.
func tell(log []byte, take func(p []byte) api.Errno) (int, api.Errno) {
	records, whole := frame.Scan(log)
	for _, p := range records {
		if e := take(p); e != api.OK {
			return 0, e
		}
	}
	return whole, api.OK
}

// readImage takes in the image, if there is one.
func (l *Ledger) readImage() api.Errno {
	p, e := keep.Load(l.d, l.image)
	if e == api.ErrNone {
		return api.OK
	}
	if e != api.OK {
		return e
	}
	number, data, ok := parse(p)
	if !ok {
		return api.ErrForm
	}
	l.base, l.data = number, data
	return api.OK
}

// readLog takes in the log, if there is one, and leaves of it on the disk what is needed.
func (l *Ledger) readLog() api.Errno {
	b, e := l.d.Read(l.log)
	if e != api.OK { // it is not there
		return api.OK
	}
	t := &intake{base: l.base}
	whole, e := tell(b, t.take)
	if e != api.OK {
		return e
	}
	l.entries = t.entries
	return l.tidy(len(b), whole)
}

// tidy leaves of a log, of that size, its whole records, and nothing if none is above the image.
func (l *Ledger) tidy(size, whole int) api.Errno {
	if whole < size {
		if e := l.d.Truncate(l.log, whole); e != api.OK {
			return e
		}
	}
	if whole < size || len(l.entries) > 0 && !l.lasts(whole) {
		if e := l.d.Sync(l.log); e != api.OK {
			return e
		}
	}
	if len(l.entries) == 0 {
		return l.d.Remove(l.log)
	}
	return api.OK
}

// lasts tells whether the log stays at that size behind a crash. An Append that erred may have left an entry that does not,
// and what an Open told must. A Sync at each Open would do too, but it errs over a burnt fuse where nothing is to be done.
func (l *Ledger) lasts(size int) bool {
	crashed := l.d.Copy()
	crashed.Crash(0)
	b, _ := crashed.Read(l.log)
	return len(b) == size
}

// numbered is a number and bytes in one row.
func numbered(number int, p []byte) []byte {
	var w octet.Writer
	w.Nums(number)
	w.Bytes(p)
	return w.Out()
}

// parse takes a number and bytes, and nothing else, out of a row.
func parse(p []byte) (int, []byte, bool) {
	r := octet.NewReader(p)
	number, data := r.Num(), r.Bytes()
	if !r.Whole() || number > mostNumber {
		return 0, nil, false
	}
	return number, data, true
}

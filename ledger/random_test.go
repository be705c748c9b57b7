package ledger_test

import (
	"math/rand/v2"
	"slices"
	"strconv"
	"strings"
	"testing"

	"letterbox/api"
	"letterbox/disk"
	"letterbox/ledger"
)

// world is a ledger on a disk, and what Opens may make of it.
type world struct {
	t    *testing.T
	r    *rand.Rand
	d    *disk.Disk
	l    *ledger.Ledger
	told state   // what the ledger tells
	may  []state // what it was behind some call from the last one that answered OK on
	dead bool
}

// did takes in a change, and the states that it goes through to the last one.
func (w *world) did(what string, e api.Errno, through ...state) {
	w.t.Helper()
	switch {
	case w.dead:
		expect(w.t, what+" of a dead ledger", e, api.ErrDead)
	case e == api.OK:
		w.told = through[len(through)-1]
		w.may = []state{w.told}
	case e == api.ErrDead || e == api.ErrFull:
		w.may = append(w.may, through...)
		w.dead = true
	default:
		w.t.Errorf("%s: error %d", what, e)
	}
}

func (w *world) append() {
	entry := strings.Repeat("entry", 4)[:w.r.IntN(20)]
	n, e := w.l.Append([]byte(entry))
	if e == api.OK && n != w.told.last()+1 || e != api.OK && n != 0 {
		w.t.Errorf("Append: %d, error %d", n, e)
	}
	w.did("Append", e, w.told.with(entry))
}

func (w *world) write() {
	s := state{w.told.last() + w.r.IntN(3), "image" + strconv.Itoa(w.r.IntN(1000)), nil}
	w.did("Write", w.l.Write(s.base, []byte(s.data)), s)
}

func (w *world) drop() {
	was := w.told
	e := w.l.Drop()
	w.did("Drop", e, state{base: was.base, data: was.data}, state{})
	w.told, w.dead = was, true
}

func (w *world) open() {
	l, e := ledger.Open(w.d, prefix)
	if e != api.OK {
		expect(w.t, "Open", e, api.ErrDead)
		return
	}
	w.l, w.told, w.dead = l, stateOf(w.t, "Open", l), false
	if !slices.ContainsFunc(w.may, w.told.is) {
		w.t.Errorf("Open: %s, want one of %s", w.told, w.may)
	}
	w.may = []state{w.told}
}

// turn does something that may happen to a ledger.
func (w *world) turn() {
	switch w.r.IntN(20) {
	case 0, 1, 2, 3, 4, 5:
		w.append()
	case 6, 7:
		w.write()
	case 8:
		w.drop()
	case 9, 10, 11:
		w.open()
	case 12, 13, 14, 15:
		w.d.Fuse(w.r.IntN(7) - 1)
	case 16:
		w.d.Fuse(-1)
	default:
		w.d.Crash(w.r.IntN(60) - 2)
		if w.dead || w.r.IntN(3) == 0 {
			w.open()
		}
	}
}

func TestWhateverHappens(t *testing.T) {
	for seed := range uint64(1500) {
		r := rand.New(rand.NewPCG(seed, 5))
		d := madeOf(t, 100+r.IntN(400), nil)
		w := &world{t: t, r: r, d: d, may: []state{{}}}
		w.open()
		for range 120 {
			w.turn()
			expectState(t, "a turn", w.l, w.told)
			if t.Failed() {
				t.Fatalf("seed %d", seed)
			}
		}
	}
}

package store_test

import (
	"fmt"
	"maps"
	"math"
	"math/rand/v2"
	"slices"
	"testing"

	"letterbox/api"
	"letterbox/disk"
	"letterbox/store"
)

// P14.5: what lasts

// script is changes of all kinds, through more than two images; some of them err.
func script() []api.Change {
	l := []api.Change{enrol("a", "p"), enrol("b", "q"), add("b", "inbox", 1, 2, "b's"), create("b", "x")}
	for i := range 38 {
		l = append(l, small(i))
		if i%11 == 5 {
			l = append(l, enrol("a", "p"), transcribe("b", "inbox", "x", 1), marking("a", "inbox", 9, 9))
		}
	}
	return l
}

// TestWhereverTheFuseBurns: behind a Crash and an Open the state is that of the last change that answered OK, or of the one that was under way.
func TestWhereverTheFuseBurns(t *testing.T) {
	l := script()
	states := []plain{empty()}
	for _, c := range l {
		behind, _, _ := states[len(states)-1].after(c)
		states = append(states, behind)
	}
	fuse := 0
	for done := false; !done; fuse++ {
		d := newDisk(t, 1<<22)
		s := opened(t, "a fuse", d)
		d.Fuse(fuse)
		at := slices.IndexFunc(l, func(c api.Change) bool {
			s.Do(c)
			return s.Dead()
		})
		done = at < 0
		may := states[len(states)-1:]
		if !done {
			may = states[at : at+2]
		}
		for _, draw := range []int{-1, 0, 1, 11, 12, 13, 30, 31, 1000, math.MaxInt} {
			expectLasts(t, fmt.Sprint("fuse ", fuse, ", draw ", draw), d.Copy(), draw, may)
		}
		d.Fuse(-1)
		expectLasts(t, fmt.Sprint("fuse ", fuse, ", without a crash"), d, math.MaxInt, may)
	}
	if fuse < 90 {
		t.Errorf("the test's own: only %d things are done", fuse)
	}
}

// expectLasts wants one of these states behind a crash, that it stays whatever burns within Opens and crashes, and that it goes on from there.
func expectLasts(t *testing.T, what string, d *disk.Disk, draw int, may []plain) {
	t.Helper()
	d.Crash(draw)
	for fuse := range 4 {
		again := d.Copy()
		again.Fuse(fuse)
		if _, e := store.Open(again); e != api.OK && e != api.ErrDead {
			t.Errorf("%s: Open over a fuse of %d: error %d", what, fuse, e)
		}
		again.Crash(draw)
		expectOneOf(t, what, opened(t, what, again), may)
	}
	s := opened(t, what, d)
	now := expectOneOf(t, what, s, may)
	d.Crash(0)
	expectTold(t, what+", a crash behind Open", opened(t, what, d), now)
	for i := range 3 {
		c := marking("b", "inbox", api.ModeSet, i, 1)
		behind, n, e := now.after(c)
		if got, gotE := s.Do(c); got != n || gotE != e {
			t.Errorf("%s, and a change behind it: %d, error %d; want %d, error %d", what, got, gotE, n, e)
		}
		now = behind
	}
	d.Crash(draw)
	expectTold(t, what+", and changes behind it", opened(t, what, d), now)
}

// expectOneOf wants one of these states, and tells which.
func expectOneOf(t *testing.T, what string, s *store.Store, may []plain) plain {
	t.Helper()
	i := slices.IndexFunc(may, func(p plain) bool { return p.text() == textOf(s) })
	if i < 0 {
		t.Fatalf("%s: %.300s; want one of %d, as %.300s", what, textOf(s), len(may), may[0].text())
	}
	expectTold(t, what, s, may[i])
	return may[i]
}

// walk is changes of any kind on a disk whose fuse burns now and then, held against the plain state.
type walk struct {
	t     *testing.T
	r     *rand.Rand
	d     *disk.Disk
	s     *store.Store
	now   plain   // what the store tells
	may   []plain // what an Open may tell
	dead  bool
	given map[int]string // validities, and whose they are
}

// change is a random one: it may be mostly, and is of what is there mostly.
func (w *walk) change() api.Change {
	names := []string{"inbox", "inbox", "x", "x", "y", "z", "w", "v"}
	c := api.Change{User: []string{"a", "a", "a", "b", "b", "c", "d", "e"}[w.r.IntN(8)], Box: names[w.r.IntN(len(names))]}
	var uids []int
	for uid := 1 + w.r.IntN(3); len(uids) < 24 && w.r.IntN(8) > 0; uid += 1 + w.r.IntN(5) {
		uids = append(uids, uid)
	}
	to := names[w.r.IntN(len(names))]
	c.Kind = []int{1, 1, 2, 2, 2, 3, 4, 4, 5, 5, 5, 5, 5, 5, 5, 5, 6, 6, 6, 7, 8, 8, 0, 9}[w.r.IntN(24)]
	switch c.Kind {
	case api.ChangeUser:
		c = enrol(c.User, c.User+"!")
	case api.ChangeRename:
		c.To = to
	case api.ChangeAppend:
		c = add(c.User, c.Box, w.r.IntN(34), w.r.IntN(1000), bodyOf(w.r.IntN(30)))
	case api.ChangeMark:
		c = marking(c.User, c.Box, w.r.IntN(4), w.r.IntN(33), uids...)
	case api.ChangeExpunge:
		c.UIDs = uids
	case api.ChangeCopy:
		c.UIDs, c.To = uids, to
	}
	return c
}

// do does a change.
func (w *walk) do() {
	c := w.change()
	behind, n, e := w.now.after(c)
	got, gotE := w.s.Do(c)
	switch {
	case w.dead:
		n, e = 0, api.ErrDead
	case w.s.Dead() && e == api.OK && (gotE == api.ErrDead || gotE == api.ErrFull): // the entry's error, or the image's
		n, e = 0, gotE
		w.may = []plain{w.now, behind}
		w.dead = true
		if textOf(w.s) == behind.text() {
			w.now, w.may = behind, []plain{behind}
		}
	default:
		w.now, w.may = behind, []plain{behind}
	}
	if got != n || gotE != e || w.s.Dead() != w.dead {
		w.t.Errorf("%.200s: %d, error %d, dead %t; want %d, error %d, dead %t", textOfChange(c), got, gotE, w.s.Dead(), n, e, w.dead)
	}
}

// open opens the store anew, if the fuse lets it.
func (w *walk) open() {
	s, e := store.Open(w.d)
	if e != api.OK {
		if s != nil || e != api.ErrDead {
			w.t.Errorf("Open: error %d", e)
		}
		return
	}
	w.s, w.dead = s, false
	w.now = expectOneOf(w.t, "Open", s, w.may)
	w.may = []plain{w.now}
}

// validities wants of each that one box alone has it, and that it is one user's for ever.
func (w *walk) validities() {
	var here []int
	for name, u := range w.now.users {
		for boxName := range u.boxes {
			b, _ := w.s.Get(name, boxName)
			here = append(here, b.Validity)
			if whose, is := w.given[b.Validity]; is && whose != name {
				w.t.Errorf("validity %d was %s's, and is %s's", b.Validity, whose, name)
			}
			w.given[b.Validity] = name
		}
	}
	slices.Sort(here)
	if len(slices.Compact(here)) != len(here) {
		w.t.Errorf("validities that are equal: %v", here)
	}
}

func (w *walk) step() {
	switch w.r.IntN(24) {
	case 0:
		w.d.Fuse(w.r.IntN(40))
	case 1:
		w.d.Fuse(-1)
	case 2, 3:
		w.d.Crash(w.r.IntN(100) - 3)
		w.open()
	case 4:
		w.open()
	default:
		w.do()
	}
}

func TestWhateverHappens(t *testing.T) {
	kinds := map[string]int{}
	for seed := range uint64(300) {
		r := rand.New(rand.NewPCG(seed, 14))
		d := newDisk(t, []int{1 << 22, 1 << 22, 2000 + r.IntN(9000)}[r.IntN(3)])
		w := &walk{t: t, r: r, d: d, may: []plain{empty()}, given: map[int]string{}}
		w.open()
		for range 150 {
			w.step()
			expectTold(t, "a step", w.s, w.now)
			w.validities()
			if t.Failed() {
				t.Fatalf("seed %d", seed)
			}
		}
		if base, _ := bookIn(t, d).Base(); base > 0 {
			kinds["images"]++
		}
		kinds["boxes"] += len(w.given)
	}
	if kinds["images"] < 100 || kinds["boxes"] < 1000 {
		t.Errorf("the test's own: %v", kinds)
	}
}

// TestValidities: none is given twice, whatever is deleted, renamed and opened again, and a box's stays.
func TestValidities(t *testing.T) {
	s, d := fresh(t)
	s.Do(enrol("a", "p"))
	next := 2
	for i := range 100 {
		if i%9 == 4 {
			d.Crash(0)
			s = opened(t, "again", d)
		}
		for _, name := range []string{"x", "y"} {
			if n, e := s.Do(create("a", name)); n != 0 || e != api.OK {
				t.Fatalf("Create: %d, error %d", n, e)
			}
			if b, _ := s.Get("a", name); b.Validity != next || b.Next != 1 {
				t.Errorf("a new box has validity %d, next UID %d; want %d, 1", b.Validity, b.Next, next)
			}
			next++
		}
		s.Do(create("a", "x")) // errs: it takes no validity
		s.Do(remove("a", "y"))
		s.Do(rename("a", "x", "y"))
		if b, _ := s.Get("a", "y"); b.Validity != next-2 {
			t.Errorf("a renamed box has validity %d, want %d", b.Validity, next-2)
		}
		s.Do(remove("a", "y"))
	}
	if b, _ := s.Get("a", "inbox"); b.Validity != 1 {
		t.Errorf("inbox has validity %d", b.Validity)
	}
}

// No UID of a box is given twice, whatever is expunged and opened again.
func TestUIDs(t *testing.T) {
	s, d := fresh(t)
	s.Do(enrol("a", "p"))
	for i := range 100 {
		if n, e := s.Do(add("a", "inbox", 0, 0, "")); n != i+1 || e != api.OK {
			t.Errorf("Append: %d, error %d; want %d", n, e, i+1)
		}
		s.Do(expunge("a", "inbox", i+1))
		if i%7 == 3 {
			d.Crash(0)
			s = opened(t, "again", d)
		}
	}
}

// Stores on disks of their own do not know each other.
func TestStoresAreApart(t *testing.T) {
	one, _ := fresh(t)
	two, _ := fresh(t)
	one.Do(enrol("a", "p"))
	two.Do(enrol("b", "p"))
	if textOf(one) == textOf(two) || one.Check("b", "p") || two.Check("a", "p") {
		t.Errorf("two stores: %s, %s", textOf(one), textOf(two))
	}
}

// Memory

// soilBox overwrites all that a box has, and the spare room behind it.
func soilBox(b api.Box) {
	l := b.L[:cap(b.L)]
	for i := range l {
		soil(l[i].Body)
		l[i] = api.Message{UID: -5, Flags: -6, Date: -7, Body: []byte("soiled")}
	}
}

func soilNames(l []string) {
	l = l[:cap(l)]
	for i := range l {
		l[i] = "soiled"
	}
}

// What is handed in to Do stays as it is, and is not kept.
func TestWhatIsHandedInIsNotKept(t *testing.T) {
	for _, c := range []api.Change{
		add("a", "inbox", 1, 2, "body"), add("a", "x", 1, 2, ""), marking("a", "x", 0, 9, 1, 2, 9), expunge("a", "x", 1, 2, 9), transcribe("a", "x", "inbox", 1, 2, 9), transcribe("a", "x", "x", 1, 2, 9),
		add("a", "w", 1, 2, "body"), marking("a", "x", 0, 9, 2, 2), transcribe("a", "x", "w", 1, 2), expunge("a", "x", 0),
	} {
		p := plainOf(9, boxOf("x", 30, 5))
		behind, _, _ := p.after(c)
		s, d := of(t, p)
		text := textOfChange(c)
		uids := append(append(make([]int, 0, len(c.UIDs)+2), c.UIDs...), 77, 78)
		body := append(append(make([]byte, 0, len(c.Body)+2), c.Body...), 77, 78)
		c.UIDs, c.Body = uids[:len(c.UIDs)], body[:len(c.Body)]
		s.Do(c)
		if textOfChange(c) != text || uids[len(uids)-1] != 78 || uids[len(uids)-2] != 77 || body[len(body)-1] != 78 || body[len(body)-2] != 77 {
			t.Errorf("Do changed what it was handed: %.200s, was %.200s", textOfChange(c), text)
		}
		soil(body)
		soilUIDs(uids)
		expectTold(t, "once what was handed in is overwritten", s, behind)
		expectTold(t, "once what was handed in is overwritten, opened again", opened(t, "again", d), behind)
		for i := range api.MaxEntries { // the image is written from what is kept
			s.Do(marking("a", "inbox", 0, i))
		}
		expectTold(t, "once what was handed in is overwritten, from the image", opened(t, "again", d), behind)
	}
}

// Whatever becomes of an answer, no other one and nothing that is kept changes with it.
func TestAnswersAreNewMemory(t *testing.T) {
	p := plainOf(9, boxOf("x", 30, 5), boxOf("y", 30, 2))
	s, d := of(t, p)
	do := func(c api.Change) {
		p, _, _ = p.after(c)
		s.Do(c)
	}
	do(transcribe("a", "x", "y", 1, 2, 3)) // boxes that may share messages
	do(transcribe("a", "x", "inbox", 1, 2, 3))
	do(rename("a", "y", "z"))
	do(marking("a", "z", 0, 9, 30))
	for range 3 {
		for _, name := range slices.Sorted(maps.Keys(p.users["a"].boxes)) {
			one, _ := s.Get("a", name)
			two, _ := s.Get("a", name)
			text := textOfBox(name, two)
			soilBox(one)
			if textOfBox(name, two) != text || text != textOfBox(name, p.users["a"].boxes[name]) {
				t.Errorf("Get of %s shares memory: %.200s, was %.200s", name, textOfBox(name, two), text)
			}
			for i := range two.L { // and no two bodies of one answer do
				kept := slices.Clone(two.L[i].Body)
				soil(two.L[i].Body)
				two.L[i].Body = kept
				if textOfBox(name, two) != text {
					t.Errorf("bodies of one box share memory: %.200s, was %.200s", textOfBox(name, two), text)
				}
			}
		}
		users, moreUsers, boxes, moreBoxes := s.Users(), s.Users(), s.Boxes("a"), s.Boxes("a")
		soilNames(users)
		soilNames(boxes)
		if fmt.Sprint(moreUsers, moreBoxes) != "[a b] [inbox x z]" {
			t.Errorf("Users or Boxes share memory: %q, %q", moreUsers, moreBoxes)
		}
		expectTold(t, "once all answers are overwritten", s, p)
		expectTold(t, "once all answers are overwritten, opened again", opened(t, "again", d), p)
		do(add("a", "x", 1, 2, "more"))
	}
}

// What was answered stays what it is, whatever is done later.
func TestAnswersStay(t *testing.T) {
	s, _ := of(t, plainOf(9, boxOf("x", 30, 5)))
	b, _ := s.Get("a", "x")
	users, boxes, text := s.Users(), s.Boxes("a"), textOfBox("x", b)
	for _, c := range []api.Change{marking("a", "x", 0, 31, 1, 2, 3), transcribe("a", "x", "x", 1, 2), expunge("a", "x", 1, 3), add("a", "x", 0, 0, "new"), enrol("0", "p"), create("a", "0"), rename("a", "x", "1"), remove("a", "1")} {
		if _, e := s.Do(c); e != api.OK {
			t.Errorf("the test's own: error %d", e)
		}
		if textOfBox("x", b) != text || fmt.Sprint(users, boxes) != "[a b] [inbox x]" {
			t.Errorf("what was answered has changed: %s, %q, %q", textOfBox("x", b), users, boxes)
		}
	}
}

// What is told depends on the calls alone.
func TestTwins(t *testing.T) {
	one, oneDisk := fresh(t)
	two, twoDisk := fresh(t)
	for i, c := range script() {
		n, e := one.Do(c)
		m, f := two.Do(c)
		if n != m || e != f || textOf(one) != textOf(two) || filesOf(oneDisk) != filesOf(twoDisk) {
			t.Fatalf("change %d: %d, error %d, and %d, error %d", i, n, e, m, f)
		}
	}
}

package box_test

import (
	"bytes"
	"fmt"
	"math/rand"
	"slices"
	"strings"
	"testing"

	"letterbox/api"
	"letterbox/box"
	"letterbox/mark"
)

// P13.3: Decode of Encode, and UIDs

// expectBack wants of a box that may be that its bytes tell it, and it the bytes.
func expectBack(t *testing.T, what string, b api.Box) {
	t.Helper()
	p, e := box.Encode(b)
	if e != api.OK {
		t.Fatalf("Encode of %s errs with %d", what, e)
	}
	back, e := box.Decode(p)
	if e != api.OK || !box.Same(back, b) || !box.Is(back) {
		t.Errorf("Decode of Encode of %s is %.300s, error %d", what, textOf(back), e)
	}
	expectBox(t, "Decode of Encode of "+what, back, b)
	again, e := box.Encode(back)
	if e != api.OK || !bytes.Equal(again, p) {
		t.Errorf("Encode of what Decode tells of %s is % .100x, error %d; want % .100x", what, again, e, p)
	}
}

func TestBack(t *testing.T) {
	for what, b := range good() {
		expectBack(t, what, b)
	}
	for n := range api.MaxMsgs + 1 {
		expectBack(t, fmt.Sprint(n, " messages"), rowOf(n))
		expectBack(t, fmt.Sprint(n, " long messages"), longest(n))
	}
	for size := range api.MaxBody + 1 {
		expectBack(t, fmt.Sprint("a body of ", size), boxOf(2, message(1, 0, 0, strings.Repeat("\x80", size))))
	}
}

func TestExample(t *testing.T) {
	b, _, _ := box.Add(box.New("a", 1), 0, 0, nil)
	b, _, _ = box.Add(b, 0, 0, nil)
	b, _ = box.Expunge(b, []int{1})
	b, _, _ = box.Add(b, 0, 0, nil)
	if got := fmt.Sprint(uidsOf(b)); got != "[2 3]" {
		t.Errorf("the example's UIDs are %s", got)
	}
}

// randomUIDs are UIDs of a box and others, in any order, some of them twice.
func randomUIDs(r *rand.Rand, b api.Box) []int {
	var uids []int
	for _, m := range b.L {
		for r.Intn(3) == 0 {
			uids = append(uids, m.UID)
		}
	}
	for r.Intn(2) == 0 {
		uids = append(uids, r.Intn(b.Next+5)-2)
	}
	r.Shuffle(len(uids), func(i, j int) { uids[i], uids[j] = uids[j], uids[i] })
	return uids
}

// walk is calls of any kind, one behind the other, each held against the messages in a plain map.
type walk struct {
	t     *testing.T
	r     *rand.Rand
	b     api.Box
	plain map[int]api.Message
	given int // how many UIDs were given, which is also the last of them
}

func (w *walk) add() {
	flags, date, body := w.r.Intn(32), w.r.Intn(api.MaxDate+1), make([]byte, w.r.Intn(20))
	w.r.Read(body)
	b, uid, e := box.Add(w.b, flags, date, body)
	if len(w.plain) == api.MaxMsgs {
		if uid != 0 || e != api.ErrFull || !box.Same(b, w.b) {
			w.t.Errorf("Add to a full one tells %d, error %d", uid, e)
		}
		return
	}
	w.given++
	if uid != w.given || e != api.OK {
		w.t.Errorf("Add tells %d, error %d; want %d", uid, e, w.given)
	}
	w.plain[uid] = api.Message{UID: uid, Flags: flags, Date: date, Body: body}
	w.b = b
}

func (w *walk) mark() {
	uids, mode, flags := randomUIDs(w.r, w.b), w.r.Intn(5)-1, w.r.Intn(80)-10
	want := 0
	for uid, m := range w.plain {
		if after := mark.Apply(mode, m.Flags, flags); slices.Contains(uids, uid) && after != m.Flags {
			want++
			m.Flags = after
			w.plain[uid] = m
		}
	}
	b, n := box.Mark(w.b, uids, mode, flags)
	if n != want {
		w.t.Errorf("Mark tells %d, want %d", n, want)
	}
	w.b = b
}

func (w *walk) expunge() {
	uids := randomUIDs(w.r, w.b)
	var want []int
	for uid := range w.plain {
		if slices.Contains(uids, uid) {
			want = append(want, uid)
			delete(w.plain, uid)
		}
	}
	slices.Sort(want)
	b, gone := box.Expunge(w.b, uids)
	if !slices.Equal(gone, want) {
		w.t.Errorf("Expunge tells %v, want %v", gone, want)
	}
	w.b = b
}

// check wants of the box all that the plain map has.
func (w *walk) check() {
	want := api.Box{Name: "x", Validity: 7, Next: w.given + 1}
	for uid := range w.given + 2 {
		place := -1
		if m, has := w.plain[uid]; has {
			place = len(want.L)
			want.L = append(want.L, m)
		}
		if box.Find(w.b, uid) != place {
			w.t.Errorf("Find of %d is %d, want %d", uid, box.Find(w.b, uid), place)
		}
	}
	expectBox(w.t, "the box", w.b, want)
	if !box.Is(w.b) || !box.Same(w.b, want) || box.Stamp(w.b) != plainStamp(want) {
		w.t.Errorf("Is, Same or Stamp of %.300s", textOf(w.b))
	}
	expectBack(w.t, "the box", w.b)
}

func TestRandomCalls(t *testing.T) {
	r := rand.New(rand.NewSource(1))
	for range 60 {
		w := &walk{t: t, r: r, b: box.New("x", 7), plain: map[int]api.Message{}}
		for range 100 {
			switch n := r.Intn(10); {
			case n < 7:
				w.add()
			case n < 9:
				w.mark()
			default:
				w.expunge()
			}
			w.check()
			if t.Failed() {
				return
			}
		}
		if w.given < api.MaxMsgs {
			t.Errorf("the test's own: only %d UIDs were given", w.given)
		}
	}
}

// Bytes of random boxes with a few bytes that are other ones, against the plain box.
func TestRandomBytes(t *testing.T) {
	r := rand.New(rand.NewSource(2))
	boxes, others := 0, 0
	for range 100000 {
		b := api.Box{Name: []string{"a", "z9", "inbox"}[r.Intn(3)], Validity: 1 + r.Intn(400), Next: 1 + r.Intn(api.MaxUID)}
		for uid := 1 + r.Intn(9); uid < b.Next && r.Intn(4) > 0; uid += 1 + r.Intn(300) {
			b.L = append(b.L, message(uid, r.Intn(32), r.Intn(500), strings.Repeat("\x01", r.Intn(4))))
		}
		p := plainBytes(b)
		for r.Intn(3) > 0 {
			p[r.Intn(len(p))] = byte(r.Intn(256))
		}
		if _, is := plainBox(p); is {
			boxes++
		} else {
			others++
		}
		expectBytes(t, p)
	}
	if boxes < 10000 || others < 10000 {
		t.Errorf("the test's own: %d boxes, %d others", boxes, others)
	}
}

// What holds everywhere

// soil overwrites a list and the spare room behind its end.
func soil(p []byte) {
	p = p[:cap(p)]
	for i := range p {
		p[i] ^= 0xff
	}
}

// soilBox overwrites all that a box has, and the spare room behind it.
func soilBox(b api.Box) {
	l := b.L[:cap(b.L)]
	for place := range l {
		soil(l[place].Body)
		l[place] = api.Message{UID: -5, Flags: -6, Date: -7, Body: []byte("soiled")}
	}
}

// roomy is a box with spare room behind its list and its bodies.
func roomy(b api.Box) api.Box {
	l := make([]api.Message, len(b.L), len(b.L)+3)
	for place, m := range b.L {
		l[place] = m
		l[place].Body = append(make([]byte, 0, len(m.Body)+3), m.Body...)
	}
	b.L = l
	return b
}

// wholeOf is all of a box, and what stands in the spare room behind its list and its bodies.
func wholeOf(b api.Box) string {
	text := textOf(b)
	for _, m := range b.L[:cap(b.L)] {
		text += fmt.Sprintf(" %d %d %d %x", m.UID, m.Flags, m.Date, m.Body[:cap(m.Body)])
	}
	return text
}

// answers are boxes that are told of one, by each call that tells one.
func answers(b api.Box, uids []int, body []byte) map[string]api.Box {
	l := map[string]api.Box{}
	l["Add"], _, _ = box.Add(b, 1, 2, body)
	l["Add with ErrArg"], _, _ = box.Add(b, -1, 2, body)
	l["Add with ErrLong"], _, _ = box.Add(b, 1, 2, make([]byte, api.MaxBody+1))
	l["Mark"], _ = box.Mark(b, uids, api.ModeAdd, 4)
	l["Mark of none"], _ = box.Mark(b, nil, api.ModeAdd, 4)
	l["Mark of all"], _ = box.Mark(b, uidsOf(b), api.ModeSet, 4)
	l["Expunge"], _ = box.Expunge(b, uids)
	l["Expunge of none"], _ = box.Expunge(b, nil)
	l["Expunge of all"], _ = box.Expunge(b, uidsOf(b))
	p, _ := box.Encode(b)
	l["Decode"], _ = box.Decode(p)
	return l
}

func textsOf(boxes map[string]api.Box) map[string]string {
	l := map[string]string{}
	for what, b := range boxes {
		l[what] = textOf(b)
	}
	return l
}

// manyBoxes are those that are asked of memory: with room for a message more, and without.
func manyBoxes() []api.Box {
	return []api.Box{box.New("a", 1), some(), rowOf(api.MaxMsgs - 1), rowOf(api.MaxMsgs), boxOf(api.MaxUID, message(3, 0, 0, "abc")), boxOf(4, message(3, 0, 0, ""))}
}

// What is handed in stays what it is, and the spare room behind it too; what is told stays, whatever becomes of that.
func TestWhatIsHandedInStays(t *testing.T) {
	for _, b := range manyBoxes() {
		b = roomy(b)
		uids := append(make([]int, 0, 9), 19, 3, 3, 1, 50)
		body := append(make([]byte, 0, 9), "body"...)
		was := wholeOf(b)
		told := answers(b, uids, body)
		box.Is(b)
		box.Find(b, 3)
		box.Stamp(b)
		box.Same(b, b)
		if wholeOf(b) != was {
			t.Errorf("what was handed in became %.300s; want %.300s", wholeOf(b), was)
		}
		if fmt.Sprint(uids[:9]) != "[19 3 3 1 50 0 0 0 0]" || string(body[:9]) != "body\x00\x00\x00\x00\x00" {
			t.Errorf("what was handed in became %v, %q", uids[:9], body[:9])
		}
		want := textsOf(told)
		soilBox(b)
		soil(body)
		for i := range uids[:9] {
			uids[:9][i] = -8
		}
		for what, text := range textsOf(told) {
			if text != want[what] {
				t.Errorf("%s, once what it was handed is overwritten, is %.300s; want %.300s", what, text, want[what])
			}
		}
	}
}

// TestAnswersAreApart overwrites each answer and its spare room: neither what was handed in nor any other answer knows.
func TestAnswersAreApart(t *testing.T) {
	for _, b := range manyBoxes() {
		b = roomy(b)
		was := wholeOf(b)
		uids, body := []int{19, 3, 1}, []byte("body")
		told := answers(b, uids, body)
		want := textsOf(told)
		for what, one := range told {
			soilBox(one)
			delete(told, what)
			if wholeOf(b) != was || string(body) != "body" || fmt.Sprint(uids) != "[19 3 1]" {
				t.Errorf("what was handed in to %s became %.300s", what, wholeOf(b))
			}
			for other, text := range textsOf(told) {
				if text != want[other] {
					t.Errorf("%s, once %s is overwritten, is %.300s; want %.300s", other, what, text, want[other])
				}
			}
		}
		for what, text := range textsOf(answers(b, uids, body)) {
			if text != want[what] {
				t.Errorf("%s, asked again, is %.300s; want %.300s", what, text, want[what])
			}
		}
	}
}

// The lists of one answer share nothing with one another, their spare room neither.
func TestListsOfOneAnswerAreApart(t *testing.T) {
	for _, b := range manyBoxes() {
		for what, one := range answers(roomy(b), []int{19, 3, 1}, []byte("body")) {
			for place := range one.L {
				want := textOf(one)
				m := &one.L[place]
				kept := slices.Clone(m.Body)
				soil(m.Body)
				m.Body = kept
				if textOf(one) != want {
					t.Errorf("%s, once the body at %d is overwritten, is %.300s; want %.300s", what, place, textOf(one), want)
				}
			}
		}
	}
	shared := []byte("one for two")
	b, n := box.Mark(boxOf(3, api.Message{UID: 1, Body: shared}, api.Message{UID: 2, Body: shared[:3]}), nil, 0, 0)
	soil(b.L[0].Body)
	if n != 0 || string(b.L[1].Body) != "one" || string(shared) != "one for two" {
		t.Errorf("bodies that were one are %q, %q of %q", b.L[0].Body, b.L[1].Body, shared)
	}
}

// The UIDs that Expunge tells are its own, and the bytes that Encode tells, and what Decode tells of them.
func TestOtherAnswersAreApart(t *testing.T) {
	b, uids := some(), []int{3, 7}
	_, gone := box.Expunge(b, uids)
	_, again := box.Expunge(b, uids)
	for i := range gone[:cap(gone)] {
		gone[:cap(gone)][i] = -1
	}
	if fmt.Sprint(uids, again, uidsOf(b)) != "[3 7] [3 7] [2 3 7 8 19]" {
		t.Errorf("what was handed in and told became %v, %v, %v", uids, again, uidsOf(b))
	}
	one, _ := box.Encode(b)
	two, _ := box.Encode(b)
	soil(one)
	if !bytes.Equal(two, plainBytes(b)) || textOf(b) != textOf(some()) {
		t.Errorf("Encode, once another is overwritten, is % .100x", two)
	}
	p := append(make([]byte, 0, 2*len(two)), two...)
	first, _ := box.Decode(p)
	second, _ := box.Decode(p)
	if !bytes.Equal(p, two) || bytes.Count(p[:cap(p)][len(p):], []byte{0}) != cap(p)-len(p) {
		t.Error("Decode changed what it was handed")
	}
	soilBox(first)
	if !bytes.Equal(p, two) {
		t.Errorf("what was handed in to Decode became % .100x", p)
	}
	soil(p)
	expectBox(t, "Decode, once its bytes are overwritten,", second, some())
}

// Every call ends, whatever it is asked of; and what is no box is told as it is.
func TestCallsOfNone(t *testing.T) {
	for what, b := range none() {
		was := textOf(b)
		if got := box.Find(b, 3); got != slices.Index(uidsOf(b), 3) {
			t.Errorf("Find in one with %s is %d", what, got)
		}
		if len(b.L) < 100 && box.Stamp(b) != plainStamp(b) && !strings.HasPrefix(what, "UID") { // beyond 2^53 nothing is exact
			t.Errorf("Stamp of one with %s is %v", what, box.Stamp(b))
		}
		answers(b, []int{3}, nil)
		expectNotAdded(t, b, 32, 0, make([]byte, api.MaxBody+1), api.ErrArg)
		expectNotAdded(t, b, 0, 0, make([]byte, api.MaxBody+1), api.ErrLong)
		if textOf(b) != was {
			t.Errorf("one with %s became %.300s", what, textOf(b))
		}
	}
}

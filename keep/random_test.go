package keep_test

import (
	"math/rand/v2"
	"slices"
	"strings"
	"testing"

	"letterbox/api"
	"letterbox/disk"
	"letterbox/keep"
)

const notThere = "(not there)" // no text that is Saved here

// held is what each file may hold, by its name: what was Saved or Cleared last with OK, and what any since that erred was to leave.
type held map[string][]string

func (h held) sure(name, text string)  { h[name] = []string{text} }
func (h held) maybe(name, text string) { h[name] = append(h[name], text) }

// tell takes in what a call was to leave under a name.
func (h held) tell(name, text string, e api.Errno) {
	if e == api.OK {
		h.sure(name, text)
	} else {
		h.maybe(name, text)
	}
}

// expect holds each file against what it may hold; what is told stays so.
func (h held) expect(t *testing.T, d *disk.Disk) {
	t.Helper()
	for name, may := range h {
		p, e := keep.Load(d, name)
		got := string(p)
		if e == api.ErrNone {
			got = notThere
		}
		if e != api.OK && e != api.ErrNone || !slices.Contains(may, got) {
			t.Errorf("Load(%q): %q, error %d; want one of %q", name, p, e, may)
			continue
		}
		h.sure(name, got)
	}
}

// turn does something that may happen to a disk.
func (h held) turn(t *testing.T, r *rand.Rand, d *disk.Disk) {
	t.Helper()
	names := []string{"a", "b", "ab", "abc"}
	name := names[r.IntN(len(names))]
	switch r.IntN(8) {
	case 0, 1, 2:
		text := strings.Repeat("xyz", 9)[:r.IntN(27)] + name
		at := r.IntN(len(text) + 1)
		h.tell(name, text, keep.Save(d, name, []byte(text[:at]), nil, []byte(text[at:])))
	case 3:
		prefix, stay := name[:r.IntN(len(name)+1)], names[r.IntN(len(names)):]
		e := keep.Clear(d, prefix, stay...)
		for _, name := range names {
			if strings.HasPrefix(name, prefix) && !slices.Contains(stay, name) {
				h.tell(name, notThere, e)
			}
		}
	case 4, 5:
		d.Fuse(r.IntN(8) - 1)
	case 6:
		d.Append(name+"~", make([]byte, r.IntN(9)))
	case 7:
		d.Crash(r.IntN(40) - 2)
	}
}

func TestWhateverHappens(t *testing.T) {
	for seed := range uint64(400) {
		r := rand.New(rand.NewPCG(seed, 4))
		d := made(t, 40+r.IntN(200))
		h := held{}
		for _, name := range []string{"a", "b", "ab", "abc"} {
			h.sure(name, notThere)
		}
		for range 100 {
			h.turn(t, r, d)
			h.expect(t, d)
			if t.Failed() {
				t.Fatalf("seed %d", seed)
			}
		}
	}
}

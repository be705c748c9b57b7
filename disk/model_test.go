package disk_test

import (
	"maps"
	"math/rand/v2"
	"strings"
	"testing"

	"letterbox/api"
	"letterbox/disk"
)

// model is a disk as the promises tell it, file by file.
type model struct {
	room, fuse int // no fuse: below 0
	l          files
}

func (m *model) used() int {
	n := 0
	for _, f := range m.l {
		n += len(f.lasting) + len(f.others)
	}
	return n
}

// step does one of the five on one name, once nothing speaks against it.
func (m *model) step(names []string, refused func() api.Errno, do func()) api.Errno {
	if m.fuse == 0 {
		return api.ErrDead
	}
	for _, name := range names {
		if name == "" || len(name) > 64 {
			return api.ErrArg
		}
	}
	if e := refused(); e != api.OK {
		return e
	}
	do()
	m.fuse--
	return api.OK
}

func (m *model) lacks(name string) func() api.Errno {
	return func() api.Errno {
		if _, is := m.l[name]; !is {
			return api.ErrNone
		}
		return api.OK
	}
}

func (m *model) append(name, text string) api.Errno {
	return m.step([]string{name}, func() api.Errno {
		if m.used()+len(text) > m.room {
			return api.ErrFull
		}
		return api.OK
	}, func() { m.l[name] = file{m.l[name].lasting, m.l[name].others + text} })
}

func (m *model) truncate(name string, n int) api.Errno {
	f := m.l[name]
	all := f.lasting + f.others
	return m.step([]string{name}, func() api.Errno {
		if e := m.lacks(name)(); e != api.OK {
			return e
		}
		if n < 0 || n > len(all) {
			return api.ErrArg
		}
		return api.OK
	}, func() {
		at := min(n, len(f.lasting))
		m.l[name] = file{all[:at], all[at:n]}
	})
}

func (m *model) rename(old, name string) api.Errno {
	return m.step([]string{old, name}, m.lacks(old), func() {
		f := m.l[old]
		delete(m.l, old)
		m.l[name] = f
	})
}

func (m *model) sync(names ...string) api.Errno {
	for _, name := range names {
		e := m.step([]string{name}, m.lacks(name), func() { m.l[name] = file{m.l[name].lasting + m.l[name].others, ""} })
		if e != api.OK {
			return e
		}
	}
	return api.OK
}

func (m *model) remove(names ...string) api.Errno {
	for _, name := range names {
		if e := m.step([]string{name}, m.lacks(name), func() { delete(m.l, name) }); e != api.OK {
			return e
		}
	}
	return api.OK
}

func (m *model) crash(draw int) {
	for name, f := range m.l {
		m.l[name] = file{f.lasting + f.others[:max(draw, 0)%(len(f.others)+1)], ""}
	}
	m.fuse = -1
}

// turn does the same thing to both, and holds the answers against each other.
func turn(t *testing.T, r *rand.Rand, d *disk.Disk, m *model) {
	t.Helper()
	names := []string{"a", "b", "c", "d", "a", "b", longest, "", tooLong}
	one := func() string { return names[r.IntN(len(names))] }
	some := func() []string {
		var l []string
		for range r.IntN(4) {
			l = append(l, one())
		}
		return l
	}
	switch r.IntN(16) {
	case 0, 1, 2, 3, 4:
		name, text := one(), strings.Repeat("xyz", r.IntN(5))
		at := r.IntN(len(text) + 1)
		expect(t, "Append", d.Append(name, []byte(text[:at]), nil, []byte(text[at:])), m.append(name, text))
	case 5, 6, 7:
		l := some()
		expect(t, "Sync", d.Sync(l...), m.sync(l...))
	case 8, 9:
		name, n := one(), r.IntN(12)-1
		expect(t, "Truncate", d.Truncate(name, n), m.truncate(name, n))
	case 10, 11:
		old, name := one(), one()
		expect(t, "Rename", d.Rename(old, name), m.rename(old, name))
	case 12:
		l := some()
		expect(t, "Remove", d.Remove(l...), m.remove(l...))
	case 13, 14:
		n := r.IntN(9) - 1
		d.Fuse(n)
		m.fuse = n
	case 15:
		draw := r.IntN(40) - 2
		d.Crash(draw)
		m.crash(draw)
	}
}

func TestAsTheModelDoes(t *testing.T) {
	for seed := range uint64(300) {
		r := rand.New(rand.NewPCG(seed, 3))
		room := r.IntN(60)
		d, m := made(t, room), &model{room, -1, files{}}
		for range 100 {
			stays, before := d, maps.Clone(m.l)
			if r.IntN(10) == 0 {
				d = d.Copy()
				m.fuse = -1
			}
			turn(t, r, d, m)
			expectFiles(t, "as the model has it", d, m.l)
			if stays != d {
				expectFiles(t, "what was copied", stays, before)
			}
			if t.Failed() {
				t.Fatalf("seed %d", seed)
			}
		}
	}
}

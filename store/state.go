package store

import (
	"maps"
	"slices"

	"letterbox/api"
	"letterbox/box"
)

// state is all users. Each change makes another one; what both share is never written to.
type state struct {
	next  int // the next validity
	users map[string]user
}

// user is a pass, and boxes by their names.
type user struct {
	pass  string
	boxes map[string]api.Box
}

// after is the state behind a change that may be, and what that answers.
func (s state) after(c api.Change) (state, int, api.Errno) {
	switch c.Kind {
	case api.ChangeUser:
		return s.enrol(c)
	case api.ChangeCreate:
		return s.create(c)
	case api.ChangeDelete:
		return s.within(c, user.remove)
	case api.ChangeRename:
		return s.within(c, user.rename)
	case api.ChangeAppend:
		return s.within(c, user.add)
	case api.ChangeMark:
		return s.within(c, user.mark)
	case api.ChangeExpunge:
		return s.within(c, user.expunge)
	case api.ChangeCopy:
		return s.within(c, user.transcribe)
	}
	return state{}, 0, api.ErrArg
}

// enrol makes a user.
func (s state) enrol(c api.Change) (state, int, api.Errno) {
	_, has := s.users[c.User]
	if e := s.refusal(has, len(s.users), api.MaxUsers); e != api.OK {
		return state{}, 0, e
	}
	return s.withNew(c.User, user{pass: c.Pass}, inbox), 0, api.OK
}

// create makes a box.
func (s state) create(c api.Change) (state, int, api.Errno) {
	u, known := s.users[c.User]
	if !known {
		return state{}, 0, api.ErrNone
	}
	_, has := u.boxes[c.Box]
	if e := s.refusal(has, len(u.boxes), api.MaxBoxes); e != api.OK {
		return state{}, 0, e
	}
	return s.withNew(c.User, u, c.Box), 0, api.OK
}

// refusal is why nothing can be made under a name, beside so many others; OK, if it can.
func (s state) refusal(has bool, others, most int) api.Errno {
	switch {
	case has:
		return api.ErrHas
	case others >= most:
		return api.ErrFull
	case s.next >= api.MaxUID:
		return api.ErrUsed
	}
	return api.OK
}

// withNew is the state in which a user has one more box, of the next validity.
func (s state) withNew(name string, u user, boxName string) state {
	u = u.having(box.New(boxName, s.next))
	return state{next: s.next + 1, users: with(s.users, name, u)}
}

// within does something with a box that is there.
func (s state) within(c api.Change, do func(u user, b api.Box, c api.Change) (user, int, api.Errno)) (state, int, api.Errno) {
	u := s.users[c.User]
	b, is := u.boxes[c.Box] // nobody has no boxes
	if !is {
		return state{}, 0, api.ErrNone
	}
	u, n, e := do(u, b, c)
	if e != api.OK {
		return state{}, 0, e
	}
	s.users = with(s.users, c.User, u)
	return s, n, api.OK
}

func (u user) remove(b api.Box, c api.Change) (user, int, api.Errno) {
	if b.Name == inbox {
		return user{}, 0, api.ErrHeld
	}
	u.boxes = without(u.boxes, b.Name)
	return u, 0, api.OK
}

func (u user) rename(b api.Box, c api.Change) (user, int, api.Errno) {
	if b.Name == inbox {
		return user{}, 0, api.ErrHeld
	}
	if _, has := u.boxes[c.To]; has {
		return user{}, 0, api.ErrHas
	}
	u.boxes = without(u.boxes, b.Name)
	b.Name = c.To
	return u.having(b), 0, api.OK
}

func (u user) add(b api.Box, c api.Change) (user, int, api.Errno) {
	b, uid, e := box.Add(b, c.Flags, c.Date, c.Body)
	if e != api.OK {
		return user{}, 0, e
	}
	return u.having(b), uid, api.OK
}

func (u user) mark(b api.Box, c api.Change) (user, int, api.Errno) {
	b, n := box.Mark(b, c.UIDs, c.Mode, c.Flags)
	return u.having(b), n, api.OK
}

func (u user) expunge(b api.Box, c api.Change) (user, int, api.Errno) {
	b, gone := box.Expunge(b, c.UIDs)
	return u.having(b), len(gone), api.OK
}

// transcribe adds messages of b to another box, or to b itself: then those that it adds are none of them.
func (u user) transcribe(b api.Box, c api.Change) (user, int, api.Errno) {
	to, is := u.boxes[c.To]
	if !is {
		return user{}, 0, api.ErrNone
	}
	n := 0
	for _, m := range b.L {
		if !slices.Contains(c.UIDs, m.UID) {
			continue
		}
		var e api.Errno
		if to, _, e = box.Add(to, m.Flags, m.Date, m.Body); e != api.OK {
			return user{}, 0, e
		}
		n++
	}
	return u.having(to), n, api.OK
}

// having is the user who has that box, in place of one of its name.
func (u user) having(b api.Box) user {
	u.boxes = with(u.boxes, b.Name, b)
	return u
}

// with is another map, in which name has v.
func with[V any](m map[string]V, name string, v V) map[string]V {
	all := make(map[string]V, len(m)+1)
	maps.Copy(all, m)
	all[name] = v
	return all
}

// without is another map, in which name has nothing.
func without[V any](m map[string]V, name string) map[string]V {
	others := maps.Clone(m)
	delete(others, name)
	return others
}

// names are all that a map has something under, rising.
func names[V any](m map[string]V) []string {
	return slices.Sorted(maps.Keys(m))
}

package store

import (
	"letterbox/api"
	"letterbox/box"
	"letterbox/octet"
)

// image is a state as bytes.
func (s state) image() []byte {
	var w octet.Writer
	w.Nums(s.next, len(s.users))
	for _, name := range names(s.users) {
		u := s.users[name]
		w.Bytes([]byte(name), []byte(u.pass))
		w.Nums(len(u.boxes))
		for _, boxName := range names(u.boxes) {
			p, _ := box.Encode(u.boxes[boxName]) // those of a state may be
			w.Bytes(p)
		}
	}
	return w.Out()
}

// stateOf is bytes as a state.
func stateOf(p []byte) (state, api.Errno) {
	r := octet.NewReader(p)
	next := r.Num()
	users := takeRising(r, api.MaxUsers, takeUser)
	if !r.Whole() || next < 1 || next > api.MaxUID {
		return state{}, api.ErrForm
	}
	return state{next: next, users: users}, api.OK
}

// takeRising takes how many there are, at most so many, and each with its name; these must rise.
func takeRising[V any](r *octet.Reader, most int, take func(r *octet.Reader) (string, V)) map[string]V {
	count := r.Num()
	if count > most {
		r.Bad()
	}
	all := map[string]V{}
	last := "" // below each name
	for i := 0; i < count && r.Good(); i++ {
		name, v := take(r)
		if name <= last {
			r.Bad()
		}
		all[name] = v
		last = name
	}
	return all
}

func takeUser(r *octet.Reader) (string, user) {
	name, u := text(r), user{pass: text(r)}
	u.boxes = takeRising(r, api.MaxBoxes, takeBox)
	if _, has := u.boxes[inbox]; !has || !box.Name(name) || !mayPass(u.pass) {
		r.Bad()
	}
	return name, u
}

func takeBox(r *octet.Reader) (string, api.Box) {
	b, e := box.Decode(r.Bytes())
	if e != api.OK {
		r.Bad()
	}
	return b.Name, b
}

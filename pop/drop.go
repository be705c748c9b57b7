package pop

import (
	"strconv"
	"strings"

	"letterbox/api"
)

// drop is the messages of a box as they once were.
type drop struct {
	validity int
	messages []message
}

// message is one of a drop.
type message struct {
	uid    int
	body   []byte
	marked bool
}

// dropOf is a box's messages, none of them marked. It keeps their bodies.
func dropOf(b api.Box) drop {
	d := drop{validity: b.Validity}
	for _, m := range b.L {
		d.messages = append(d.messages, message{uid: m.UID, body: m.Body})
	}
	return d
}

// find is where in the list the message is whose place a word tells, if that is there.
func (d drop) find(word []byte) (int, bool) {
	place, is := number(word)
	if !is || place < 1 || place > len(d.messages) || d.messages[place-1].marked {
		return 0, false
	}
	return place - 1, true
}

// sum is how many are not marked, and how many bytes these have.
func (d drop) sum() string {
	count, total := 0, 0
	for _, m := range d.messages {
		if !m.marked {
			count++
			total += len(m.body)
		}
	}
	return strconv.Itoa(count) + blank + strconv.Itoa(total)
}

// row is the place of a message of the list, and a fact of it.
func (d drop) row(n int, fact func(message) string) string {
	return strconv.Itoa(n+1) + blank + fact(d.messages[n])
}

// rows are those of all that are not marked, a line each.
func (d drop) rows(fact func(message) string) string {
	var all strings.Builder
	for n, m := range d.messages {
		if !m.marked {
			all.WriteString(d.row(n, fact) + end)
		}
	}
	return all.String()
}

// size is how many bytes a message has.
func size(m message) string {
	return strconv.Itoa(len(m.body))
}

// unique is what no other message of the store's is told by.
func (d drop) unique(m message) string {
	return strconv.Itoa(d.validity) + "." + strconv.Itoa(m.uid)
}

// reset marks none.
func (d drop) reset() {
	for n := range d.messages {
		d.messages[n].marked = false
	}
}

// marked is the UIDs of all that are marked, rising as the drop's do.
func (d drop) marked() []int {
	var uids []int
	for _, m := range d.messages {
		if m.marked {
			uids = append(uids, m.uid)
		}
	}
	return uids
}

package store

import (
	"strings"

	"letterbox/api"
	"letterbox/box"
	"letterbox/octet"
)

// Fields of a change beside Kind and User, which all kinds name.
const (
	hasPass = 1 << iota
	hasBox
	hasTo
	hasUIDs
	hasMode
	hasFlags
	hasDate
	hasBody
)

// named is which fields each kind names.
var named = [...]int{
	api.ChangeUser:    hasPass,
	api.ChangeCreate:  hasBox,
	api.ChangeDelete:  hasBox,
	api.ChangeRename:  hasBox | hasTo,
	api.ChangeAppend:  hasBox | hasFlags | hasDate | hasBody,
	api.ChangeMark:    hasBox | hasUIDs | hasMode | hasFlags,
	api.ChangeExpunge: hasBox | hasUIDs,
	api.ChangeCopy:    hasBox | hasUIDs | hasTo,
}

// Encode is a change as bytes.
func Encode(c api.Change) ([]byte, api.Errno) {
	if !may(c) {
		return nil, api.ErrArg
	}
	var w octet.Writer
	w.Nums(c.Kind)
	w.Bytes([]byte(c.User), []byte(c.Pass), []byte(c.Box), []byte(c.To))
	w.Nums(len(c.UIDs))
	w.Nums(c.UIDs...)
	w.Nums(c.Mode, c.Flags, c.Date)
	w.Bytes(c.Body)
	return w.Out(), api.OK
}

// Decode is bytes as a change.
func Decode(p []byte) (api.Change, api.Errno) {
	r := octet.NewReader(p)
	var c api.Change
	count := 0
	r.Nums(&c.Kind)
	c.User, c.Pass, c.Box, c.To = text(r), text(r), text(r), text(r)
	r.Nums(&count)
	if count > api.MaxMsgs { // may would refuse them all the same, but only once all were taken
		r.Bad()
	}
	for r.Good() && len(c.UIDs) < count {
		c.UIDs = append(c.UIDs, r.Num())
	}
	r.Nums(&c.Mode, &c.Flags, &c.Date)
	c.Body = r.Bytes()
	// Each number and each row has one form that the Reader takes, so these are the bytes of Encode.
	if !r.Whole() || !may(c) {
		return api.Change{}, api.ErrForm
	}
	return c, api.OK
}

// may tells whether a change may be.
func may(c api.Change) bool {
	if c.Kind < api.ChangeUser || c.Kind > api.ChangeCopy || !box.Name(c.User) {
		return false
	}
	for _, f := range [...]struct {
		field     int
		zero, may bool
	}{
		{hasPass, c.Pass == "", mayPass(c.Pass)},
		{hasBox, c.Box == "", box.Name(c.Box)},
		{hasTo, c.To == "", box.Name(c.To)},
		{hasUIDs, len(c.UIDs) == 0, mayUIDs(c.UIDs)},
		{hasMode, c.Mode == 0, upTo(c.Mode, api.ModeSub)},
		{hasFlags, c.Flags == 0, upTo(c.Flags, api.AllFlags)},
		{hasDate, c.Date == 0, upTo(c.Date, api.MaxDate)},
		{hasBody, len(c.Body) == 0, len(c.Body) <= api.MaxBody},
	} {
		good := f.zero
		if named[c.Kind]&f.field != 0 {
			good = f.may
		}
		if !good {
			return false
		}
	}
	return true
}

// mayPass tells whether a text may be a pass.
func mayPass(s string) bool {
	return 1 <= len(s) && len(s) <= api.MaxName && !strings.ContainsFunc(s, func(r rune) bool {
		return r < 0x21 || r > 0x7e
	})
}

// mayUIDs tells whether a change may name such messages.
func mayUIDs(uids []int) bool {
	if len(uids) > api.MaxMsgs {
		return false
	}
	last := 0
	for _, uid := range uids {
		if uid <= last || uid > api.MaxUID {
			return false
		}
		last = uid
	}
	return true
}

// upTo tells whether n is one of the numbers from 0 to most.
func upTo(n, most int) bool {
	return 0 <= n && n <= most
}

// text is the next row of r.
func text(r *octet.Reader) string {
	return string(r.Bytes())
}

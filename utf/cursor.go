package utf

import "unicode/utf8"

// text is bytes, which may be signs' or not.
type text string

// endsAt says whether nothing stands at a place.
func (t text) endsAt(at int) bool { return at >= len(t) }

// signAt is the sign whose bytes begin at a place, and how many these are; there are none, where none begins.
func (t text) signAt(at int) (sign, size int) {
	r, size := utf8.DecodeRuneInString(string(t[at:]))
	// The library tells this sign where there is none, too, but of fewer bytes than its own are.
	if r == utf8.RuneError && size < utf8.RuneLen(r) {
		return 0, 0
	}
	return int(r), size
}

// cursor goes through a text, sign by sign.
type cursor struct {
	text
	at int
}

// next goes over the next sign, if it is such, and tells it.
func (c *cursor) next(such func(sign int) bool) (int, bool) {
	sign, size := c.signAt(c.at)
	if size == 0 || !such(sign) {
		return 0, false
	}
	c.at += size
	return sign, true
}

// one goes over the next sign, if it is such.
func (c *cursor) one(such func(sign int) bool) bool {
	_, is := c.next(such)
	return is
}

// some goes over signs, as many as are such, and says whether there is one at least.
func (c *cursor) some(such func(sign int) bool) bool {
	from := c.at
	for c.one(such) {
	}
	return c.at > from
}

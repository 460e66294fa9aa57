package lines

import (
	"slices"

	"ossuary/lex"
)

// row are tokens of a text that are still to be read.
type row struct {
	tokens []lex.Token
	end    int // how many bytes the text has
}

// more says whether there are any.
func (r *row) more() bool { return len(r.tokens) > 0 }

// begins says whether the first one is of one of some kinds.
func (r *row) begins(kinds ...lex.Kind) bool {
	return r.more() && slices.Contains(kinds, r.tokens[0].Kind)
}

// next goes over the first one, which there must be, and tells it.
func (r *row) next() lex.Token {
	t := r.tokens[0]
	r.tokens = r.tokens[1:]
	return t
}

// at is the place of the first one, or of the end.
func (r *row) at() int {
	if r.more() {
		return r.tokens[0].At
	}
	return r.end
}

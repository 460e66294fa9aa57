package lex

import (
	"strconv"

	"ossuary/api"
	"ossuary/utf"
)

// reader reads tokens, one behind the other.
type reader struct {
	place
	signs []int // those of the token's text, as far as it is read
}

// put puts signs behind those of the token's text.
func (r *reader) put(signs ...int) { r.signs = append(r.signs, signs...) }

// isMoreBehindBlanks goes over blanks, and says whether a token has to stand behind them.
func (r *reader) isMoreBehindBlanks() bool {
	for r.over(" ") || r.over("\t") {
	}
	return r.rest() != "" && !r.begins("#")
}

// token goes over a token, and tells it, if one stands there.
func (r *reader) token() (Token, bool) {
	r.signs = r.signs[:0]
	at := r.at
	kind := r.kind()
	if !r.signsOf(kind) {
		return Token{}, false
	}
	// The numbers of escapes were put unasked: this tells whether they are signs'.
	text, e := utf.Text(r.signs...)
	if e != api.OK {
		return Token{}, false
	}
	return Token{Kind: kind, Text: text, At: at}, true
}

// kind goes over what a token of some kind begins with, and tells that kind; 0, if none begins there.
func (r *reader) kind() Kind {
	switch {
	case r.over("<"):
		return Iri
	case r.over("_:"):
		return Blank
	case r.over(`"`):
		return Text
	case r.over("@"):
		return Tag
	case r.over("^^"):
		return Caret
	case r.over("."):
		return Dot
	}
	return 0
}

// signsOf puts the signs of a token of some kind, of which the beginning is read, and says whether it is one.
func (r *reader) signsOf(kind Kind) bool {
	switch kind {
	case Iri:
		return r.until('>', utf.Raw, iriEscape)
	case Blank:
		return r.longest(utf.Label)
	case Text:
		return r.until('"', endsNoLine, literalEscape)
	case Tag:
		return r.longest(utf.Tag)
	case Caret, Dot:
		return true
	}
	return false
}

// longest puts the signs of the longest label, or tag, and says whether there is one: such tells how many bytes it has.
func (r *reader) longest(such func(s string) int) bool {
	n := such(r.rest())
	// What is a label or a tag is valid: no error comes of it.
	signs, _, _ := utf.Signs(r.take(n))
	r.put(signs...)
	return n > 0
}

// until puts signs that may stand raw, and those of escapes, up to the one that ends them, and says whether that one stands behind them.
func (r *reader) until(end int, raw func(sign int) bool, escape func(letter int) (sign int, is bool)) bool {
	for {
		sign, is := r.next()
		switch {
		case !is:
			return false
		case sign == end:
			return true
		case sign == '\\':
			if !r.escaped(escape) {
				return false
			}
		case raw(sign):
			r.put(sign)
		default:
			return false
		}
	}
}

// escaped puts the sign of an escape, whose \ is read, and says whether it is one: other tells those of neither u nor U.
func (r *reader) escaped(other func(letter int) (sign int, is bool)) bool {
	letter, is := r.next()
	if !is {
		return false
	}
	switch letter {
	case 'u':
		return r.numbered(4)
	case 'U':
		return r.numbered(8)
	}
	sign, is := other(letter)
	if is {
		r.put(sign)
	}
	return is
}

// numbered puts the number of so many hexadecimal digits, be it a sign's or not, and says whether they stand there.
func (r *reader) numbered(n int) bool {
	digits := r.take(n)
	number, err := strconv.ParseUint(digits, 16, 32)
	if len(digits) < n || err != nil {
		return false
	}
	r.put(int(number))
	return true
}

// endsNoLine says whether a sign may stand raw in a literal: its " and \ are asked for ahead.
func endsNoLine(sign int) bool { return sign != '\n' && sign != '\r' }

// iriEscape tells that an IRI has no other escapes.
func iriEscape(int) (sign int, is bool) { return 0, false }

// literalEscape tells the others of a literal.
func literalEscape(letter int) (sign int, is bool) {
	switch letter {
	case 't':
		return '\t', true
	case 'b':
		return '\b', true
	case 'n':
		return '\n', true
	case 'r':
		return '\r', true
	case 'f':
		return '\f', true
	case '"', '\'', '\\':
		return letter, true
	}
	return 0, false
}

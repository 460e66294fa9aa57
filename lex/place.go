package lex

import (
	"strings"
	"unicode/utf8"
)

// place is one in a text, which is valid.
type place struct {
	text string
	at   int
}

// rest is what stands from there on.
func (p *place) rest() string { return p.text[p.at:] }

// begins says whether the rest begins with a piece.
func (p *place) begins(piece string) bool { return strings.HasPrefix(p.rest(), piece) }

// over goes over a piece, if the rest begins with it.
func (p *place) over(piece string) bool {
	if !p.begins(piece) {
		return false
	}
	p.at += len(piece)
	return true
}

// take goes over so many bytes, or over the rest, if that has fewer, and tells them.
func (p *place) take(n int) string {
	taken := p.rest()
	if n < len(taken) {
		taken = taken[:n]
	}
	p.at += len(taken)
	return taken
}

// next goes over a sign, and tells it, unless there is none any more.
func (p *place) next() (sign int, is bool) {
	r, size := utf8.DecodeRuneInString(p.rest())
	p.at += size
	return int(r), size > 0
}

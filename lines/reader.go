package lines

import (
	"ossuary/api"
	"ossuary/lex"
	"ossuary/term"
)

// reader reads things out of tokens. It stops for good ahead of the first token that may not stand there, so that its place is asked once, at the end.
type reader struct {
	row
	stopped bool
}

// read is the thing that a text is, or the place where it is none: how tells the thing out of its tokens.
func read[T any](s string, how func(r *reader) T) (thing T, at int, e api.Errno) {
	var none T
	tokens, at, e := lex.Line(s)
	if e != api.OK {
		return none, at, e
	}
	r := reader{row: row{tokens: tokens, end: len(s)}}
	thing = how(&r)
	if r.stopped || r.more() {
		return none, r.at(), api.ErrSyntax
	}
	return thing, 0, api.OK
}

// one reads a token, which has to be of one of some kinds.
func (r *reader) one(kinds ...lex.Kind) lex.Token {
	if r.stopped || !r.begins(kinds...) {
		r.stopped = true
		return lex.Token{}
	}
	return r.next()
}

// line reads the triple that a line is; none, if it is blank.
func (r *reader) line() []api.Triple {
	if !r.more() {
		return nil
	}
	t := api.Triple{S: r.term(lex.Iri, lex.Blank), P: r.term(lex.Iri), O: r.object()}
	r.one(lex.Dot)
	return []api.Triple{t}
}

// object reads one.
func (r *reader) object() api.Term { return r.term(lex.Iri, lex.Blank, lex.Text) }

// term reads one that has to begin with a token of one of some kinds.
func (r *reader) term(kinds ...lex.Kind) api.Term {
	switch t := r.one(kinds...); t.Kind {
	case lex.Iri:
		return term.Iri(t.Text)
	case lex.Blank:
		return term.Blank(t.Text)
	case lex.Text:
		return r.literal(t.Text)
	}
	return api.Term{}
}

// literal reads what belongs to a literal behind its text.
func (r *reader) literal(text string) api.Term {
	switch {
	case r.begins(lex.Tag):
		return term.Tagged(text, r.next().Text)
	case r.begins(lex.Caret):
		r.next()
		return term.Typed(text, r.one(lex.Iri).Text)
	}
	return term.Literal(text)
}

package term

import (
	"strings"

	"ossuary/api"
	"ossuary/utf"
)

// writer writes a text, which it has.
type writer struct {
	strings.Builder
}

// textOf is a right term's text, however long.
func textOf(t api.Term) string {
	var w writer
	w.Grow(len(t.Text) + len(t.Lang) + len(t.Type) + len(`""^^<>`))
	switch t.Kind {
	case api.TermIri:
		w.iri(t.Text)
	case api.TermBlank:
		w.pieces("_:", t.Text)
	case api.TermLiteral:
		w.literal(t.Text)
		if t.Lang != "" {
			w.pieces("@", t.Lang)
		}
	case api.TermTyped:
		w.literal(t.Text)
		w.pieces("^^")
		w.iri(t.Type)
	}
	return w.String()
}

// pieces writes some, one behind the other.
func (w *writer) pieces(pieces ...string) {
	for _, s := range pieces {
		w.WriteString(s)
	}
}

// iri writes an IRI.
func (w *writer) iri(s string) {
	w.pieces("<")
	for _, sign := range s {
		if utf.Raw(int(sign)) {
			w.WriteRune(sign)
		} else {
			w.pieces(`\u00`, hexadecimal(sign>>4), hexadecimal(sign&15))
		}
	}
	w.pieces(">")
}

// literal writes a literal, but for its tag or its type.
func (w *writer) literal(s string) {
	w.pieces(`"`)
	for _, sign := range s {
		switch sign {
		case '"':
			w.pieces(`\"`)
		case '\\':
			w.pieces(`\\`)
		case '\n':
			w.pieces(`\n`)
		case '\r':
			w.pieces(`\r`)
		default:
			w.WriteRune(sign)
		}
	}
	w.pieces(`"`)
}

// hexadecimal is the digit of a number below 16: each sign that may not stand raw is below 16 by 16.
func hexadecimal(n rune) string { return "0123456789ABCDEF"[n : n+1] }

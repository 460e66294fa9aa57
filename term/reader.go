package term

import (
	"strconv"
	"strings"

	"ossuary/api"
)

// meant is the term whose text this is, if it is one's. Else it is some term with another text, or one that is not right: what is wrong in a text need not be told here.
func meant(s string) api.Term {
	if rest, is := strings.CutPrefix(s, "<"); is {
		return Iri(iriIn(rest))
	}
	if label, is := strings.CutPrefix(s, "_:"); is {
		return Blank(label)
	}
	if rest, is := strings.CutPrefix(s, `"`); is {
		return literalIn(rest)
	}
	return api.Term{}
}

// literalIn is the literal that stands behind a ".
func literalIn(s string) api.Term {
	// Neither a tag nor a type has a raw one: the last one ends the literal.
	end := strings.LastIndexByte(s, '"')
	if end < 0 {
		return api.Term{}
	}
	text, behind := unescaped(s[:end], literalEscape), s[end+1:]
	if iri, is := strings.CutPrefix(behind, "^^<"); is {
		return Typed(text, iriIn(iri))
	}
	return Tagged(text, strings.TrimPrefix(behind, "@"))
}

// iriIn is the IRI that stands behind a <.
func iriIn(s string) string {
	return unescaped(strings.TrimSuffix(s, ">"), iriEscape)
}

// unescaped is a text without its escapes: the sign of each is told by what stands behind its \, and how many bytes of that are the escape's.
func unescaped(s string, escape func(behind string) (sign rune, size int)) string {
	var w writer
	for {
		ahead, behind, more := strings.Cut(s, `\`)
		w.pieces(ahead)
		if !more {
			return w.String()
		}
		sign, size := escape(behind)
		w.WriteRune(sign)
		s = behind[size:]
	}
}

// literalEscape tells a literal's.
func literalEscape(behind string) (sign rune, size int) {
	if behind == "" {
		return 0, 0
	}
	switch behind[0] {
	case 'n':
		return '\n', 1
	case 'r':
		return '\r', 1
	}
	return rune(behind[0]), 1
}

// iriEscape tells an IRI's.
func iriEscape(behind string) (sign rune, size int) {
	size = len("u0020")
	if len(behind) < size {
		return 0, 0
	}
	n, err := strconv.ParseUint(behind[1:size], 16, 16)
	if err != nil {
		return 0, 0
	}
	return rune(n), size
}

package lines_test

import (
	"slices"
	"strings"
	"testing"

	"ossuary/api"
	"ossuary/lex"
	"ossuary/lines"
	"ossuary/term"
)

const xsdString = "http://www.w3.org/2001/XMLSchema#string"

// What triples and objects are, as the chapter tells them: a letter for each token, in the order of their kinds' numbers.
const letters = " IBXTCD"

var (
	objectForms = []string{"I", "B", "X", "XT", "XCI"}
	tripleForms = allForms()
	lineForms   = append([]string{""}, tripleForms...)
)

func allForms() []string {
	var forms []string
	for _, object := range objectForms {
		forms = append(forms, "II"+object+"D", "BI"+object+"D")
	}
	return forms
}

// linesOf are a text's, as the chapter tells them.
func linesOf(s string) []string {
	all := strings.Split(strings.NewReplacer("\r\n", "\n", "\r", "\n").Replace(s), "\n")
	if last := len(all) - 1; all[last] == "" {
		return all[:last]
	}
	return all
}

// fitOf is the row of letters of a text's tokens, if it is one of some forms; else where the text can't go on to be one.
func fitOf(s string, forms []string) (tokens []lex.Token, form string, at int, e api.Errno) {
	tokens, at, e = lex.Line(s)
	if e != api.OK {
		return nil, "", at, e
	}
	for _, token := range tokens {
		form += letters[token.Kind : token.Kind+1]
		if !slices.ContainsFunc(forms, func(whole string) bool { return strings.HasPrefix(whole, form) }) {
			return nil, "", token.At, api.ErrSyntax
		}
	}
	if !slices.Contains(forms, form) {
		return nil, "", len(s), api.ErrSyntax
	}
	return tokens, form, 0, api.OK
}

// termOf is the term of tokens that are of one of an object's forms.
func termOf(tokens []lex.Token, form string) api.Term {
	text := tokens[0].Text
	switch form {
	case "I":
		return api.Term{Kind: api.TermIri, Text: text}
	case "B":
		return api.Term{Kind: api.TermBlank, Text: text}
	case "XT":
		return api.Term{Kind: api.TermLiteral, Text: text, Lang: strings.ToLower(tokens[1].Text)}
	case "XCI":
		if tokens[2].Text != xsdString {
			return api.Term{Kind: api.TermTyped, Text: text, Type: tokens[2].Text}
		}
	}
	return api.Term{Kind: api.TermLiteral, Text: text}
}

// isLong says whether a term's text is too long.
func isLong(t api.Term) bool {
	_, e := term.Show(t)
	return e == api.ErrLong
}

// objectOf is the term that a text is, or where it is none, as the chapter tells it.
func objectOf(s string) (t api.Term, at int, e api.Errno) {
	tokens, form, at, e := fitOf(s, objectForms)
	if e != api.OK {
		return t, at, e
	}
	if t = termOf(tokens, form); isLong(t) {
		return api.Term{}, 0, api.ErrLong
	}
	return t, 0, api.OK
}

// fileOf are a file's triples, or its first line that is none, as the chapter tells them.
func fileOf(s string) (triples []api.Triple, line, at int, e api.Errno) {
	if len(s) > 1048576 {
		return nil, 0, 0, api.ErrLong
	}
	long := 0
	for i, text := range linesOf(s) {
		tokens, form, at, e := fitOf(text, lineForms)
		if e != api.OK {
			return nil, i + 1, at, e
		}
		if form == "" {
			continue
		}
		t := api.Triple{S: termOf(tokens[:1], form[:1]), P: termOf(tokens[1:2], form[1:2]), O: termOf(tokens[2:], form[2:len(form)-1])}
		if long == 0 && (isLong(t.S) || isLong(t.P) || isLong(t.O)) {
			long = i + 1
		}
		triples = append(triples, t)
	}
	if long > 0 {
		return nil, long, 0, api.ErrLong
	}
	return triples, 0, 0, api.OK
}

// short is a text of which not too much is told.
func short(s string) string { return s[:min(len(s), 200)] }

// tells says that a file has these triples, or has a line that is none.
func tells(t *testing.T, s string, triples []api.Triple, line, at int, e api.Errno) {
	t.Helper()
	gotTriples, gotLine, gotAt, gotE := lines.Parse(s)
	if !slices.Equal(gotTriples, triples) || gotLine != line || gotAt != at || gotE != e {
		t.Fatalf("%q: %d triples, line %d, at %d, error %d, not %d triples, line %d, at %d, error %d", short(s), len(gotTriples), gotLine, gotAt, gotE, len(triples), line, at, e)
	}
	for _, one := range gotTriples {
		if !term.Triple(one) {
			t.Fatalf("%q: %#v may not be", short(s), one)
		}
	}
}

// has says that a file has these triples.
func has(t *testing.T, s string, triples ...api.Triple) {
	t.Helper()
	tells(t, s, triples, 0, 0, api.OK)
	holds(t, s)
}

// hasNot says that a file has a line that is none.
func hasNot(t *testing.T, s string, line, at int, e api.Errno) {
	t.Helper()
	tells(t, s, nil, line, at, e)
	holds(t, s)
}

// holds says that a file has what it should have.
func holds(t *testing.T, s string) {
	t.Helper()
	triples, line, at, e := fileOf(s)
	tells(t, s, triples, line, at, e)
}

// isTerm says that a text is this term, or is none.
func isTerm(t *testing.T, s string, want api.Term, at int, e api.Errno) {
	t.Helper()
	got, gotAt, gotE := lines.Term(s)
	if got != want || gotAt != at || gotE != e {
		t.Fatalf("%q: %.200v at %d, error %d, not %.200v at %d, error %d", short(s), got, gotAt, gotE, want, at, e)
	}
	if e == api.OK && !term.Right(got) {
		t.Fatalf("%q: %#v is not right", short(s), got)
	}
}

// termHolds says that a text is the term that it should be.
func termHolds(t *testing.T, s string) {
	t.Helper()
	want, at, e := objectOf(s)
	isTerm(t, s, want, at, e)
}

// allTexts goes through all texts of up to n of some pieces.
func allTexts(n int, pieces ...string) func(func(string) bool) {
	return func(yield func(string) bool) {
		var goOn func(s string, n int) bool
		goOn = func(s string, n int) bool {
			if !yield(s) {
				return false
			}
			for i := 0; n > 0 && i < len(pieces); i++ {
				if !goOn(s+pieces[i], n-1) {
					return false
				}
			}
			return true
		}
		goOn("", n)
	}
}

// chances are numbers that look like chance and are the same each time.
type chances uint64

func (c *chances) below(n int) int {
	*c = *c*6364136223846793005 + 1442695040888963407
	return int(uint64(*c)>>33) % n
}

// some is one of some pieces.
func (c *chances) some(pieces ...string) string { return pieces[c.below(len(pieces))] }

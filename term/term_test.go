package term_test

import (
	"fmt"
	"math"
	"regexp"
	"strings"
	"testing"
	"unicode/utf8"

	"ossuary/api"
	"ossuary/term"
)

const xsdString = "http://www.w3.org/2001/XMLSchema#string"

// chances are numbers that look like chance and are the same each time.
type chances uint64

func (c *chances) below(n int) int {
	*c = *c*6364136223846793005 + 1442695040888963407
	return int(uint64(*c)>>33) % n
}

// one is one of some.
func one[T any](c *chances, of []T) T { return of[c.below(len(of))] }

// text is one of up to n signs, out of some.
func (c *chances) text(n int, signs string) string {
	var b strings.Builder
	for range c.below(n + 1) {
		b.WriteRune(one(c, []rune(signs)))
	}
	return b.String()
}

// notRaw are the signs above 0x20 that may not stand raw in an IRI.
const notRaw = "<>\"{}|^`\\"

// Labels and tags, as chapter 7 tells them.
const (
	firstLetters = `A-Za-z\x{C0}-\x{D6}\x{D8}-\x{F6}\x{F8}-\x{2FF}\x{370}-\x{37D}\x{37F}-\x{1FFF}\x{200C}-\x{200D}\x{2070}-\x{218F}\x{2C00}-\x{2FEF}\x{3001}-\x{D7FF}\x{F900}-\x{FDCF}\x{FDF0}-\x{FFFD}\x{10000}-\x{EFFFF}`
	opens        = firstLetters + `_:0-9`
	letters      = opens + `\-\x{B7}\x{300}-\x{36F}\x{203F}-\x{2040}`
	label        = `[` + opens + `]([` + letters + `.]*[` + letters + `])?`
	lowTag       = `[a-z]+(-[a-z0-9]+)*`
)

var (
	wholeLabel  = regexp.MustCompile(`^` + label + `$`)
	wholeLowTag = regexp.MustCompile(`^` + lowTag + `$`)
)

// isRight says whether a term is right, as the chapter tells it.
func isRight(t api.Term) bool {
	text, lang, iri := utf8.ValidString(t.Text), utf8.ValidString(t.Lang), utf8.ValidString(t.Type)
	if !text || !lang || !iri {
		return false
	}
	switch t.Kind {
	case api.TermIri:
		return t.Lang == "" && t.Type == ""
	case api.TermBlank:
		return t.Lang == "" && t.Type == "" && wholeLabel.MatchString(t.Text)
	case api.TermLiteral:
		return t.Type == "" && (t.Lang == "" || wholeLowTag.MatchString(t.Lang))
	case api.TermTyped:
		return t.Lang == "" && t.Type != xsdString
	}
	return false
}

// asIri is a text written as an IRI, as the chapter tells it.
func asIri(s string) string {
	var written strings.Builder
	for _, sign := range s {
		if sign <= 0x20 || strings.ContainsRune(notRaw, sign) {
			fmt.Fprintf(&written, `\u%04X`, sign)
		} else {
			written.WriteRune(sign)
		}
	}
	return written.String()
}

// asLiteral is a text written as a literal, as the chapter tells it.
func asLiteral(s string) string {
	s = strings.ReplaceAll(s, `\`, `\\`)
	s = strings.ReplaceAll(s, `"`, `\"`)
	s = strings.ReplaceAll(s, "\n", `\n`)
	return strings.ReplaceAll(s, "\r", `\r`)
}

// textOf is a right term's text, as the chapter tells it.
func textOf(t api.Term) string {
	switch {
	case t.Kind == api.TermIri:
		return "<" + asIri(t.Text) + ">"
	case t.Kind == api.TermBlank:
		return "_:" + t.Text
	case t.Kind == api.TermTyped:
		return `"` + asLiteral(t.Text) + `"^^<` + asIri(t.Type) + ">"
	case t.Lang != "":
		return `"` + asLiteral(t.Text) + `"@` + t.Lang
	}
	return `"` + asLiteral(t.Text) + `"`
}

// shows says that a right term has this text, and is what is meant by it.
func shows(t *testing.T, x api.Term, want string) {
	t.Helper()
	if s, e := term.Show(x); s != want || e != api.OK {
		t.Fatalf("%#v: %q, not %q, error %d", x, s, want, e)
	}
	if y, e := term.Parse(want); y != x || e != api.OK {
		t.Fatalf("%q: %#v, not %#v, error %d", want, y, x, e)
	}
	if !term.Right(x) {
		t.Fatalf("%#v is not right", x)
	}
}

// showsNot says that a term has no text, by this error.
func showsNot(t *testing.T, x api.Term, want api.Errno) {
	t.Helper()
	if s, e := term.Show(x); s != "" || e != want {
		t.Fatalf("%#v: %q, error %d, not %d", x, s, e, want)
	}
	if term.Right(x) != (want != api.ErrArg) {
		t.Fatalf("%#v: right %v", x, term.Right(x))
	}
}

// holds says that a term is right, and shown, just if it should be.
func holds(t *testing.T, x api.Term) {
	t.Helper()
	switch {
	case !isRight(x):
		showsNot(t, x, api.ErrArg)
	case len(textOf(x)) > api.MaxTerm:
		showsNot(t, x, api.ErrLong)
	default:
		shows(t, x, textOf(x))
	}
}

// The chapter's examples.
func TestExamples(t *testing.T) {
	shows(t, term.Iri("a b"), `<a\u0020b>`)
	shows(t, term.Tagged(`a"b`, "En"), `"a\"b"@en`)
}

// P8.1: the calls that make terms, of what is right and of what is not.
func TestMade(t *testing.T) {
	for _, s := range []string{"", "a", "a b", "En", "a.", "\xFF", "\xC3\x89", xsdString} {
		for i, c := range []struct{ got, want api.Term }{
			{term.Iri(s), api.Term{Kind: api.TermIri, Text: s}},
			{term.Blank(s), api.Term{Kind: api.TermBlank, Text: s}},
			{term.Literal(s), api.Term{Kind: api.TermLiteral, Text: s}},
			{term.Tagged(s, "en"), api.Term{Kind: api.TermLiteral, Text: s, Lang: "en"}},
			{term.Tagged(s, ""), api.Term{Kind: api.TermLiteral, Text: s}},
			{term.Typed(s, "A b"), api.Term{Kind: api.TermTyped, Text: s, Type: "A b"}},
			{term.Typed(s, ""), api.Term{Kind: api.TermTyped, Text: s}},
			{term.Typed(s, "\xFF"), api.Term{Kind: api.TermTyped, Text: s, Type: "\xFF"}},
			{term.Typed(s, xsdString), api.Term{Kind: api.TermLiteral, Text: s}},
			{term.Typed(s, xsdString+"s"), api.Term{Kind: api.TermTyped, Text: s, Type: xsdString + "s"}},
			{term.Typed(s, xsdString[1:]), api.Term{Kind: api.TermTyped, Text: s, Type: xsdString[1:]}},
			{term.Typed(s, strings.ToLower(xsdString)), api.Term{Kind: api.TermTyped, Text: s, Type: strings.ToLower(xsdString)}},
		} {
			if c.got != c.want {
				t.Errorf("%d: %#v, not %#v", i, c.got, c.want)
			}
		}
	}
}

// P8.1: A to Z of a tag are a to z; nothing else is changed, be it a tag or not.
func TestTaggedLow(t *testing.T) {
	for n := range 256 {
		b := []byte{'x', byte(n), 'X'}
		low := []byte{'x', byte(n), 'x'}
		if n >= 'A' && n <= 'Z' {
			low[1] = byte(n - 'A' + 'a')
		}
		want := api.Term{Kind: api.TermLiteral, Text: "TEXT", Lang: string(low)}
		if got := term.Tagged("TEXT", string(b)); got != want {
			t.Errorf("%#v, not %#v", got, want)
		}
	}
	for lang, low := range map[string]string{
		"EN-us-1A": "en-us-1a", "\u00C9\u0130\u212AK": "\u00C9\u0130\u212Ak", "A\xFFB\xC3": "a\xFFb\xC3", "A\uFFFDB": "a\uFFFDb", "@[`{AZ": "@[`{az", "\xED\xA0\x80Q": "\xED\xA0\x80q",
	} {
		if got := term.Tagged("", lang); got != (api.Term{Kind: api.TermLiteral, Lang: low}) {
			t.Errorf("%q: %#v", lang, got)
		}
	}
}

// noLabels and noTags are none, whole.
var (
	noLabels = []string{"", ".", "-", "-a", "\u00B7a", ".a", "a.", "a..", "a.b.", "a b", " a", "a ", "a\n", "a\x00", "a\xFF", "\xFFa", "a\xC3", "a@", "a\u00D7", "a/b", "<a>", "_:a b"}
	noTags   = []string{" ", "1", "1a", "-", "-en", "en-", "en--us", "en-us-", "en_us", "en us", " en", "en ", "e1", "e.n", "\u00E9", "en-\u00E9", "\xFF", "en\xFF", "en\n", "@en"}
)

// P8.1, P8.2: what is right, and what is not, out of all that may stand together.
func TestRight(t *testing.T) {
	kinds := []api.TermKind{api.TermIri, api.TermBlank, api.TermLiteral, api.TermTyped, 0, 5, 6, -1, -3, 1<<32 + 1, math.MinInt, math.MaxInt}
	texts := append([]string{"a", "a.b", "a-", "_", ":", "0", "en", "EN", "\u00E9\u00B7", "\U000EFFFF", "\uFFFD", "a\xC0\x80", "\xED\xA0\x80", xsdString, `"\` + "\n\r\t"}, noLabels...)
	langs := append([]string{"", "en", "en-us", "a-1-b2", "EN", "en-US", "eN", "en-u"}, noTags...)
	types := []string{"", "t", "T u", "\xFF", "t\xC3", "\u00E9", xsdString, xsdString + "#", xsdString[:len(xsdString)-1], strings.ToUpper(xsdString), "http://www.w3.org/2001/XMLSchema#integer"}
	for _, kind := range kinds {
		for _, text := range texts {
			for _, lang := range langs {
				for _, iri := range types {
					holds(t, api.Term{Kind: kind, Text: text, Lang: lang, Type: iri})
				}
			}
		}
	}
}

// P8.1, P8.2: signs in each place: those of one byte, and many others; and each byte that is no sign's.
func TestEachSign(t *testing.T) {
	const step = 17
	for n := rune(0); n <= utf8.MaxRune; n++ {
		if n > 0x7F && n%step != 0 || !utf8.ValidRune(n) {
			continue
		}
		s := string(n)
		holds(t, term.Iri(s))
		holds(t, term.Blank("a"+s+"b"))
		holds(t, term.Literal("a"+s))
		holds(t, term.Typed(s, s+"a"))
		holds(t, api.Term{Kind: api.TermLiteral, Text: s, Lang: "a" + s})
	}
	for n := 0x80; n < 0x100; n++ {
		s := string([]byte{byte(n)})
		for _, x := range []api.Term{term.Iri(s), term.Iri("a" + s), term.Blank("a" + s), term.Literal(s), term.Literal(s + "a"), term.Tagged(s, "en"), term.Tagged("a", "en"+s), term.Typed(s, "t"), term.Typed("a", s), term.Typed("a", "t"+s)} {
			showsNot(t, x, api.ErrArg)
		}
	}
}

// P8.2: what is written with escapes, and how.
func TestEscapes(t *testing.T) {
	shows(t, term.Iri("\x00\t\n\r\x1F !\x7F\u0080"), `<\u0000\u0009\u000A\u000D\u001F\u0020!`+"\x7F\u0080>")
	shows(t, term.Iri("<>\"{}|^`\\'#%"), `<\u003C\u003E\u0022\u007B\u007D\u007C\u005E\u0060\u005C'#%>`)
	shows(t, term.Iri(`\u0020`), `<\u005Cu0020>`)
	shows(t, term.Literal("\"\\\n\r"), `"\"\\\n\r"`)
	shows(t, term.Literal("\x00\t\b\f '<>\x7F\u0080"), "\"\x00\t\b\f '<>\x7F\u0080\"")
	shows(t, term.Literal(`\n\\n`), `"\\n\\\\n"`)
	shows(t, term.Literal(`"@en`), `"\"@en"`)
	shows(t, term.Literal(`"^^<t>`), `"\"^^<t>"`)
	shows(t, term.Tagged(`"^^<t>`, "en"), `"\"^^<t>"@en`)
	shows(t, term.Typed(`"^^<t>`, `"@en`), `"\"^^<t>"^^<\u0022@en>`)
	shows(t, term.Typed("\n", "\n"), `"\n"^^<\u000A>`)
	shows(t, term.Typed("", ""), `""^^<>`)
	shows(t, term.Tagged("", "a"), `""@a`)
	shows(t, term.Blank("_:a"), `_:_:a`)
}

// P8.2: texts of MaxTerm bytes, and of one more.
func TestLong(t *testing.T) {
	fill := func(n int) string { return strings.Repeat("a", n) }
	for i, made := range []struct {
		has int // bytes beside those filled in
		by  func(filled string) api.Term
	}{
		{2, term.Iri},
		{2 + 6, func(s string) api.Term { return term.Iri(s + " ") }},
		{2 + 4, func(s string) api.Term { return term.Iri("\U00010000" + s) }},
		{2, term.Blank},
		{2, term.Literal},
		{2 + 4, func(s string) api.Term { return term.Literal("\n" + s + "\"") }},
		{3, func(s string) api.Term { return term.Tagged("", s) }},
		{5, func(s string) api.Term { return term.Tagged(s, "EN") }},
		{6, func(s string) api.Term { return term.Typed(s, "") }},
		{6 + 2 + 6, func(s string) api.Term { return term.Typed("\\", s+"\\") }},
	} {
		most := made.by(fill(api.MaxTerm - made.has))
		if s, e := term.Show(most); len(s) != api.MaxTerm || e != api.OK {
			t.Errorf("%d: %d bytes, error %d", i, len(s), e)
		}
		holds(t, most)
		for _, more := range []int{1, 2, 5000, 1 << 20} {
			x := made.by(fill(api.MaxTerm - made.has + more))
			showsNot(t, x, api.ErrLong)
			if y, e := term.Parse(textOf(x)); y != (api.Term{}) || e != api.ErrLong {
				t.Errorf("%d: %d, error %d", i, y.Kind, e)
			}
		}
	}
}

// P8.2: of several errors the first one.
func TestErrorsInOrder(t *testing.T) {
	long := strings.Repeat("a", 5000)
	for _, x := range []api.Term{{Text: long}, {Kind: 5, Text: long}, term.Iri(long + "\xFF"), {Kind: api.TermIri, Text: long, Lang: "en"}, term.Blank(long + "."), term.Tagged(long, "1"), {Kind: api.TermLiteral, Text: "a", Lang: long + "A"}, term.Typed(long, "\xFF"), {Kind: api.TermTyped, Text: long, Type: xsdString}} {
		showsNot(t, x, api.ErrArg)
	}
	for _, s := range []string{long, "<" + long, "\xFF" + long, "\"" + long, long + ">", "_:" + long + ".", strings.Repeat(" ", api.MaxTerm+1)} {
		if x, e := term.Parse(s); x != (api.Term{}) || e != api.ErrLong {
			t.Errorf("%q: %#v, error %d", s[:5], x, e)
		}
	}
	parses(t, strings.Repeat("a", api.MaxTerm))
	parses(t, "<"+strings.Repeat(" ", api.MaxTerm-2)+">")
}

// P8.1: a triple may be, if its three terms may stand where they do.
func TestTriple(t *testing.T) {
	iri := []api.Term{term.Iri("a"), term.Iri(""), term.Iri(strings.Repeat("a", 5000))}
	blank := []api.Term{term.Blank("a"), term.Blank("a.b")}
	literal := []api.Term{term.Literal(""), term.Tagged("a", "en"), term.Typed("a", "t")}
	wrong := []api.Term{{}, {Kind: 5, Text: "a"}, term.Iri("\xFF"), {Kind: api.TermIri, Text: "a", Type: "t"}, term.Blank(""), term.Blank("a."), term.Literal("\xFF"), term.Tagged("a", "1"), {Kind: api.TermTyped, Type: xsdString}}
	all := [][]api.Term{iri, blank, literal, wrong}
	for i, subjects := range all {
		for k, predicates := range all {
			for l, objects := range all {
				want := i < 2 && k < 1 && l < 3
				for _, s := range subjects {
					for _, p := range predicates {
						for _, o := range objects {
							if got := term.Triple(api.Triple{S: s, P: p, O: o}); got != want {
								t.Fatalf("%v %v %v: %v", s.Kind, p.Kind, o.Kind, got)
							}
						}
					}
				}
			}
		}
	}
}

package term_test

import (
	"regexp"
	"strings"
	"testing"
	"unicode/utf8"

	"ossuary/api"
	"ossuary/term"
)

// What texts are, as the chapter tells them.
const (
	iriText     = "<([^\\x00-\\x20<>\"{}|^`\\\\]|\\\\u00([01][0-9A-F]|2[02]|3[CE]|5[CE]|60|7[BCD]))*>"
	literalText = `"([^"\\\n\r]|\\["\\nr])*"`
)

var wholeText = regexp.MustCompile(`^(` + iriText + `|_:` + label + `|` + literalText + `|` + literalText + `@` + lowTag + `|` + literalText + `\^\^` + iriText + `)$`)

// isText says whether it is a right term's.
func isText(s string) bool {
	return utf8.ValidString(s) && wholeText.MatchString(s) && !strings.HasSuffix(s, `"^^<`+xsdString+`>`)
}

// parses says that a text is parsed just if it is a right term's, and as the one whose text it is.
func parses(t *testing.T, s string) {
	t.Helper()
	x, e := term.Parse(s)
	if !isText(s) {
		if x != (api.Term{}) || e != api.ErrSyntax {
			t.Fatalf("%q: %#v, error %d", s, x, e)
		}
		return
	}
	if e != api.OK || !isRight(x) || textOf(x) != s {
		t.Fatalf("%q: %#v, error %d", s, x, e)
	}
	shows(t, x, s)
}

// allTexts goes through all texts of up to n of some pieces.
func allTexts(n int, pieces ...string) func(func(string) bool) {
	return func(yield func(string) bool) {
		var goOn func(s string, n int) bool
		goOn = func(s string, n int) bool {
			if !yield(s) {
				return false
			}
			for i := 0; n > 0 && i < len(pieces); i++ {
				if !goOn(s+pieces[i], n-1) {
					return false
				}
			}
			return true
		}
		goOn("", n)
	}
}

// signsOf are a text's, one by one.
func signsOf(s string) []string { return strings.Split(s, "") }

// P8.2: all short texts.
func TestAllShortTexts(t *testing.T) {
	for _, c := range []struct {
		ahead string
		n     int
		signs string
	}{
		{"", 5, `<>"_:a@^\`},
		{"<", 7, `>\u02E`},
		{`<\u00`, 4, `0123456789ABCDEFabcf>g `},
		{`"`, 6, `"\n@-a^`},
		{`"`, 5, `"\nrtbu'` + "\n"},
		{`"a"`, 6, `^<>"@e`},
		{`"a"^^<`, 5, `>\u02"`},
		{`"a"@`, 6, `eZ-0."`},
		{"_:", 6, "a.-_:0 \u00E9"},
	} {
		for s := range allTexts(c.n, signsOf(c.signs)...) {
			parses(t, c.ahead+s)
		}
	}
}

// P8.2: each escape of an IRI; all others than those that must be are none.
func TestAllIriEscapes(t *testing.T) {
	const digits = "0123456789ABCDEF"
	for n := range 1 << 16 {
		escape := `\u` + digits[n>>12:n>>12+1] + digits[n>>8&15:n>>8&15+1] + digits[n>>4&15:n>>4&15+1] + digits[n&15:n&15+1]
		parses(t, "<"+escape+">")
		parses(t, "<"+strings.ToLower(escape)+">")
		if n < 0x100 {
			for _, other := range []string{strings.ToUpper(escape), `\U0000` + escape[2:], escape[:5], escape + "0", `\` + escape, `\x` + escape[4:], `\u+0` + escape[4:], `\u0_` + escape[4:], `"a"^^<` + escape} {
				parses(t, "<"+other+">")
				parses(t, other+">")
			}
			parses(t, `"`+escape+`"`)
		}
	}
	for n := range 256 {
		behind := string([]byte{byte(n)})
		parses(t, `"\`+behind+`"`)
		parses(t, `"a\`+behind+`b"@en`)
		parses(t, `<\`+behind+`>`)
	}
}

// P8.2: texts in which one byte is another one, is left out, or stands there more.
func TestOneByteOther(t *testing.T) {
	for _, s := range []string{
		`<>`, `<http://a/b>`, `<a\u0020b\u007D>`, "<\u00E9\u20AC\U00010000>", `_:a`, `_:a.b-c`, "_:\u00E9.\u00B7", `""`, `"a"`, `"a\"b\\c\nd\re"`, "\"\u00E9\"@en-us", `"\\"@en`, `"a"@e`, `"5"^^<>`, `"5\""^^<t\u0022u>`, `"a"^^<http://www.w3.org/2001/XMLSchema#integer>`,
		`"a"^^<http://www.w3.org/2001/XMLSchema#string>`,
	} {
		parses(t, s)
		for at := range len(s) + 1 {
			parses(t, s[:at])
			parses(t, s[at:])
			parses(t, s[:at]+s[min(at+1, len(s)):])
			for n := range 256 {
				b := string([]byte{byte(n)})
				parses(t, s[:at]+b+s[at:])
				parses(t, s[:at]+b+s[min(at+1, len(s)):])
			}
		}
	}
}

// P8.2: what is more than one term, or not whole.
func TestMoreThanOneTerm(t *testing.T) {
	terms := []string{"", "<a>", "_:a", `"a"`, `"a"@en`, `"a"^^<t>`, " ", ".", "#", "\n", "^^", "@en", `\`, "<", ">", `"`, "_:", "^^<t>", "^^_:a", `^^"a"`, "\xEF\xBB\xBF", "a"}
	for s := range allTexts(3, terms...) {
		parses(t, s)
	}
}

// P8.2, P8.4: what is shown is parsed, and shown the same.
func TestShownIsParsed(t *testing.T) {
	c := chances(1)
	const signs = "ab<>\"\\\n\r\t \u0000^|n\u00E9\u20AC\uFFFD\U0010FFFF@_:.-u02"
	makers := []func() api.Term{
		func() api.Term { return term.Iri(c.text(9, signs)) },
		func() api.Term { return term.Blank(c.text(5, "ab_:.-0\u00E9\u00B7")) },
		func() api.Term { return term.Literal(c.text(9, signs)) },
		func() api.Term { return term.Tagged(c.text(9, signs), c.text(5, "aBZ-0")) },
		func() api.Term { return term.Typed(c.text(9, signs), c.text(9, signs)) },
	}
	met := map[string]api.Term{}
	for range 100_000 {
		x := one(&c, makers)()
		holds(t, x)
		s, e := term.Show(x)
		if e != api.OK {
			continue
		}
		if other, is := met[s]; is && other != x {
			t.Fatalf("%q: %#v and %#v", s, x, other)
		}
		met[s] = x
	}
}

// R1: whatever bytes there are, the calls end.
func TestAnyBytes(t *testing.T) {
	c := chances(2)
	bytes := "<>\"\\@^_:u00\n\xC3\xA9\xFF\x80"
	some := func() string {
		b := make([]byte, c.below(9))
		for i := range b {
			b[i] = bytes[c.below(len(bytes))]
		}
		return string(b)
	}
	for range 100_000 {
		parses(t, some())
		parses(t, "<"+some()+">")
		parses(t, `"`+some()+`"`)
		parses(t, `"`+some()+`"^^<`+some()+">")
		x := api.Term{Kind: api.TermKind(c.below(6)), Text: some()}
		if c.below(2) == 0 {
			x.Lang = some()
		}
		if c.below(2) == 0 {
			x.Type = some()
		}
		holds(t, x)
	}
}

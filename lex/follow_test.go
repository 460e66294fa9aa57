package lex_test

import (
	"slices"
	"strings"
	"testing"

	"ossuary/api"
	"ossuary/lex"
)

// someLine is a line that has tokens, of all kinds, with blanks and without, and no remark.
func someLine(c *chances) (string, []lex.Token) {
	for {
		s := c.text(12, "<a>", `<\u0020#>`, "<\u00E9>", `"b"`, `"# \" '"`, `""`, "_:c", "_:d.e", "_:\u00E9", "@en", "@EN-1", "^^", ".", " ", "\t")
		if tokens, _, e := lineOf(s); e == api.OK {
			return s, tokens
		}
	}
}

// P9.2: blanks more between tokens change nothing but places.
func TestBlanksMore(t *testing.T) {
	c := chances(2)
	for range 20_000 {
		s, tokens := someLine(&c)
		var more strings.Builder
		from := 0
		for i, token := range tokens {
			more.WriteString(s[from:token.At])
			more.WriteString(c.text(3, " ", "\t"))
			from = token.At
			tokens[i].At = more.Len()
		}
		more.WriteString(s[from:])
		more.WriteString(c.text(3, " ", "\t"))
		has(t, more.String(), tokens...)
	}
}

// P9.2: tokens, with blanks between them, are just these tokens.
func TestTokensAmongBlanks(t *testing.T) {
	c := chances(3)
	written := map[string]lex.Token{
		`<a\u003Eb>`: {Kind: lex.Iri, Text: "a>b"}, "<>": {Kind: lex.Iri}, "_:a.b": {Kind: lex.Blank, Text: "a.b"}, "_::": {Kind: lex.Blank, Text: ":"},
		`"a\"b\n"`: {Kind: lex.Text, Text: "a\"b\n"}, `" # "`: {Kind: lex.Text, Text: " # "}, "@en": {Kind: lex.Tag, Text: "en"}, "@x-1": {Kind: lex.Tag, Text: "x-1"}, "^^": {Kind: lex.Caret}, ".": {Kind: lex.Dot},
	}
	ways := make([]string, 0, len(written))
	for way := range written {
		ways = append(ways, way)
	}
	slices.Sort(ways)
	for range 20_000 {
		var tokens []lex.Token
		line := c.text(2, " ", "\t")
		for range c.below(9) {
			way := ways[c.below(len(ways))]
			token := written[way]
			token.At = len(line)
			tokens = append(tokens, token)
			line += way + c.text(1, "\t", " ") + c.text(3, " ") + " "
		}
		has(t, line, tokens...)
	}
}

// P9.2: a remark behind tokens changes nothing.
func TestRemarks(t *testing.T) {
	c := chances(4)
	for range 20_000 {
		s, tokens := someLine(&c)
		remark := "#" + c.text(6, "<", ">", `"`, "a", "\\", "#", " ", "\n", "\r", "\x00", "\u00E9", ".")
		has(t, s+remark, tokens...)
		has(t, s+" "+remark, tokens...)
	}
}

// P9.2: a # that belongs to a token begins no remark.
func TestNoRemarks(t *testing.T) {
	has(t, "<#a>", lex.Token{Kind: lex.Iri, Text: "#a"})
	has(t, `"a#"`, lex.Token{Kind: lex.Text, Text: "a#"})
	has(t, `"a # "#"`, lex.Token{Kind: lex.Text, Text: "a # "})
	hasNot(t, "<#a", 0)
	hasNot(t, `"#`, 0)
	hasNot(t, "_:#", 0)
	hasNot(t, "@#", 0)
	hasNot(t, "^#^", 0)
}

// R3, R4: what is answered is new memory, and alike each time.
func TestSharesNothing(t *testing.T) {
	const s = `<a> _:b "c"@en^^.`
	for range 2 {
		holds(t, s)
		tokens, _, _ := lex.Line(s)
		clear(tokens[:cap(tokens)])
	}
}

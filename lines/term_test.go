package lines_test

import (
	"strings"
	"testing"

	"ossuary/api"
	"ossuary/term"
)

// P10.3: each kind of an object.
func TestTermKinds(t *testing.T) {
	for s, want := range map[string]api.Term{
		`<a>`:                                {Kind: api.TermIri, Text: "a"},
		`<>`:                                 {Kind: api.TermIri},
		`<a\u0020b>`:                         {Kind: api.TermIri, Text: "a b"},
		`<` + xsdString + `>`:                {Kind: api.TermIri, Text: xsdString},
		`_:a.b`:                              {Kind: api.TermBlank, Text: "a.b"},
		`""`:                                 {Kind: api.TermLiteral},
		`"a\t\"b\u00E9"`:                     {Kind: api.TermLiteral, Text: "a\t\"b\u00E9"},
		`"a"@en`:                             {Kind: api.TermLiteral, Text: "a", Lang: "en"},
		`"A"@EN-Us-1Z`:                       {Kind: api.TermLiteral, Text: "A", Lang: "en-us-1z"},
		`"a"  @en`:                           {Kind: api.TermLiteral, Text: "a", Lang: "en"},
		`"a"^^<T>`:                           {Kind: api.TermTyped, Text: "a", Type: "T"},
		`"a"^^<>`:                            {Kind: api.TermTyped, Text: "a"},
		`"a"^^<t\u003E>`:                     {Kind: api.TermTyped, Text: "a", Type: "t>"},
		"\"a\"\t^^ <t>":                      {Kind: api.TermTyped, Text: "a", Type: "t"},
		`"a"^^<` + xsdString + `>`:           {Kind: api.TermLiteral, Text: "a"},
		`"" ^^<\u0068` + xsdString[1:] + `>`: {Kind: api.TermLiteral},
		`"a"^^<` + xsdString + `s>`:          {Kind: api.TermTyped, Text: "a", Type: xsdString + "s"},
	} {
		for _, ahead := range []string{"", " ", "\t \t"} {
			for _, behind := range []string{"", " ", "\t ", "#", " # b", "# <c> .", "\t#\n<c>"} {
				isTerm(t, ahead+s+behind, want, 0, api.OK)
				termHolds(t, ahead+s+behind)
			}
		}
	}
}

// P10.3: what is no object, or is more than one.
func TestNoTerm(t *testing.T) {
	for _, c := range []struct {
		s  string
		at int
	}{
		{"", 0}, {"  ", 2}, {"\t# a", 4}, {"#", 1}, // the end: as many bytes as there are
		{".", 0}, {" @en", 1}, {"^^", 0}, {"^^<a>", 0}, {`@en "a"`, 0},
		{"<a> .", 4}, {"<a>.", 3}, {"<a><b>", 3}, {"<a> <b> <c> .", 4}, {"<a>@en", 3}, {"<a>^^<b>", 3}, {`<a>"b"`, 3}, {"<a> _:b", 4},
		{"_:a.", 3}, {"_:a <b>", 4}, {"_:a@en", 3}, {"_:a^^<b>", 3}, {`_:a"b"`, 3},
		{`"a".`, 3}, {`"a" <b>`, 4}, {`"a"_:b`, 3}, {`"a" "b"`, 4},
		{`"a"@en.`, 6}, {`"a"@en@en`, 6}, {`"a"@en^^<b>`, 6}, {`"a"@en "b"`, 7}, {`"a"@en <b>`, 7},
		{`"a"^^`, 5}, {`"a"^^ `, 6}, {`"a"^^ # <b>`, 11}, {`"a"^^^^<b>`, 5}, {`"a"^^"b"`, 5}, {`"a"^^_:b`, 5}, {`"a"^^@en`, 5}, {`"a"^^.`, 5},
		{`"a"^^<b>.`, 8}, {`"a"^^<b>@en`, 8}, {`"a"^^<b>^^<c>`, 8}, {`"a"^^<b> "c"`, 9}, {"\"\u00E9\" \"a\"", 5},
		{"<a b>", 0}, {" <a", 1}, {`"a`, 0}, {`"a"@`, 3}, {`"a"^<b>`, 3}, {"<a>\n", 3}, {"\r<a>", 0}, {"a", 0}, {". <a", 2}, {"<a> <b> \"c\\x\"", 8}, // lex.Line's
	} {
		isTerm(t, c.s, api.Term{}, c.at, api.ErrSyntax)
		termHolds(t, c.s)
	}
	for s, at := range map[string]int{"\xFF": 0, "<a>\xFF": 3, "<a> # \xC3": 6, ". . \"\xE2\x82\"": 5, "<a b> \x80": 6} {
		isTerm(t, s, api.Term{}, at, api.ErrChar)
		termHolds(t, s)
	}
}

// P10.3: all rows of up to five tokens.
func TestTermAllRows(t *testing.T) {
	for s := range allTexts(5, "<a> ", "_:bc ", `"d"`, "@en\t", "^^", ".", " ") {
		termHolds(t, s)
		termHolds(t, s+"# e")
	}
}

// P10.3: terms whose texts are as long as may be, and longer, by what they are, not by how they are written.
func TestTermLong(t *testing.T) {
	a := func(n int) string { return strings.Repeat("a", n) }
	for _, c := range []struct {
		ahead, behind string
		n             int // so many signs make 4096 bytes
		same          func(s string) api.Term
	}{
		{"<", ">", 4094, term.Iri},
		{"_:", "", 4094, term.Blank},
		{`"`, `"`, 4094, term.Literal},
		{`"`, `"@EN`, 4091, func(s string) api.Term { return term.Tagged(s, "en") }},
		{`"b"@x-`, "", 4090, func(s string) api.Term { return term.Tagged("b", "x-"+s) }},
		{`"`, `"^^<bc>`, 4088, func(s string) api.Term { return term.Typed(s, "bc") }},
		{`"bc"^^<`, `>`, 4088, func(s string) api.Term { return term.Typed("bc", s) }},
		{`"`, `"^^<` + xsdString + `>`, 4094, term.Literal},
		{`"\u0041`, `"`, 4093, func(s string) api.Term { return term.Literal("A" + s) }},
		{`<\u0020`, `>`, 4088, func(s string) api.Term { return term.Iri(" " + s) }},
		{`"\u000A\\\"`, `"`, 4088, func(s string) api.Term { return term.Literal("\n\\\"" + s) }},
		{"\"\u20AC", `"`, 4091, func(s string) api.Term { return term.Literal("\u20AC" + s) }},
		{strings.Repeat(" ", 1<<20) + `<`, `> # ` + a(9000), 4094, term.Iri},
	} {
		isTerm(t, c.ahead+a(c.n)+c.behind, c.same(a(c.n)), 0, api.OK)
		isTerm(t, c.ahead+a(c.n+1)+c.behind, api.Term{}, 0, api.ErrLong)
		isTerm(t, c.ahead+a(c.n+9000)+c.behind, api.Term{}, 0, api.ErrLong)
	}
	long := `<` + a(5000) + `>`
	isTerm(t, long+" .", api.Term{}, 5003, api.ErrSyntax)
	isTerm(t, long+" \xFF", api.Term{}, 5003, api.ErrChar)
	isTerm(t, `"a"^^`+long+"b", api.Term{}, 5007, api.ErrSyntax)
}

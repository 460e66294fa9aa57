package lines_test

import (
	"strings"
	"testing"

	"ossuary/api"
	"ossuary/lines"
	"ossuary/term"
)

// abc is a triple of a, b and an object.
func abc(object api.Term) api.Triple {
	return api.Triple{S: api.Term{Kind: api.TermIri, Text: "a"}, P: api.Term{Kind: api.TermIri, Text: "b"}, O: object}
}

// The chapter's examples.
func TestExamples(t *testing.T) {
	has(t, `<a> <b> "c"@EN .`, abc(api.Term{Kind: api.TermLiteral, Text: "c", Lang: "en"}))
	hasNot(t, `<a> <b> .`, 1, 8, api.ErrSyntax)
}

// P10.2: each kind of a triple.
func TestOneTriple(t *testing.T) {
	for s, want := range map[string]api.Triple{
		`<a> <b> <c> .`:                     abc(api.Term{Kind: api.TermIri, Text: "c"}),
		`<a><b><c>.`:                        abc(api.Term{Kind: api.TermIri, Text: "c"}),
		"\t<a>\t \t<b>  <c>\t.\t ":          abc(api.Term{Kind: api.TermIri, Text: "c"}),
		`<a> <b> _:c .`:                     abc(api.Term{Kind: api.TermBlank, Text: "c"}),
		`<a><b>_:c.`:                        abc(api.Term{Kind: api.TermBlank, Text: "c"}),
		`<a> <b> "c" .`:                     abc(api.Term{Kind: api.TermLiteral, Text: "c"}),
		`<a> <b> "c\n\u0022\r\\" .`:         abc(api.Term{Kind: api.TermLiteral, Text: "c\n\"\r\\"}),
		`<a> <b> "c"@EN-gb .`:               abc(api.Term{Kind: api.TermLiteral, Text: "c", Lang: "en-gb"}),
		`<a><b>"c"@en.`:                     abc(api.Term{Kind: api.TermLiteral, Text: "c", Lang: "en"}),
		`<a> <b> "c" @en.`:                  abc(api.Term{Kind: api.TermLiteral, Text: "c", Lang: "en"}),
		`<a> <b> "c"^^<d> .`:                abc(api.Term{Kind: api.TermTyped, Text: "c", Type: "d"}),
		"<a> <b> \"c\" ^^\t<d>.":            abc(api.Term{Kind: api.TermTyped, Text: "c", Type: "d"}),
		`<a> <b> "c"^^<> .`:                 abc(api.Term{Kind: api.TermTyped, Text: "c"}),
		`<a> <b> ""^^<` + xsdString + `>.`:  abc(api.Term{Kind: api.TermLiteral}),
		`_:a.b <> <\u003c\U0001F600> .`:     {S: api.Term{Kind: api.TermBlank, Text: "a.b"}, P: api.Term{Kind: api.TermIri}, O: api.Term{Kind: api.TermIri, Text: "<\U0001F600"}},
		`<> <` + xsdString + `> "\u00E9" .`: {S: api.Term{Kind: api.TermIri}, P: api.Term{Kind: api.TermIri, Text: xsdString}, O: api.Term{Kind: api.TermLiteral, Text: "\u00E9"}},
		`_:A <B> _:A .`:                     {S: api.Term{Kind: api.TermBlank, Text: "A"}, P: api.Term{Kind: api.TermIri, Text: "B"}, O: api.Term{Kind: api.TermBlank, Text: "A"}},
		`<a#b> <b#> "#" . # "`:              {S: api.Term{Kind: api.TermIri, Text: "a#b"}, P: api.Term{Kind: api.TermIri, Text: "b#"}, O: api.Term{Kind: api.TermLiteral, Text: "#"}},
	} {
		for _, behind := range []string{"", " ", "\t", "#", " # <a> <b> .", "\n", "\r", "\r\n", " #\n", "\n\n# a\r \t\n"} {
			has(t, s+behind, want)
		}
		has(t, " \r\n#\r\r"+s, want)
	}
}

// P10.2: files without triples.
func TestNoTriples(t *testing.T) {
	for _, s := range []string{"", " ", "\t", "\n", "\r", "\r\n", "\n\r", "#", "# <a> <b> .", "#\n#", " \t# \u00E9\r\n\t\n", "\n\n\n \n"} {
		has(t, s)
	}
}

// P10.2: triples stand in the order of their lines, such as stand twice, too.
func TestManyTriples(t *testing.T) {
	c, d := abc(api.Term{Kind: api.TermIri, Text: "c"}), abc(api.Term{Kind: api.TermLiteral, Text: "d"})
	has(t, "<a> <b> \"d\" .\n<a> <b> <c> .\n", d, c)
	has(t, "<a> <b> <c> .\r<a> <b> \"d\" .\r\n\n<a> <b> <c> . # e\n<a> <b> <c> .", c, d, c, c)
	hasNot(t, "<a> <b> <c> . <a> <b> \"d\" .", 1, 14, api.ErrSyntax)
	hasNot(t, "<a> <b>\n<c> .", 1, 7, api.ErrSyntax)
}

// P10.2: the first token with which a line can't go on to be a triple, or its end.
func TestNoTriple(t *testing.T) {
	for _, c := range []struct {
		s  string
		at int
	}{
		{".", 0}, {`"a" <b> <c> .`, 0}, {"@en", 0}, {"^^", 0}, {" \t. # a", 2},
		{"<a>", 3}, {"<a> ", 4}, {"<a> # b", 7}, {"_:a", 3}, {"<a> .", 4}, {"<a> _:b <c> .", 4}, {`<a> "b" <c> .`, 4}, {"<a>@en", 3}, {"<a>^^<b>", 3}, {"_:a. <b> <c> .", 3},
		{"<a> <b>", 7}, {"<a> <b>\t", 8}, {"<a> <b>#", 8}, {"<a> <b> .", 8}, {"<a> <b>@en .", 7}, {"<a> <b>^^<c> .", 7}, {"<\u00E9> <b> . .", 9},
		{"<a> <b> <c>", 11}, {"<a> <b> <c> # .", 15}, {"<a> <b> <c> <d> .", 12}, {"<a> <b> <c> _:d .", 12}, {`<a> <b> <c> "d" .`, 12}, {"<a> <b> <c>@en .", 11}, {"<a> <b> <c>^^<d> .", 11},
		{"<a> <b> _:c", 11}, {"<a> <b> _:c@en .", 11}, {"<a> <b> _:c^^<d> .", 11}, {"<a> <b> _:c <d> .", 12}, {"<a> <b> _:c _:d .", 12}, {`<a> <b> _:c "d" .`, 12},
		{`<a> <b> "c"`, 11}, {`<a> <b> "c" <d> .`, 12}, {`<a> <b> "c" _:d .`, 12}, {`<a> <b> "c" "d" .`, 12},
		{`<a> <b> "c"@en`, 14}, {`<a> <b> "c"@en@en .`, 14}, {`<a> <b> "c"@en^^<d> .`, 14}, {`<a> <b> "c"@en <d> .`, 15}, {`<a> <b> "c"@en _:d .`, 15}, {`<a> <b> "c"@en "d" .`, 15},
		{`<a> <b> "c"^^`, 13}, {`<a> <b> "c"^^ .`, 14}, {`<a> <b> "c"^^_:d .`, 13}, {`<a> <b> "c"^^"d" .`, 13}, {`<a> <b> "c"^^@en .`, 13}, {`<a> <b> "c"^^^^<d> .`, 13},
		{`<a> <b> "c"^^<d>`, 16}, {`<a> <b> "c"^^<d>@en .`, 16}, {`<a> <b> "c"^^<d>^^<e> .`, 16}, {`<a> <b> "c"^^<d> <e> .`, 17}, {`<a> <b> "c"^^<d> _:e .`, 17}, {`<a> <b> "c"^^<d> "e" .`, 17},
		{"<a> <b> <c> . .", 14}, {"<a> <b> <c> ..", 13}, {"<a> <b> <c> . <d>", 14}, {"<a> <b> <c> . _:d", 14}, {`<a> <b> <c> . "d"`, 14}, {"<a> <b> <c> . @en", 14}, {"<a> <b> <c> . ^^", 14}, {`<a> <b> "c" .@en`, 13}, {`<a> <b> "c" .^^<d>`, 13},
		{"a", 0}, {"<a> <b c> <d", 4}, {`<a> <b> "c`, 8}, {`<a> <b> "c\x" .`, 8}, {`<a> <b> "c"@ .`, 11}, {`<a> <b> "c"^<d> .`, 11}, {"<a> <b> <c> . d", 14}, {"<a> <b> <c> ,", 12}, // lex.Line's
		{`. . "a`, 4}, {"<a> . <b> <c", 10}, {"@en <", 4}, // that goes ahead of what stands ahead of it
		{"\uFEFF<a> <b> <c> .", 0}, {"\f<a> <b> <c> .", 0},
	} {
		hasNot(t, c.s, 1, c.at, api.ErrSyntax)
		for _, behind := range []string{"\n", "\r\n", "\r", "\n.", "\n\xFF", "\r<a> <b> <c> .\n"} {
			hasNot(t, c.s+behind, 1, c.at, api.ErrSyntax)
		}
		hasNot(t, "\n"+c.s, 2, c.at, api.ErrSyntax)
		hasNot(t, "<a> <b> <c> .\r\n#\r\r_:a <b> _:c . # d\n\n"+c.s+"\n"+c.s, 6, c.at, api.ErrSyntax)
	}
}

// P10.2: lines that are not valid.
func TestNotValid(t *testing.T) {
	for s, at := range map[string]int{"\xFF": 0, "\x80": 0, "<a> <b> <c> . # \xC3": 16, "<a> <b> \"\xE2\x82\" .": 9, ". <a b> \xED\xA0\x80": 8, "<\u00E9> \xF4\x90\x80\x80": 5, "# \xC0\x80\xFF": 2} {
		for _, behind := range []string{"", "\n", "\r\n", "\n.", "\r\xFF"} {
			hasNot(t, s+behind, 1, at, api.ErrChar)
			hasNot(t, "<a> <b> <c> .\r\n\n"+s+behind, 3, at, api.ErrChar)
			hasNot(t, "\n.\n"+s+behind, 2, 0, api.ErrSyntax)
		}
	}
	// An end of a line stands within no sign.
	hasNot(t, "#\xC3\n\xA9", 1, 1, api.ErrChar)
	hasNot(t, "#\xE2\r\n#\x82\xAC", 1, 1, api.ErrChar)
}

// P10.2, P10.3: all rows of up to six tokens, of lines and of objects.
func TestAllRows(t *testing.T) {
	for s := range allTexts(6, "<a>", "_:bc\t", `"d" `, "@en ", " ^^", ".") {
		holds(t, s)
		holds(t, s+" #")
	}
}

// P10.2: lines that are triples, with a token more, less, or another one.
func TestOneTokenOther(t *testing.T) {
	pieces := []string{"<a> ", "_:b ", `"c" `, "@en ", "^^ ", ". ", "", "\n", "\r", "# ", "d ", "\xFF "}
	for _, form := range tripleForms {
		var tokens []string
		for _, letter := range strings.Split(form, "") {
			tokens = append(tokens, pieces[strings.Index(letters, letter)-1])
		}
		holds(t, strings.Join(tokens, ""))
		for i := range tokens {
			ahead, behind := strings.Join(tokens[:i], ""), strings.Join(tokens[i+1:], "")
			for s := range allTexts(2, pieces...) {
				holds(t, ahead+s+behind)
				holds(t, ahead+tokens[i]+s+behind)
			}
		}
	}
}

// P10.2: files of many lines, of which some are none, or have a term that is too long.
func TestManyFiles(t *testing.T) {
	c := chances(1)
	long := strings.Repeat("a", 4095)
	met := map[api.Errno]int{}
	for range 5_000 {
		var s strings.Builder
		for range c.below(12) {
			switch c.below(40) {
			case 0:
				s.WriteString(c.some("<a> <b> .", "<a", "<a> <b> <c>", "\"a\" <b> <c> .", "<a> <b> \"c\"^^_:d .", "<a> <b> <c> .."))
			case 1:
				s.WriteString(c.some("\xFF", "<a> <b> <c> . # \xC3", "#\x80"))
			case 2:
				s.WriteString(c.some("<"+long+"> <b> <c> .", "_:a <"+long+"> <c> .", "<a> <b> \""+long+"\" ."))
			default:
				s.WriteString(c.some("", " ", "# a", "<a> <b> <c> .", "_:a <b> _:c.", "<a> <b> \"c\\n\"@EN . # d", "\t<a> <b> \"c\"^^<d> .", "<a> <b> \"c\"^^<"+xsdString+">."))
			}
			s.WriteString(c.some("\n", "\r", "\r\n", "\n\n", "\r\r", "\n\r"))
		}
		holds(t, s.String())
		_, _, _, e := lines.Parse(s.String())
		met[e]++
	}
	for _, e := range []api.Errno{api.OK, api.ErrChar, api.ErrSyntax, api.ErrLong} {
		if met[e] < 300 {
			t.Errorf("error %d: %d files", e, met[e])
		}
	}
}

// P10.2: terms whose texts are as long as may be, and longer, in each place.
func TestTermsLong(t *testing.T) {
	a := func(n int) string { return strings.Repeat("a", n) }
	for _, c := range []struct {
		ahead, behind string
		n             int
		same          func(s string) api.Triple
	}{
		{"<", "> <b> <c> .", 4094, func(s string) api.Triple { return api.Triple{S: term.Iri(s), P: term.Iri("b"), O: term.Iri("c")} }},
		{"_:", " <b> <c> .", 4094, func(s string) api.Triple { return api.Triple{S: term.Blank(s), P: term.Iri("b"), O: term.Iri("c")} }},
		{"<a> <", "> <c> .", 4094, func(s string) api.Triple { return api.Triple{S: term.Iri("a"), P: term.Iri(s), O: term.Iri("c")} }},
		{"<a> <b> <", "> .", 4094, func(s string) api.Triple { return abc(term.Iri(s)) }},
		{"<a> <b> _:", " .", 4094, func(s string) api.Triple { return abc(term.Blank(s)) }},
		{`<a> <b> "`, `" .`, 4094, func(s string) api.Triple { return abc(term.Literal(s)) }},
		{`<a> <b> "`, `"@en .`, 4091, func(s string) api.Triple { return abc(term.Tagged(s, "en")) }},
		{`<a> <b> "`, `"^^<d> .`, 4089, func(s string) api.Triple { return abc(term.Typed(s, "d")) }},
		{`<a> <b> "`, `"^^<` + xsdString + `>.`, 4094, func(s string) api.Triple { return abc(term.Literal(s)) }},
		{`<a> <b> "\u0041`, `" .`, 4093, func(s string) api.Triple { return abc(term.Literal("A" + s)) }},
	} {
		may, long := c.ahead+a(c.n)+c.behind, c.ahead+a(c.n+1)+c.behind
		has(t, may, c.same(a(c.n)))
		hasNot(t, long, 1, 0, api.ErrLong)
		hasNot(t, "\r\n"+may+" # a\n"+long+"\n"+may+"\n"+long+"\n", 3, 0, api.ErrLong)
		hasNot(t, may+"\n"+long+"\n\n<a> <b> .", 4, 8, api.ErrSyntax)
		hasNot(t, long+"\r# \xFF", 2, 2, api.ErrChar)
		hasNot(t, long+" .", 1, len(long)+1, api.ErrSyntax)
		hasNot(t, strings.TrimSuffix(long, "."), 1, len(long)-1, api.ErrSyntax)
	}
}

// P10.2: files as long as may be, and longer.
func TestFilesLong(t *testing.T) {
	const n = 1 << 20
	fill := strings.Repeat
	hasNot(t, fill("\n", n+1), 0, 0, api.ErrLong)
	hasNot(t, fill(" ", n+1), 0, 0, api.ErrLong)
	hasNot(t, fill(".", n+1), 0, 0, api.ErrLong)
	hasNot(t, fill("\xFF", n+1), 0, 0, api.ErrLong)
	hasNot(t, "<"+fill("a", n)+"> <b> <c> .", 0, 0, api.ErrLong)
	hasNot(t, "<a> <b> <c> .\n"+fill("#", n), 0, 0, api.ErrLong)
	has(t, fill("\n", n))
	has(t, fill(" ", n))
	has(t, fill("#", n))
	has(t, fill(" ", n-10)+"<a><b><c>.", abc(term.Iri("c")))
	has(t, "<a><b><c>.\n"+fill("#", n-11), abc(term.Iri("c")))
	has(t, fill("\r\n", n/2-5)+"<a><b><c>.", abc(term.Iri("c")))
	hasNot(t, fill("\r", n-1)+".", n, 0, api.ErrSyntax)
	hasNot(t, fill(" ", n-1)+".", 1, n-1, api.ErrSyntax)
	hasNot(t, fill(".", n), 1, 0, api.ErrSyntax)
	hasNot(t, fill("#", n-1)+"\xFF", 1, n-1, api.ErrChar)
	hasNot(t, "<"+fill("a", n-11)+"><b><c>.", 1, 0, api.ErrLong)
	for _, s := range []string{"<><><>.\n", "_:a<b>\"\\r\".#\r\r\n\n"} {
		if triples, line, at, e := lines.Parse(fill(s, n/len(s))); len(triples) != n/len(s) || line != 0 || at != 0 || e != api.OK {
			t.Fatalf("%q: %d triples, line %d, at %d, error %d", s, len(triples), line, at, e)
		}
	}
}

package lex_test

import (
	"slices"
	"strings"
	"testing"
	"unicode/utf8"

	"ossuary/api"
	"ossuary/lex"
)

// The chapter's examples.
func TestExamples(t *testing.T) {
	has(t, `<a> "b"@en . # c`, lex.Token{Kind: lex.Iri, Text: "a"}, lex.Token{Kind: lex.Text, Text: "b", At: 4}, lex.Token{Kind: lex.Tag, Text: "en", At: 7}, lex.Token{Kind: lex.Dot, At: 11})
	has(t, `_:a .`, lex.Token{Kind: lex.Blank, Text: "a"}, lex.Token{Kind: lex.Dot, At: 4})
}

// P9.1: the kinds' numbers.
func TestKinds(t *testing.T) {
	for i, kind := range []lex.Kind{lex.Iri, lex.Blank, lex.Text, lex.Tag, lex.Caret, lex.Dot} {
		if int(kind) != i+1 {
			t.Errorf("%d: %d", i+1, kind)
		}
	}
}

// P9.1: each kind, alone.
func TestOneToken(t *testing.T) {
	for s, want := range map[string]lex.Token{
		`<>`:                                 {Kind: lex.Iri},
		`<a>`:                                {Kind: lex.Iri, Text: "a"},
		`<#a.@'_:-%20(),;=?>`:                {Kind: lex.Iri, Text: "#a.@'_:-%20(),;=?"},
		"<\x7F\u0080\u00E9\uFFFF\U0010FFFF>": {Kind: lex.Iri, Text: "\x7F\u0080\u00E9\uFFFF\U0010FFFF"},
		`<\u0020\u003E\U0000005c>`:           {Kind: lex.Iri, Text: ` >\`},
		`<\u0000\u000A\u000d>`:               {Kind: lex.Iri, Text: "\x00\n\r"},
		`<\uD7FF\uE000\uFFFE\U0010FFFF>`:     {Kind: lex.Iri, Text: "\uD7FF\uE000\uFFFE\U0010FFFF"},
		`<\u0041\U00000042C\u00e9\u00E9>`:    {Kind: lex.Iri, Text: "ABC\u00E9\u00E9"},
		`<\u005Cu0041>`:                      {Kind: lex.Iri, Text: `\u0041`}, // what an escape stands for begins none
		`<\u00411>`:                          {Kind: lex.Iri, Text: "A1"},
		`_:a`:                                {Kind: lex.Blank, Text: "a"},
		`_:0.-.b`:                            {Kind: lex.Blank, Text: "0.-.b"},
		`_:_:`:                               {Kind: lex.Blank, Text: "_:"},
		`_::`:                                {Kind: lex.Blank, Text: ":"},
		`_:a._:b`:                            {Kind: lex.Blank, Text: "a._:b"},
		"_:\u00E9\u00B7\U000EFFFF":           {Kind: lex.Blank, Text: "\u00E9\u00B7\U000EFFFF"},
		`""`:                                 {Kind: lex.Text},
		`"<a> _:b . @en ^^ # '"`:             {Kind: lex.Text, Text: "<a> _:b . @en ^^ # '"},
		"\"\x00\t\b\f\v\x7F\u0085\u2028\U0010FFFF\"": {Kind: lex.Text, Text: "\x00\t\b\f\v\x7F\u0085\u2028\U0010FFFF"},
		`"\t\b\n\r\f\"\'\\"`:                         {Kind: lex.Text, Text: "\t\b\n\r\f\"'\\"},
		`"\\n\\\\"`:                                  {Kind: lex.Text, Text: `\n\\`},
		`"\\u0041\u005Cn\u0022"`:                     {Kind: lex.Text, Text: `\u0041\n"`},
		`"\u000A\u000D\U0001f600\uabcd\uABCD"`:       {Kind: lex.Text, Text: "\n\r\U0001F600\uABCD\uABCD"},
		`@en`:                                        {Kind: lex.Tag, Text: "en"},
		`@EN-us-1A`:                                  {Kind: lex.Tag, Text: "EN-us-1A"},
		`^^`:                                         {Kind: lex.Caret},
		`.`:                                          {Kind: lex.Dot},
	} {
		for _, ahead := range []string{"", " ", "\t", " \t\t  "} {
			want.At = len(ahead)
			for _, behind := range []string{"", " ", "\t \t", "#", "# <", " #\n\"", "\t# \u00E9"} {
				has(t, ahead+s+behind, want)
			}
		}
	}
}

// P9.1: nothing but blanks and a remark.
func TestNoTokens(t *testing.T) {
	for _, s := range []string{"", " ", "\t", " \t \t", "#", "##", " #", "\t# <", "#\n", "# a\r\nb <", "#\x00", "# \u00E9", strings.Repeat(" ", 1<<20), strings.Repeat("#", 1<<20)} {
		has(t, s)
	}
}

// P9.1: tokens side by side.
func TestManyTokens(t *testing.T) {
	at := func(at int, kind lex.Kind, text string) lex.Token { return lex.Token{Kind: kind, Text: text, At: at} }
	has(t, `<a><b>"c".#.`, at(0, lex.Iri, "a"), at(3, lex.Iri, "b"), at(6, lex.Text, "c"), at(9, lex.Dot, ""))
	has(t, `_:a.`, at(0, lex.Blank, "a"), at(3, lex.Dot, ""))
	has(t, `_:a.. `, at(0, lex.Blank, "a"), at(3, lex.Dot, ""), at(4, lex.Dot, ""))
	has(t, `_:a. _:b`, at(0, lex.Blank, "a"), at(3, lex.Dot, ""), at(5, lex.Blank, "b"))
	has(t, `_:a<b>_:c"d"`, at(0, lex.Blank, "a"), at(3, lex.Iri, "b"), at(6, lex.Blank, "c"), at(9, lex.Text, "d"))
	has(t, `_:a@b^^.`, at(0, lex.Blank, "a"), at(3, lex.Tag, "b"), at(5, lex.Caret, ""), at(7, lex.Dot, ""))
	has(t, `"a"^^<b>.`, at(0, lex.Text, "a"), at(3, lex.Caret, ""), at(5, lex.Iri, "b"), at(8, lex.Dot, ""))
	has(t, `"a" ^^ <b>`, at(0, lex.Text, "a"), at(4, lex.Caret, ""), at(7, lex.Iri, "b"))
	has(t, `^^^^^^`, at(0, lex.Caret, ""), at(2, lex.Caret, ""), at(4, lex.Caret, ""))
	has(t, `@a@b`, at(0, lex.Tag, "a"), at(2, lex.Tag, "b"))
	has(t, `@en.`, at(0, lex.Tag, "en"), at(3, lex.Dot, ""))
	has(t, `@en_:a`, at(0, lex.Tag, "en"), at(3, lex.Blank, "a"))
	has(t, `"a""b"`, at(0, lex.Text, "a"), at(3, lex.Text, "b"))
	has(t, "<\u00E9>\t\"\U0001F600\".", at(0, lex.Iri, "\u00E9"), at(5, lex.Text, "\U0001F600"), at(11, lex.Dot, "")) // places are bytes
	has(t, `... `, at(0, lex.Dot, ""), at(1, lex.Dot, ""), at(2, lex.Dot, ""))
}

// P9.1: what is no token, alone and behind others.
func TestNoToken(t *testing.T) {
	for _, s := range []string{
		"<", "<a", "<a b>", "<a\tb>", "<<>", `<">`, "<{>", "<}>", "<|>", "<^>", "<`>", "<a^b>", "<\n>", "<\r>", "<\x00>", "<\x1F>", "< a>", "<a >", `<\`, `<\>`, `<\>>`,
		`<\n>`, `<\t>`, `<\">`, `<\'>`, `<\\>`, `<\x41>`, `<\ >`,
		`<\u>`, `<\u004>`, `<\u004`, `<\u0041`, `<\u00 41>`, `<\u00g1>`, `<\u004G>`, `<\u+041>`, `<\u-041>`, `<\u0_41>`, `<\u0x41>`, `<\u 041>`, "<\\u00\u00E91>", "<\\u004\uFF11>",
		`<\U>`, `<\U0041>`, `<\U0000041>`, `<\U0000004`, `<\U00000041`, `<\U0000004g>`, `<\U+0000041>`, `<\U0000_041>`, `<\U0x000041>`,
		`<\uD800>`, `<\uDBFF>`, `<\uDC00>`, `<\uDFFF>`, `<\uD83D\uDE00>`, `<\U0000D800>`, `<\U0000dfff>`, `<\U00110000>`, `<\U7FFFFFFF>`, `<\U80000041>`, `<\UFFFFFFFF>`, `<\UFFFFFF41>`, `<a\uD800b>`, `<\u0041\UDEADBEEF>`,
		`"`, `"a`, `"a\"`, `"\`, `"\\\"`, "\"\n\"", "\"\r\"", "\"a\r\nb\"", "\"a\n", "'a'",
		`"\a"`, `"\v"`, `"\0"`, `"\x41"`, `"\101"`, `"\ "`, `"\T"`, `"\N"`, "\"\\\n\"", "\"\\\u00E9\"", `"\u"`, `"\u004"`, `"\u004`, `"\U0041"`, `"\uD800"`, `"\uDFFF"`, `"\uD83D\uDE00"`, `"\U00110000"`, `"\UFFFFFFFF"`, `"\u004_"`,
		"_", "_a", "_ :a", "_:", "_: a", "_:.", "_:.a", "_:-", "_:-a", "_:\u00B7", "_:\u00D7", "_:#", `_:"a"`, "_:<a>", "_:@",
		"@", "@ en", "@1", "@-", "@-en", "@\u00E9", "@_", "@@en", "@.",
		"^", "^ ^", "^a",
		"a", "0", "-", ":", ":a", ",", ";", "'", "\\", "\\u0020", ">", "(", "[", "{", "\x00", "\n", "\r", "\v", "\f", "\x7F", "\u00E9", "\u00A0", "\u0085", "\u2028", "\u3000", "\uFEFF", "\uFEFF<a>", "\uFFFD", "PREFIX", "a:b", "true",
	} {
		hasNot(t, s, 0)
		hasNot(t, " \t"+s, 2)
		hasNot(t, "<\u00E9>\t"+s, 5)
		hasNot(t, `"a"@en `+s, 7)
		hasNot(t, "<a>"+s, 3)
		hasNot(t, `"a"`+s, 3)
	}
}

// P9.1: what is no token begins behind the longest one that is.
func TestNoTokenBehindLongest(t *testing.T) {
	hasNot(t, "@en-", 3)
	hasNot(t, "@en--us", 3)
	hasNot(t, "@en-us-.", 6)
	hasNot(t, "@en1", 3)
	hasNot(t, "@en\u00E9", 3)
	hasNot(t, "_:a.@", 4)
	hasNot(t, "_:a\u00D7", 3)
	hasNot(t, "_:\u00E9..\u00D7", 6)
	hasNot(t, "^^^", 2)
	hasNot(t, "<a>>", 3)
	hasNot(t, `"a"b"`, 3)
	hasNot(t, "<a>\n", 3)
	hasNot(t, "<a> .\r", 5)
	hasNot(t, "<a> .\n# b", 5)
	hasNot(t, "<a> <b c> <d", 4) // the first of several
}

// P9.1: lines that are not valid are told as such, and where, whatever else they are.
func TestNotValid(t *testing.T) {
	no := func(s string, at int) {
		t.Helper()
		tells(t, s, nil, at, api.ErrChar)
		holds(t, s)
	}
	for _, bad := range []string{"\x80", "\xFF", "\xC3", "\xE2\x82", "\xF0\x90\x80", "\xC0\x80", "\xED\xA0\x80", "\xED\xB0\x80", "\xF4\x90\x80\x80", "\xFE"} {
		for _, ahead := range []string{"", " ", "<a>", "<a> <", `"`, `"a`, "_:", "_:a", "@", "@en", "#", "# \u00E9", "a", "a b", "<a b> ^ ", "\n", `"\`, `<\u00`, "\u00E9", "\uFFFD"} {
			for _, behind := range []string{"", " ", "a", ">", `"`, " .", "#", "\xFF", "\u00E9"} {
				no(ahead+bad+behind, len(ahead))
			}
		}
	}
}

// P9.1: all short lines of some pieces.
func TestAllShortLines(t *testing.T) {
	for _, c := range []struct {
		ahead  string
		n      int
		pieces string
	}{
		{"", 6, `<>"_:.`},
		{"", 5, "<>\"_:a@^.# \\-"},
		{"", 4, "<>\"'_:aZ0@^.# \t\\-\n\r\u00E9"},
		{"_:", 6, "a.-_:0 "},
		{"_:a", 5, ".-\u00E9\u00B7\u00D7# "},
		{"@", 6, "aZ0-. "},
		{"<", 6, `>\u0aU`},
		{`<\u00`, 4, `0123456789ABCDEFabcfgGx+_-> "`},
		{`"\u00`, 4, `0129AFafgGxX+_-"`},
		{`"`, 5, `"\nrtbfu'U0`},
		{`<a>`, 6, "^#@a\". "},
	} {
		for s := range allTexts(c.n, strings.Split(c.pieces, "")...) {
			holds(t, c.ahead+s)
		}
	}
}

// P9.1: signs, each in each place: those of one and two bytes, and many others.
func TestEachSign(t *testing.T) {
	const step = 19
	edges := []rune{0x1FFF, 0x200B, 0x200C, 0x200D, 0x200E, 0x203F, 0x2040, 0x2041, 0x2070, 0x218F, 0x2190, 0x2C00, 0x2FEF, 0x2FF0, 0x3000, 0x3001, 0xD7FF, 0xE000, 0xF8FF, 0xF900, 0xFDCF, 0xFDD0, 0xFDF0, 0xFFFD, 0xFFFE, 0xFFFF, 0x10000, 0xEFFFF, 0xF0000, 0x10FFFF}
	for n := rune(0); n <= utf8.MaxRune; n++ {
		if n > 0x7FF && n%step != 0 && !slices.Contains(edges, n) || !utf8.ValidRune(n) {
			continue
		}
		s := string(n)
		for _, line := range []string{s, " " + s, "<a>" + s, "<" + s + ">", `"` + s + `"`, `"` + s + s, "_:" + s, "_:a" + s, "_:a." + s, "@" + s, "@a" + s, "@a-" + s, "^" + s, `"\` + s + `"`, `<\` + s + `>`, `"\u004` + s + `"`, "#" + s} {
			holds(t, line)
		}
	}
}

// P9.1: each escape of a number, of four digits and of eight, in an IRI and in a literal.
func TestEachEscape(t *testing.T) {
	const high, low = "0123456789ABCDEF", "0123456789abcdef"
	hexadecimal := func(n, size int, digits string) string {
		s := make([]byte, size)
		for i := range s {
			s[size-1-i] = digits[n>>(4*i)&15]
		}
		return string(s)
	}
	tried := func(written string, n int) {
		t.Helper()
		if !utf8.ValidRune(rune(n)) || n > utf8.MaxRune {
			tells(t, "<"+written+">", nil, 0, api.ErrSyntax)
			tells(t, `"`+written+`"`, nil, 0, api.ErrSyntax)
			return
		}
		tells(t, "<a"+written+"b>", []lex.Token{{Kind: lex.Iri, Text: "a" + string(rune(n)) + "b"}}, 0, api.OK)
		tells(t, `"`+written+`"`, []lex.Token{{Kind: lex.Text, Text: string(rune(n))}}, 0, api.OK)
	}
	for n := range 1 << 16 {
		tried(`\u`+hexadecimal(n, 4, high), n)
		tried(`\u`+hexadecimal(n, 4, low), n)
	}
	for n := 0; n < utf8.MaxRune+1000; n += 7 {
		tried(`\U`+hexadecimal(n, 8, high), n)
		tried(`\U`+hexadecimal(n, 8, low), n)
	}
	for n := range 16 { // high numbers, whose lowest digits are signs'
		for digit := range 8 {
			if high := n<<(4*digit) + 'a'; high > utf8.MaxRune {
				tried(`\U`+hexadecimal(high, 8, low), high)
			}
		}
	}
}

// P9.1: lines in which one byte is another one, is left out, or stands there more.
func TestOneByteOther(t *testing.T) {
	for _, s := range []string{
		`<a> <b> "c\td\u00E9"@en-1 . # e`, `_:a.b<c>_:d.`, `"\U0001F600"^^<\u0020>.#`, "<\u00E9\u20AC>\t\"\U00010000\"@x", `<\U0010FFFF>"\\\""`,
	} {
		holds(t, s)
		for at := range len(s) + 1 {
			holds(t, s[:at])
			holds(t, s[at:])
			holds(t, s[:at]+s[min(at+1, len(s)):])
			for n := range 256 {
				b := string([]byte{byte(n)})
				holds(t, s[:at]+b+s[at:])
				holds(t, s[:at]+b+s[min(at+1, len(s)):])
			}
		}
	}
}

// P9.1, R1: whatever there is, the call ends, and tells what it should.
func TestAnyBytes(t *testing.T) {
	c := chances(1)
	pieces := append(strings.Split("<>\"\\@^_:u0U.# \tan-'\n\u00E9\u00B7", ""), "\xC3", "\xA9", "\xFF", "\\u00E9", "\\U0001F600", "\\uD800", "<a>", "\"b\"", "_:c", "@d", "^^")
	for range 300_000 {
		holds(t, c.text(12, pieces...))
	}
}

// P9.1, R1: long lines, in few steps.
func TestLong(t *testing.T) {
	const n = 1 << 20
	fill := strings.Repeat("a", n)
	tells(t, "<"+fill+">", []lex.Token{{Kind: lex.Iri, Text: fill}}, 0, api.OK)
	tells(t, `"`+fill+`"`, []lex.Token{{Kind: lex.Text, Text: fill}}, 0, api.OK)
	tells(t, "_:"+fill, []lex.Token{{Kind: lex.Blank, Text: fill}}, 0, api.OK)
	tells(t, "@"+fill, []lex.Token{{Kind: lex.Tag, Text: fill}}, 0, api.OK)
	tells(t, `"`+strings.Repeat(`\U0001F600`, n/8)+`"`, []lex.Token{{Kind: lex.Text, Text: strings.Repeat("\U0001F600", n/8)}}, 0, api.OK)
	tells(t, `"`+fill, nil, 0, api.ErrSyntax)
	tells(t, fill, nil, 0, api.ErrSyntax)
	tells(t, `"`+fill+"\xFF", nil, n+1, api.ErrChar)
	for _, s := range []string{"<>", `""`, ".", "^^", "@a", "_:a ", "_:a.. "} {
		tokens, at, e := lex.Line(strings.Repeat(s, n/len(s)))
		if len(tokens) < n/len(s) || at != 0 || e != api.OK {
			t.Fatalf("%q: %d tokens, at %d, error %d", s, len(tokens), at, e)
		}
	}
	if tokens, _, _ := lex.Line("_:a" + strings.Repeat(".", n)); len(tokens) != n+1 || tokens[0].Text != "a" || tokens[n].At != n+2 {
		t.Fatalf("%d tokens", len(tokens))
	}
}

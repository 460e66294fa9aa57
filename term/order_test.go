package term_test

import (
	"cmp"
	"slices"
	"strings"
	"testing"

	"ossuary/api"
	"ossuary/term"
)

// stand is how two terms do, as the chapter tells it.
func stand(a, b api.Term) int {
	aRight, bRight := isRight(a), isRight(b)
	switch {
	case aRight && bRight:
		return cmp.Compare(textOf(a), textOf(b))
	case aRight:
		return -1
	case bRight:
		return 1
	case a.Kind != b.Kind:
		return cmp.Compare(a.Kind, b.Kind)
	case a.Text != b.Text:
		return cmp.Compare(a.Text, b.Text)
	case a.Lang != b.Lang:
		return cmp.Compare(a.Lang, b.Lang)
	}
	return cmp.Compare(a.Type, b.Type)
}

// termsOf are terms of each kind, right ones and others, with these texts.
func termsOf(texts ...string) []api.Term {
	var terms []api.Term
	for _, s := range texts {
		terms = append(terms,
			term.Iri(s), term.Blank(s), term.Blank("a"+s), term.Literal(s), term.Tagged(s, "en"), term.Tagged("a", "e"+s), term.Typed(s, "t"), term.Typed("a", s),
			api.Term{Kind: 0, Text: s}, api.Term{Kind: 7, Text: s, Lang: "b"}, api.Term{Kind: -1, Type: s}, api.Term{Kind: api.TermIri, Text: "a", Lang: s}, api.Term{Kind: api.TermLiteral, Text: s, Type: "t"}, api.Term{Kind: api.TermTyped, Text: s, Type: xsdString},
		)
	}
	return terms
}

// P8.3: all terms of short texts, each with each.
func TestCompareAll(t *testing.T) {
	var texts []string
	for s := range allTexts(2, "!", "\"", "#", "\\", "\n", " ", "b", "\u00E9") {
		texts = append(texts, s)
	}
	terms := termsOf(texts...)
	for _, a := range terms {
		for _, b := range terms {
			if got, want := term.Compare(a, b), stand(a, b); got != want {
				t.Fatalf("%#v and %#v: %d, not %d", a, b, got, want)
			}
		}
	}
}

// rising are terms that stand in order: texts that are too long, signs of many bytes, and bytes that are no sign's among them.
func rising() []api.Term {
	long := strings.Repeat("a", 5000)
	return slices.Concat([]api.Term{
		term.Literal("\x00"), term.Literal(" "), term.Literal("!"),
		term.Literal(""), term.Tagged("", "a"), term.Tagged("", "a-b"), term.Tagged("", "aa"),
		term.Typed("", "!"), term.Typed("", ""), term.Typed("", " "), term.Typed("", "t"), term.Typed("", "\u00E9"),
		term.Literal("#"), term.Literal("A"), term.Literal("\""), term.Literal("\\"), term.Literal("\n"), term.Literal("\r"), term.Literal("]"),
		term.Literal("a!"), term.Literal("a"), term.Tagged("a", "en"), term.Tagged("a", "en-us"), term.Typed("a", "t"),
		term.Literal("a#"), term.Literal("aA"), term.Literal("a\""), term.Literal("a\n"), term.Literal("aa"),
		term.Literal(long), term.Tagged(long, "en"), term.Literal(long + "a"), term.Literal(long + "b"), term.Literal("ab"),
		term.Literal("\x7F"), term.Literal("\u0080"), term.Literal("\uFFFF"), term.Literal("\U00010000"),
	}, []api.Term{
		term.Iri("!"), term.Iri(""), term.Iri("A"), term.Iri("\x00"), term.Iri(" "), term.Iri("\\"), term.Iri("}"), term.Iri("]"),
		term.Iri("a"), term.Iri(long), term.Iri(long + "a"), term.Iri("b"), term.Iri("\u00E9"),
	}, []api.Term{
		term.Blank("0"), term.Blank(":"), term.Blank("A"), term.Blank("_"), term.Blank("a"), term.Blank("a-"), term.Blank("a.b"), term.Blank("a0"),
		term.Blank("aa"), term.Blank(long), term.Blank("b"), term.Blank("\u00E9"),
	}, []api.Term{
		{Kind: -1},
		{}, {Text: "\n"}, {Text: "!"}, {Text: "a"}, {Text: "b", Lang: "a"}, {Text: "b", Lang: "b"}, {Text: "b", Lang: "b", Type: "a"},
		{Kind: api.TermIri, Text: long, Lang: "a"}, term.Iri("\x80"), term.Iri("\xFF"),
		term.Blank(""), term.Blank("."), term.Blank("\xFF"),
		{Kind: api.TermLiteral, Lang: "A"}, {Kind: api.TermLiteral, Lang: "a", Type: "a"}, term.Tagged("a", "1"), term.Literal("\x80"),
		{Kind: api.TermTyped, Type: xsdString}, {Kind: api.TermTyped, Text: "a", Lang: "a"}, {Kind: 5},
	})
}

// P8.3: each of them with each.
func TestCompareInOrder(t *testing.T) {
	terms := rising()
	for i, a := range terms {
		for k, b := range terms {
			if got, want := term.Compare(a, b), cmp.Compare(i, k); got != want {
				t.Fatalf("%d and %d, %.60q and %.60q: %d, not %d", i, k, a.Text, b.Text, got, want)
			}
		}
	}
}

// P8.4: literals stand ahead of IRIs, these of blank nodes, whatever their texts are.
func TestKindsInOrder(t *testing.T) {
	literals, iris, blanks := []api.Term{}, []api.Term{}, []api.Term{}
	for _, s := range []string{"", "\x00", "a", "zz", "\U0010FFFF"} {
		literals = append(literals, term.Literal(s), term.Tagged(s, "zz"), term.Typed(s, s))
		iris = append(iris, term.Iri(s))
	}
	for _, s := range []string{"0", ":", "a", "\U000EFFFF"} {
		blanks = append(blanks, term.Blank(s))
	}
	ahead := func(l, m []api.Term) {
		for _, a := range l {
			for _, b := range m {
				if term.Compare(a, b) != -1 || term.Compare(b, a) != 1 {
					t.Errorf("%#v and %#v", a, b)
				}
			}
		}
	}
	ahead(literals, iris)
	ahead(iris, blanks)
	ahead(literals, blanks)
}

// P8.3: triples stand by S, then P, then O, be they such as may be or not.
func TestTriples(t *testing.T) {
	terms := []api.Term{term.Literal("a"), term.Literal("\n"), term.Iri("\n"), term.Iri("a"), term.Blank("a"), {}, term.Iri("\xFF")}
	slices.SortFunc(terms, stand)
	n := len(terms)
	triple := func(i int) api.Triple {
		return api.Triple{S: terms[i/n/n], P: terms[i/n%n], O: terms[i%n]}
	}
	for i := range n * n * n {
		for k := range n * n * n {
			if got, want := term.Triples(triple(i), triple(k)), cmp.Compare(i, k); got != want {
				t.Fatalf("%#v and %#v: %d, not %d", triple(i), triple(k), got, want)
			}
		}
	}
}

// R4: one thing is answered alike each time.
func TestAlike(t *testing.T) {
	terms := termsOf("a", "a b", "\n", "\xFF")
	var first []string
	for range 3 {
		var told []string
		for _, x := range terms {
			s, _ := term.Show(x)
			y, _ := term.Parse(s)
			told = append(told, s, y.Text, y.Lang, y.Type)
		}
		if first == nil {
			first = told
		}
		if !slices.Equal(told, first) {
			t.Fatal(told)
		}
	}
}

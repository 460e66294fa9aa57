package lex_test

import (
	"regexp"
	"slices"
	"strconv"
	"strings"
	"testing"
	"unicode/utf8"

	"ossuary/api"
	"ossuary/lex"
)

// chances are numbers that look like chance and are the same each time.
type chances uint64

func (c *chances) below(n int) int {
	*c = *c*6364136223846793005 + 1442695040888963407
	return int(uint64(*c)>>33) % n
}

// text is up to n of some pieces, one behind the other.
func (c *chances) text(n int, pieces ...string) string {
	var b strings.Builder
	for range c.below(n + 1) {
		b.WriteString(pieces[c.below(len(pieces))])
	}
	return b.String()
}

// Labels and tags, as chapter 7 tells them.
const (
	firstLetters = `A-Za-z\x{C0}-\x{D6}\x{D8}-\x{F6}\x{F8}-\x{2FF}\x{370}-\x{37D}\x{37F}-\x{1FFF}\x{200C}-\x{200D}\x{2070}-\x{218F}\x{2C00}-\x{2FEF}\x{3001}-\x{D7FF}\x{F900}-\x{FDCF}\x{FDF0}-\x{FFFD}\x{10000}-\x{EFFFF}`
	opens        = firstLetters + `_:0-9`
	letters      = opens + `\-\x{B7}\x{300}-\x{36F}\x{203F}-\x{2040}`
	label        = `[` + opens + `](?:[` + letters + `.]*[` + letters + `])?`
	tag          = `[A-Za-z]+(?:-[A-Za-z0-9]+)*`
)

// Escapes and tokens, as the chapter tells them; of a token's text what is in brackets.
const (
	numbered = `\\u[0-9A-Fa-f]{4}|\\U[0-9A-Fa-f]{8}`
	lettered = `\\[tbnrf"'\\]`
)

var (
	escape = regexp.MustCompile(numbered + `|` + lettered)
	blanks = regexp.MustCompile(`^[ \t]*`)
	kinds  = []*regexp.Regexp{
		1: regexp.MustCompile("^<((?:[^\\x00-\\x20<>\"{}|^`\\\\]|" + numbered + `)*)>`),
		2: regexp.MustCompile(`^_:(` + label + `)`),
		3: regexp.MustCompile(`^"((?:[^"\\\n\r]|` + numbered + `|` + lettered + `)*)"`),
		4: regexp.MustCompile(`^@(` + tag + `)`),
		5: regexp.MustCompile(`^\^\^()`),
		6: regexp.MustCompile(`^\.()`),
	}
)

// signOf is the sign of an escape; -1, if it stands for none.
func signOf(escape string) rune {
	if letter := strings.IndexByte(`tbnrf"'\`, escape[1]); letter >= 0 {
		return []rune{9, 8, 10, 13, 12, '"', '\'', '\\'}[letter]
	}
	n, err := strconv.ParseInt(escape[2:], 16, 64)
	if err != nil || n > 0x10FFFF || n >= 0xD800 && n <= 0xDFFF {
		return -1
	}
	return rune(n)
}

// first is the token with which a text begins, and how many bytes it has there; none, if it begins with none.
func first(s string) (token lex.Token, size int) {
	for kind, is := range kinds {
		if kind == 0 {
			continue
		}
		found := is.FindStringSubmatch(s)
		if found == nil {
			continue
		}
		right := true
		text := escape.ReplaceAllStringFunc(found[1], func(escape string) string {
			right = right && signOf(escape) >= 0
			return string(signOf(escape))
		})
		if !right {
			return lex.Token{}, 0
		}
		return lex.Token{Kind: lex.Kind(kind), Text: text}, len(found[0])
	}
	return lex.Token{}, 0
}

// noSign is where a text is not valid, if it is not.
func noSign(s string) (at int, is bool) {
	for at, sign := range s {
		if _, size := utf8.DecodeRuneInString(s[at:]); sign == utf8.RuneError && size == 1 {
			return at, true
		}
	}
	return 0, false
}

// lineOf are a line's tokens, or where there is none, as the chapter tells them.
func lineOf(s string) (tokens []lex.Token, at int, e api.Errno) {
	if at, is := noSign(s); is {
		return nil, at, api.ErrChar
	}
	for {
		at += len(blanks.FindString(s[at:]))
		if at == len(s) || s[at] == '#' {
			return tokens, 0, api.OK
		}
		token, size := first(s[at:])
		if size == 0 {
			return nil, at, api.ErrSyntax
		}
		token.At = at
		tokens, at = append(tokens, token), at+size
	}
}

// tells says that a line has these tokens, or is none, at this place.
func tells(t *testing.T, s string, tokens []lex.Token, at int, e api.Errno) {
	t.Helper()
	gotTokens, gotAt, gotE := lex.Line(s)
	if !slices.Equal(gotTokens, tokens) || gotAt != at || gotE != e {
		t.Fatalf("%q: %+v at %d, error %d, not %+v at %d, error %d", s, gotTokens, gotAt, gotE, tokens, at, e)
	}
	for _, token := range gotTokens {
		if !utf8.ValidString(token.Text) {
			t.Fatalf("%q: the text %q is not valid", s, token.Text)
		}
	}
}

// holds says that a line has the tokens that it should have.
func holds(t *testing.T, s string) {
	t.Helper()
	tokens, at, e := lineOf(s)
	tells(t, s, tokens, at, e)
}

// has says that a line has these tokens.
func has(t *testing.T, s string, tokens ...lex.Token) {
	t.Helper()
	tells(t, s, tokens, 0, api.OK)
	holds(t, s)
}

// hasNot says that a line has no token at a place.
func hasNot(t *testing.T, s string, at int) {
	t.Helper()
	tells(t, s, nil, at, api.ErrSyntax)
	holds(t, s)
}

// allTexts goes through all texts of up to n of some pieces.
func allTexts(n int, pieces ...string) func(func(string) bool) {
	return func(yield func(string) bool) {
		var goOn func(s string, n int) bool
		goOn = func(s string, n int) bool {
			if !yield(s) {
				return false
			}
			for i := 0; n > 0 && i < len(pieces); i++ {
				if !goOn(s+pieces[i], n-1) {
					return false
				}
			}
			return true
		}
		goOn("", n)
	}
}

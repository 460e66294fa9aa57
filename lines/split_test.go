package lines_test

import (
	"slices"
	"strings"
	"testing"

	"ossuary/lines"
)

// splits says that a text has these lines.
func splits(t *testing.T, s string, want ...string) {
	t.Helper()
	if got := lines.Split(s); !slices.Equal(got, want) {
		t.Fatalf("%q: %q, not %q", short(s), got, want)
	}
}

// P10.1: ends of lines.
func TestSplit(t *testing.T) {
	splits(t, "")
	splits(t, "a", "a")
	splits(t, "a\n", "a")
	splits(t, "a\r", "a")
	splits(t, "a\r\n", "a")
	splits(t, "\n", "")
	splits(t, "\r", "")
	splits(t, "\r\n", "")
	splits(t, "\n\r", "", "")
	splits(t, "\n\n", "", "")
	splits(t, "\r\r", "", "")
	splits(t, "\r\r\n", "", "")
	splits(t, "\r\n\n", "", "")
	splits(t, "\r\n\r\n", "", "")
	splits(t, "a\nb", "a", "b")
	splits(t, "a\rb", "a", "b")
	splits(t, "a\r\nb", "a", "b")
	splits(t, "a\n\rb", "a", "", "b")
	splits(t, "a\r\n\rb\n\nc\r", "a", "", "b", "", "c")
	splits(t, "\na\n ", "", "a", " ")
	splits(t, " a\t\n\t", " a\t", "\t")
	splits(t, "\"a\nb\"", "\"a", "b\"")
	splits(t, "a # b\n# c", "a # b", "# c")
}

// P10.1: nothing else ends a line, and all else stays as it is, be it valid or not.
func TestSplitKeeps(t *testing.T) {
	for _, s := range []string{"\v", "\f", "\x00", "\x1C", "\u0085", "\u2028", "\u2029", "\uFEFF", "\uFFFD", "\u010A", "\u0D0A", "\\n", `\u000A`, "\xFF", "\xC3", "\xE2\x80", " ", "\t", "\uFEFF<a>", strings.Repeat("\xFF", 20), strings.Repeat("\u010D", 20)} {
		splits(t, s, s)
		splits(t, "a"+s+"b", "a"+s+"b")
		splits(t, s+"\n"+s+"\r"+s+"\r\n"+s, s, s, s, s)
	}
	for n := range 256 {
		if s := string([]byte{byte(n)}); s != "\n" && s != "\r" {
			splits(t, s+"\r\n"+s+"\r\n", s, s)
		}
	}
}

// P10.1: all short texts.
func TestSplitAllShortTexts(t *testing.T) {
	for s := range allTexts(8, "\r", "\n", "a", "\xFF") {
		splits(t, s, linesOf(s)...)
	}
}

// P10.1: long texts, of more than a file's bytes, too.
func TestSplitLong(t *testing.T) {
	const n = 1<<20 + 5
	long := strings.Repeat("a", n)
	splits(t, long, long)
	splits(t, long+"\n"+long+"\r\n", long, long)
	for _, end := range []string{"\n", "\r", "\r\n", "ab\n"} {
		if got := lines.Split(strings.Repeat(end, n)); len(got) != n || got[n-1] != strings.TrimRight(end, "\r\n") {
			t.Fatalf("%q: %d lines", end, len(got))
		}
	}
}

package utf_test

import (
	"regexp"
	"slices"
	"strconv"
	"strings"
	"testing"

	"ossuary/utf"
)

// firstLetters and otherLetters are those of the chapter that it tells by their hexadecimal numbers.
const (
	firstLetters = "C0 to D6, D8 to F6, F8 to 2FF, 370 to 37D, 37F to 1FFF, 200C to 200D, 2070 to 218F, 2C00 to 2FEF, 3001 to D7FF, F900 to FDCF, FDF0 to FFFD, 10000 to EFFFF"
	otherLetters = "B7, 300 to 36F, 203F to 2040"
)

// told says which signs a list of the chapter has.
func told(t *testing.T, list string) map[int]bool {
	t.Helper()
	signs := map[int]bool{}
	for each := range strings.SplitSeq(list, ", ") {
		from, to, more := strings.Cut(each, " to ")
		if !more {
			to = from
		}
		a, err := strconv.ParseInt(from, 16, 64)
		if err != nil {
			t.Fatal(err)
		}
		b, err := strconv.ParseInt(to, 16, 64)
		if err != nil {
			t.Fatal(err)
		}
		for sign := a; sign <= b; sign++ {
			signs[int(sign)] = true
		}
	}
	return signs
}

// has says that the longest label, and the longest tag, with which a text begins have so many bytes.
func has(t *testing.T, s string, label, tag int) {
	t.Helper()
	if n, m := utf.Label(s), utf.Tag(s); n != label || m != tag {
		t.Errorf("%q: a label of %d, not %d; a tag of %d, not %d", s, n, label, m, tag)
	}
}

// sized is so many bytes, if something is so.
func sized(size int, is bool) int {
	if is {
		return size
	}
	return 0
}

// P7.2: each sign: whether a label, a tag begins with it, and whether it stands in one.
func TestEachSign(t *testing.T) {
	latin := func(n int) bool { return n >= 'A' && n <= 'Z' || n >= 'a' && n <= 'z' }
	digit := func(n int) bool { return n >= '0' && n <= '9' }
	firsts, others := told(t, firstLetters), told(t, otherLetters)
	for n := range last + 1 {
		if !isSign(n) {
			continue
		}
		opens := latin(n) || firsts[n] || n == '_' || n == ':' || digit(n)
		letter := opens || n == '-' || others[n]
		s := bytesOf(n)
		has(t, s, sized(len(s), opens), sized(1, latin(n)))
		has(t, "a"+s, 1+sized(len(s), letter), 1+sized(1, latin(n)))
		has(t, "a"+s+".b", 1+sized(len(s)+2, letter || n == '.'), 1+sized(1, latin(n)))
		has(t, "a."+s, 1+sized(1+len(s), letter), 1)
		has(t, "a-"+s, 2+sized(len(s), letter), 1+sized(2, latin(n) || digit(n)))
	}
}

// P7.2: what stands behind a label or a tag.
func TestBehind(t *testing.T) {
	has(t, "", 0, 0)
	has(t, "a", 1, 1)
	for _, s := range []string{".", "..", ".a", "-", "-a", " a", "\x00", "\xC2\xB7", "\xCC\x80", "\xE2\x80\xBF", "@a", "\xFF", "\xC3", "\xE2\x82", "\x80a"} {
		has(t, s, 0, 0)
	}
	for _, end := range []string{"", " ", " b", "\x00", "\xFF", "\x80", "\xC3", "\xC3 ", "\xE2\x82", "\xF0\x90\x80", "\xED\xA0\x80", "\xC0\xAE", "\xF4\x90\x80\x80", "@", "<", "\"", "\xC3\x97", "\xEF\xBF\xBE"} {
		has(t, "ab"+end, 2, 2)
		has(t, "ab."+end, 2, 2)
		has(t, "ab..."+end, 2, 2)
		has(t, "a.b"+end, 3, 1)
		has(t, "a...b"+end, 5, 1)
		has(t, "a...b.."+end, 5, 1)
		has(t, "en-us"+end, 5, 5)
		has(t, "en-us-"+end, 6, 5)
		has(t, "en-us-1"+end, 7, 7)
		has(t, "en-us--1"+end, 8, 5)
		has(t, "en-1a-a1."+end, 8, 8)
		has(t, "e1"+end, 2, 1)
		has(t, "1e"+end, 2, 0)
		has(t, "_:"+end, 2, 0)
		has(t, "\xC3\xA9\xF0\x90\x80\x80"+end, 6, 0)
		has(t, "a\xEF\xBF\xBD"+end, 4, 1) // what others put for no sign is a first letter
		has(t, "a.\xEF\xBF\xBD"+end, 5, 1)
	}
}

// P7.2: all texts of up to six of some bytes, labels held against what the chapter calls one.
func TestAllLabels(t *testing.T) {
	const opens = "[a_:0]|\xC3\xA9"
	label := regexp.MustCompile("^(" + opens + ")((" + opens + "|-|\xC2\xB7|[.])*(" + opens + "|-|\xC2\xB7))?$")
	longest := func(s string) int {
		for n := len(s); n > 0; n-- {
			if label.MatchString(s[:n]) {
				return n
			}
		}
		return 0
	}
	for n, bytes := range []string{"a.-:_0 ", "a.-\xC3\xA9\xC2\xB7\xFF", "0_:\xC3\xA9."} {
		for s := range allTexts(6-min(n, 1), bytes) {
			if got, want := utf.Label(s), longest(s); got != want {
				t.Fatalf("%q: %d, not %d", s, got, want)
			}
		}
	}
}

// P7.2: likewise tags.
func TestAllTags(t *testing.T) {
	tag := regexp.MustCompile("^[A-Za-z]+(-[A-Za-z0-9]+)*")
	for s := range allTexts(6, "aZ0-.\xC3\xA9") {
		if got, want := utf.Tag(s), len(tag.FindString(s)); got != want {
			t.Fatalf("%q: %d, not %d", s, got, want)
		}
	}
}

// P7.2: long ones, in few steps.
func TestLong(t *testing.T) {
	const n = 1 << 20
	points, letters, hyphens := strings.Repeat(".", n), strings.Repeat("a", n), strings.Repeat("-", n)
	has(t, letters, n, n)
	has(t, "a"+points, 1, 1)
	has(t, "a"+points+"b", n+2, 1)
	has(t, strings.Repeat("a.", n), 2*n-1, 1)
	has(t, letters+hyphens, 2*n, n)
	has(t, strings.Repeat("a-", n), 2*n, 2*n-1)
	has(t, strings.Repeat("\xF0\x90\x80\x80", n), 4*n, 0)
}

// P7.3: a label is no longer in front of a point that ends it.
func TestLabelInFrontOfPoint(t *testing.T) {
	c := chances(4)
	letters := slices.Concat([]int{'.', '.', '.', '-', '_', ':', '7', 'k', 'Q', 0xB7, 0x2040}, []int{0xE9, 0x1FFF, 0xFFFD, 0xEFFFF})
	for range 20_000 {
		signs := []int{'a'}
		for range c.below(12) {
			signs = append(signs, letters[c.below(len(letters))])
		}
		s := textOf(signs...)
		n := utf.Label(s)
		for _, behind := range []string{"", ".", ". x", "..", ".\n", ".\xFF"} {
			if m := utf.Label(s[:n] + behind); m != n {
				t.Fatalf("%q: %d, not %d", s[:n]+behind, m, n)
			}
		}
	}
}

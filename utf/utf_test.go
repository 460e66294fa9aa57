package utf_test

import (
	"cmp"
	"math"
	"slices"
	"strings"
	"testing"

	"ossuary/api"
	"ossuary/utf"
)

const last = 0x10FFFF

// chances are numbers that look like chance and are the same each time.
type chances uint64

func (c *chances) below(n int) int {
	*c = *c*6364136223846793005 + 1442695040888963407
	return int(uint64(*c)>>33) % n
}

// sign is a sign, of whichever number of bytes.
func (c *chances) sign() int {
	for {
		if n := c.below([]int{0x80, 0x800, 0x10000, last + 1}[c.below(4)]); isSign(n) {
			return n
		}
	}
}

// isSign says whether a number is a sign, as the chapter tells it.
func isSign(n int) bool { return n >= 0 && n <= last && !(n >= 0xD800 && n <= 0xDFFF) }

// bytesOf are a sign's bytes, as the chapter tells them.
func bytesOf(sign int) string {
	rest := func(by int) byte { return byte(0x80 + sign/by%64) }
	switch {
	case sign <= 0x7F:
		return string([]byte{byte(sign)})
	case sign <= 0x7FF:
		return string([]byte{byte(0xC0 + sign/64), rest(1)})
	case sign <= 0xFFFF:
		return string([]byte{byte(0xE0 + sign/4096), rest(64), rest(1)})
	}
	return string([]byte{byte(0xF0 + sign/262144), rest(4096), rest(64), rest(1)})
}

// textOf is signs' bytes.
func textOf(signs ...int) string {
	var b strings.Builder
	for _, sign := range signs {
		b.WriteString(bytesOf(sign))
	}
	return b.String()
}

// first is the sign with whose bytes a text begins, and how many these are; there are none, if it begins with no sign's.
func first(s string) (sign, size int) {
	for size, head := range []int{0, 0xC0, 0xE0, 0xF0} {
		if size >= len(s) {
			break
		}
		sign := int(s[0]) - head
		for _, b := range []byte(s[1 : size+1]) {
			sign = sign*64 + int(b) - 0x80
		}
		if isSign(sign) && bytesOf(sign) == s[:size+1] {
			return sign, size + 1
		}
	}
	return 0, 0
}

// signsOf are a text's signs, or the place where it is not valid.
func signsOf(s string) (signs []int, at int, e api.Errno) {
	for at < len(s) {
		sign, size := first(s[at:])
		if size == 0 {
			return nil, at, api.ErrChar
		}
		signs, at = append(signs, sign), at+size
	}
	return signs, 0, api.OK
}

// haveText says that signs have these bytes, and that these are read as the signs.
func haveText(t *testing.T, want string, signs ...int) {
	t.Helper()
	if s, e := utf.Text(signs...); s != want || e != api.OK {
		t.Fatalf("%x: %x, not %x, error %d", signs, s, want, e)
	}
	haveSigns(t, want, signs, 0, api.OK)
}

// haveSigns says that a text has these signs, or is not valid at this place.
func haveSigns(t *testing.T, s string, signs []int, at int, e api.Errno) {
	t.Helper()
	gotSigns, gotAt, gotE := utf.Signs(s)
	if !slices.Equal(gotSigns, signs) || gotAt != at || gotE != e {
		t.Fatalf("%x: %x at %d, error %d, not %x at %d, error %d", s, gotSigns, gotAt, gotE, signs, at, e)
	}
}

// noSigns are numbers that are none.
var noSigns = []int{
	-1, -2, -0x80, math.MinInt, math.MinInt32, 0xD800, 0xD801, 0xDABC, 0xDFFE, 0xDFFF, last + 1, last + 2, 0x1FFFFF, 0x200000, math.MaxInt32, math.MaxInt,
	1 << 32, 1<<32 + 'a', 1<<33 - 1, math.MinInt + 'a', -1<<32 + 'a', // the lowest bits of these are signs'
}

// The document's examples.
func TestExamples(t *testing.T) {
	haveText(t, "\xC3\xA9", 0xE9)
	haveText(t, "\xE2\x82\xAC", 0x20AC)
	for _, s := range []string{"a.b. x", "a.b."} {
		if n := utf.Label(s); n != 3 {
			t.Error(s, n)
		}
	}
}

// P7.1, P7.3: all signs; their bytes rise with them.
func TestAllSigns(t *testing.T) {
	ahead := ""
	for n := -5; n <= last+5; n++ {
		if utf.Is(n) != isSign(n) {
			t.Fatalf("%x: %v", n, utf.Is(n))
		}
		if !isSign(n) {
			continue
		}
		haveText(t, bytesOf(n), n)
		if n > 0 && ahead >= bytesOf(n) {
			t.Fatalf("%x: %x behind %x", n, bytesOf(n), ahead)
		}
		ahead = bytesOf(n)
	}
}

// P7.1: numbers that are no signs, wherever they stand.
func TestNoSigns(t *testing.T) {
	for _, n := range noSigns {
		if utf.Is(n) || utf.Raw(n) {
			t.Errorf("%x: %v, raw %v", n, utf.Is(n), utf.Raw(n))
		}
		for _, signs := range [][]int{{n}, {n, 'a'}, {'a', n}, {'a', 0xE9, n, last, 0}, {n, n}} {
			if s, e := utf.Text(signs...); s != "" || e != api.ErrChar {
				t.Errorf("%x: %q, error %d", signs, s, e)
			}
		}
	}
}

// P7.1, P7.3: texts of many signs, and of none.
func TestTexts(t *testing.T) {
	haveText(t, "")
	haveText(t, "", []int{}...)
	haveText(t, "\x00\x00", 0, 0)
	haveText(t, "\x7F\xC2\x80\xDF\xBF\xE0\xA0\x80\xEF\xBF\xBF\xF0\x90\x80\x80\xF4\x8F\xBF\xBF", 0x7F, 0x80, 0x7FF, 0x800, 0xFFFF, 0x10000, last)
	haveText(t, "\xED\x9F\xBF\xEE\x80\x80", 0xD7FF, 0xE000)
	haveText(t, "\xEF\xBB\xBFa\xEF\xBF\xBD", 0xFEFF, 'a', 0xFFFD) // a mark of order, and what others put for no sign, are signs like others
	haveText(t, strings.Repeat("\xE2\x82\xAC", 100_000), slices.Repeat([]int{0x20AC}, 100_000)...)
	c := chances(1)
	for range 2000 {
		signs := make([]int, c.below(40))
		for i := range signs {
			signs[i] = c.sign()
		}
		haveText(t, textOf(signs...), signs...)
	}
}

// P7.1: where a text is not valid.
func TestNotValid(t *testing.T) {
	for s, at := range map[string]int{
		"\x80": 0, "\xBF": 0, "\xFF": 0, "\xFE": 0, "a\x80": 1, "\xC3\xA9\xA9": 2, // rests without a head, no heads
		"\xC2": 0, "\xE2\x82": 0, "\xE2": 0, "\xF0\x90\x80": 0, "\xF0\x90": 0, "\xF0": 0, "a\xC2": 1, "\xE2\x82\xAC\xE2\x82": 3, // not ended
		"\xC2a": 0, "\xE2\x82a": 0, "\xE2a\x82": 0, "\xF0\x90\x80a": 0, "ab\xF0\x90a\x80": 2, "\xC2\xC2\x80": 0, // broken off
		"\xC0\x80": 0, "\xC1\xBF": 0, "\xE0\x80\x80": 0, "\xE0\x9F\xBF": 0, "\xF0\x80\x80\x80": 0, "\xF0\x8F\xBF\xBF": 0, // more bytes than the sign has
		"\xED\xA0\x80": 0, "\xED\xBF\xBF": 0, "\xED\xA0\x80\xED\xB0\x80": 0, "\xEE\x80\x80\xED\xA0\x80": 3, // numbers that are left out
		"\xF4\x90\x80\x80": 0, "\xF5\x80\x80\x80": 0, "\xF7\xBF\xBF\xBF": 0, "\xF8\x88\x80\x80\x80": 0, // numbers that are too high
		"\xEF\xBF\xBD\x80": 3, "\xEF\xBF": 0, "\xEF\xBF\xBD\xEF\xBF": 3,
		strings.Repeat("a", 100_000) + "\xFF" + strings.Repeat("a", 9): 100_000,
	} {
		haveSigns(t, s, nil, at, api.ErrChar)
	}
}

// P7.1: all texts of two bytes, and of up to five out of those where something ends or begins.
func TestAllBytes(t *testing.T) {
	tried := func(s string) {
		signs, at, e := signsOf(s)
		haveSigns(t, s, signs, at, e)
	}
	for n := range 1 << 16 {
		tried(string([]byte{byte(n >> 8)}))
		tried(string([]byte{byte(n >> 8), byte(n)}))
	}
	edges := "\x00\x7F\x80\x8F\x90\x9F\xA0\xBF\xC0\xC1\xC2\xDF\xE0\xE1\xEC\xED\xEE\xEF\xF0\xF1\xF3\xF4\xF5\xF7\xF8\xFF"
	for each := range allTexts(4, edges) {
		tried(each)
	}
	c := chances(2)
	for range 100_000 {
		b := make([]byte, 5+c.below(8))
		for i := range b {
			b[i] = edges[c.below(len(edges))]
		}
		tried(string(b))
	}
}

// allTexts goes through all texts of up to n of some bytes.
func allTexts(n int, bytes string) func(func(string) bool) {
	return func(yield func(string) bool) {
		var goOn func(s string) bool
		goOn = func(s string) bool {
			if !yield(s) {
				return false
			}
			for i := 0; len(s) < n && i < len(bytes); i++ {
				if !goOn(s + bytes[i:i+1]) {
					return false
				}
			}
			return true
		}
		goOn("")
	}
}

// P7.1: which signs may stand raw.
func TestRaw(t *testing.T) {
	for n := -5; n <= last+5; n++ {
		want := isSign(n) && n > 0x20 && !slices.Contains([]int{'<', '>', '"', '{', '}', '|', '^', '`', '\\'}, n)
		if utf.Raw(n) != want {
			t.Errorf("%x: %v", n, utf.Raw(n))
		}
	}
}

// P7.3: texts stand as their signs do.
func TestTextsStandAsTheirSigns(t *testing.T) {
	c := chances(3)
	edges := []int{0, 0x7F, 0x80, 0x7FF, 0x800, 0xD7FF, 0xE000, 0xFFFF, 0x10000, last}
	some := func() []int {
		signs := make([]int, c.below(4))
		for i := range signs {
			signs[i] = edges[c.below(len(edges))]
		}
		return signs
	}
	for range 100_000 {
		a, b := some(), some()
		s, _ := utf.Text(a...)
		r, _ := utf.Text(b...)
		if cmp.Compare(s, r) != slices.Compare(a, b) {
			t.Fatalf("%x and %x", a, b)
		}
	}
}

// R3, R4: arguments are not changed, what is answered is new memory, and alike each time.
func TestSharesNothing(t *testing.T) {
	signs := []int{'a', 0xE9, 0x20AC, last, -1}
	for range 2 {
		if s, e := utf.Text(signs[:4]...); s != "a\xC3\xA9\xE2\x82\xAC\xF4\x8F\xBF\xBF" || e != api.OK {
			t.Fatal(s, e)
		}
		if s, e := utf.Text(signs...); s != "" || e != api.ErrChar {
			t.Fatal(s, e)
		}
		if !slices.Equal(signs, []int{'a', 0xE9, 0x20AC, last, -1}) {
			t.Fatal(signs)
		}
		haveSigns(t, "ab\xC3\xA9", []int{'a', 'b', 0xE9}, 0, api.OK)
		got, _, _ := utf.Signs("ab\xC3\xA9")
		clear(got[:cap(got)])
	}
}

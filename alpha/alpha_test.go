package alpha_test

import (
	"fmt"
	"math"
	"math/big"
	"slices"
	"strings"
	"testing"

	"ossuary/alpha"
	"ossuary/api"
	"ossuary/tucker"
)

const allSigns = 257

// chances are numbers that look like chance and are the same each time.
type chances uint64

func (c *chances) below(n int) int {
	*c = *c*6364136223846793005 + 1442695040888963407
	return int(uint64(*c)>>24) % n
}

// text is one of n bytes, out of some.
func (c *chances) text(n int, bytes string) string {
	b := make([]byte, n)
	for i := range b {
		b[i] = bytes[c.below(len(bytes))]
	}
	return string(b)
}

// allBytes is each byte once.
func allBytes() string {
	b := make([]byte, 256)
	for i := range b {
		b[i] = byte(i)
	}
	return string(b)
}

// through are numbers from 0 to one below n.
func through(n int) []int {
	numbers := make([]int, n)
	for i := range numbers {
		numbers[i] = i
	}
	return numbers
}

// vine are the lengths of a tree each of whose left rows has one weight.
func vine(n int) []int {
	lengths := make([]int, n)
	for i := range lengths {
		lengths[i] = max(1, min(i+1, n-1))
	}
	return lengths
}

// turned is a row, turned round.
func turned(row []int) []int {
	other := slices.Clone(row)
	slices.Reverse(other)
	return other
}

// fitting are all rows of n lengths, two at least, that fit: each tree's left row has fewer.
func fitting(n int) [][]int {
	if n == 1 {
		return [][]int{{0}}
	}
	all := [][]int{}
	for ahead := 1; ahead < n; ahead++ {
		for _, left := range fitting(ahead) {
			for _, right := range fitting(n - ahead) {
				lengths := slices.Concat(left, right)
				for i := range lengths {
					lengths[i]++
				}
				all = append(all, lengths)
			}
		}
	}
	return all
}

// shown are bits as a text of digits.
func shown(bits []bool) string {
	b := make([]byte, len(bits))
	for i, one := range bits {
		b[i] = '0'
		if one {
			b[i] = '1'
		}
	}
	return string(b)
}

// longhand are the words of lengths, as the chapter tells them: as numbers.
func longhand(t *testing.T, lengths []int) []string {
	t.Helper()
	n, words := new(big.Int), []string{}
	for i, length := range lengths {
		if i > 0 {
			n.Add(n, big.NewInt(1))
			if by := length - lengths[i-1]; by >= 0 {
				n.Lsh(n, uint(by))
			} else {
				if n.TrailingZeroBits() < uint(-by) {
					t.Fatalf("%v: fewer noughts at %d", lengths, i)
				}
				n.Rsh(n, uint(-by))
			}
		}
		words = append(words, fmt.Sprintf("%0*b", length, n))
	}
	return words
}

// made is the code of signs and lengths, which must be told.
func made(t *testing.T, signs, lengths []int) *alpha.Code {
	t.Helper()
	c, e := alpha.Make(signs, lengths)
	if e != api.OK || c == nil {
		t.Fatalf("%v by %v: error %d", signs, lengths, e)
	}
	return c
}

// codeOf is the code of texts, which must be told.
func codeOf(t *testing.T, texts ...string) *alpha.Code {
	t.Helper()
	c, e := alpha.Of(texts...)
	if e != api.OK || c == nil {
		t.Fatalf("%q: error %d", texts, e)
	}
	return c
}

// is says that a code has these signs and lengths, and the words that belong to them, and no others.
func is(t *testing.T, c *alpha.Code, signs, lengths []int) {
	t.Helper()
	if !slices.Equal(c.Signs(), signs) || !slices.Equal(c.Lengths(), lengths) {
		t.Fatalf("signs %v, not %v; lengths %v, not %v", c.Signs(), signs, c.Lengths(), lengths)
	}
	words := map[int]string{}
	for i, w := range longhand(t, lengths) {
		words[signs[i]] = w
	}
	for sign := -2; sign < allSigns+2; sign++ {
		if got := shown(c.Word(sign)); got != words[sign] {
			t.Fatalf("%v by %v: %d has %q, not %q", signs, lengths, sign, got, words[sign])
		}
	}
}

// The chapter's example.
func TestExample(t *testing.T) {
	c := codeOf(t, "a", "ab")
	is(t, c, []int{0, 98, 99}, []int{1, 2, 2})
	for sign, want := range map[int]string{0: "0", 98: "10", 99: "11"} {
		if got := shown(c.Word(sign)); got != want {
			t.Error(sign, got)
		}
	}
	if got := shown(putAlone(t, c, "ab")); got != "10110" {
		t.Error(got)
	}
}

// P6.1, P6.2: the words of all lengths that fit few signs.
func TestMakeOfFew(t *testing.T) {
	signs := []int{0, 1, 7, 98, 99, 200, 255, 256}
	is(t, made(t, []int{0}, []int{1}), []int{0}, []int{1})
	is(t, made(t, []int{256}, []int{1}), []int{256}, []int{1})
	for n := 2; n <= len(signs); n++ {
		for _, lengths := range fitting(n) {
			is(t, made(t, signs[:n], lengths), signs[:n], lengths)
			is(t, made(t, signs[len(signs)-n:], lengths), signs[len(signs)-n:], lengths)
		}
	}
}

// P6.1, P6.2: of all signs, in trees as deep and as even as they may be, and in others.
func TestMakeOfMany(t *testing.T) {
	all := through(allSigns)
	deep := vine(allSigns)
	even := append(slices.Repeat([]int{8}, 255), 9, 9)
	comb, zigzag := []int{}, []int{256} // the one's words go from long to short at once, the other's spine turns at each fork
	for _, length := range slices.Concat(vine(129), vine(128)) {
		comb = append(comb, length+1)
	}
	for length := 256; length > 0; length -= 2 {
		zigzag = slices.Concat([]int{length}, zigzag, []int{length - 1})
	}
	for _, lengths := range [][]int{deep, even, comb, zigzag} {
		is(t, made(t, all, lengths), all, lengths)
		is(t, made(t, all, turned(lengths)), all, turned(lengths))
	}
	c := chances(1)
	for range 100 {
		signs, weights := []int{}, []int{}
		for sign := range allSigns {
			if c.below(3) > 0 {
				signs, weights = append(signs, sign), append(weights, c.below(1<<c.below(20)))
			}
		}
		lengths, _ := tucker.Lengths(weights...)
		is(t, made(t, signs, lengths), signs, lengths)
	}
}

// P6.1: what is no code.
func TestMakeOfOthers(t *testing.T) {
	deep := vine(allSigns)
	for i, c := range [][2][]int{
		{nil, nil}, {{}, {}}, {nil, {1}}, {{0}, nil}, {{1}, {}},
		{{0, 1}, {1}}, {{0}, {1, 1}}, {{0, 1, 2}, {1, 1}}, {{0, 1}, {1, 2, 2}},
		{{1, 0}, {1, 1}}, {{1, 1}, {1, 1}}, {{0, 2, 1}, {1, 2, 2}}, {{0, 2, 2}, {1, 2, 2}}, {{0, 0, 2}, {1, 2, 2}},
		{{-1}, {1}}, {{257}, {1}}, {{-1, 0}, {1, 1}}, {{0, 257}, {1, 1}}, {{math.MinInt, math.MaxInt}, {1, 1}}, {{256, 257, 258}, {1, 2, 2}},
		{{0}, {0}}, {{0}, {2}}, {{0}, {-1}}, {{0, 1}, {1, 2}}, {{0, 1}, {2, 2}}, {{0, 1}, {0, 0}}, {{0, 1, 2}, {2, 1, 2}}, {{0, 1, 2}, {1, 1, 1}},
		{{0, 1}, {math.MinInt, math.MinInt}}, {{0, 1}, {math.MaxInt, math.MaxInt}},
		{through(allSigns + 1), vine(allSigns + 1)}, {through(allSigns), vine(allSigns + 1)}, {through(allSigns), deep[1:]}, {through(allSigns), slices.Repeat([]int{8}, allSigns)},
		{through(1 << 20), make([]int, 1<<20)},
	} {
		if c, e := alpha.Make(c[0], c[1]); c != nil || e != api.ErrArg {
			t.Error(i, e)
		}
	}
}

// ofTexts are the signs and lengths that the chapter asks for.
func ofTexts(texts []string) (signs, lengths []int) {
	often := make([]int, allSigns)
	often[0] = len(texts)
	for _, b := range []byte(strings.Join(texts, "")) {
		often[int(b)+1]++
	}
	weights := []int{}
	for sign, n := range often {
		if n > 0 {
			signs, weights = append(signs, sign), append(weights, n)
		}
	}
	lengths, _ = tucker.Lengths(weights...)
	return signs, lengths
}

// P6.1
func TestOf(t *testing.T) {
	all := allBytes()
	rows := [][]string{
		{""}, {"", "", ""}, {"a"}, {"aaaa"}, {"a", ""}, {"\x00"}, {"\xff"}, {"\x00\xff"},
		{"abab", "b", ""}, {"a", "ab"}, {"bb", "c", "dada"},
		{all}, {all, "", all + all}, {all[128:]}, {"ä", "\xe4", "\xff\xfe\x00"},
		slices.Repeat([]string{""}, 100_000), {strings.Repeat("e", 100_000)},
	}
	c := chances(2)
	for range 300 {
		texts := make([]string, 1+c.below(20))
		for i := range texts {
			texts[i] = c.text(c.below(30), all[:1+c.below(256)])
		}
		rows = append(rows, texts)
	}
	for _, texts := range rows {
		signs, lengths := ofTexts(texts)
		is(t, codeOf(t, texts...), signs, lengths)
	}
}

// P6.1: of no texts.
func TestOfNone(t *testing.T) {
	for i, texts := range [][]string{nil, {}} {
		if c, e := alpha.Of(texts...); c != nil || e != api.ErrArg {
			t.Error(i, e)
		}
	}
}

// P6.1: a sign that stands as often as it may, and once more.
func TestOfTooOften(t *testing.T) {
	t.Parallel()
	texts := slices.Repeat([]string{strings.Repeat("a", 1<<22)}, tucker.MaxWeight>>22)
	is(t, codeOf(t, texts...), []int{0, 98}, []int{1, 1})
	if c, e := alpha.Of(append(texts, "a")...); c != nil || e != api.ErrLong {
		t.Error(e)
	}
}

// R3: what is answered is new memory, and arguments are neither changed nor kept.
func TestCodesShareNothing(t *testing.T) {
	signs, lengths := []int{0, 1, 2, 200, 9}, []int{2, 3, 3, 1, 9}
	c := made(t, signs[:4], lengths[:4])
	if !slices.Equal(signs, []int{0, 1, 2, 200, 9}) || !slices.Equal(lengths, []int{2, 3, 3, 1, 9}) {
		t.Fatal(signs, lengths)
	}
	clear(signs)
	clear(lengths)
	for range 2 {
		is(t, c, []int{0, 1, 2, 200}, []int{2, 3, 3, 1})
		for _, row := range [][]int{c.Signs(), c.Lengths()} {
			clear(row[:cap(row)])
		}
		for sign := range allSigns {
			w := c.Word(sign)
			for i := range w[:cap(w)] {
				w[:cap(w)][i] = true
			}
		}
	}
	texts := []string{"b", "a", ""}
	c = codeOf(t, texts...)
	if !slices.Equal(texts, []string{"b", "a", ""}) {
		t.Fatal(texts)
	}
	clear(texts)
	is(t, c, []int{0, 98, 99}, []int{1, 2, 2})
}

// R4: codes of the same texts are alike, in whatever order these come.
func TestAlikeEachTime(t *testing.T) {
	texts := []string{"one", "two", "three", "", "seven"}
	signs, lengths := ofTexts(texts)
	for range 5 {
		texts = append(texts[1:], texts[0])
		codeOf(t, "some", "others")
		is(t, codeOf(t, texts...), signs, lengths)
	}
}

// P6.5: no word is the beginning of another one, and words rise with their signs.
func TestNoWordBeginsAnother(t *testing.T) {
	c := chances(3)
	for range 100 {
		code := codeOf(t, c.text(1+c.below(300), allBytes()[:1+c.below(256)]), "")
		ahead := ""
		for _, sign := range code.Signs() {
			w := shown(code.Word(sign))
			if ahead >= w || ahead != "" && strings.HasPrefix(w, ahead) {
				t.Fatal(sign, ahead, w)
			}
			ahead = w
		}
	}
}

// P6.5: no other code in order takes fewer bits for the texts that it is of.
func TestNoCodeTakesFewer(t *testing.T) {
	c := chances(4)
	for n := 2; n <= 7; n++ {
		all := fitting(n)
		for range 40 {
			some := "abcdef"[:n-1]
			texts := []string{some}
			for range c.below(12) {
				texts = append(texts, c.text(c.below(8), some[c.below(len(some)):]))
			}
			best := codeOf(t, texts...)
			for _, lengths := range all {
				if len(best.Signs()) != len(lengths) {
					t.Fatal(texts, best.Signs())
				}
				if long, least := bitsFor(t, made(t, best.Signs(), lengths), texts), bitsFor(t, best, texts); long < least {
					t.Fatalf("%q: %d bits by %v, %d by %v", texts, long, lengths, least, best.Lengths())
				}
			}
		}
	}
}

// bitsFor is how many bits texts take, all together.
func bitsFor(t *testing.T, c *alpha.Code, texts []string) int {
	t.Helper()
	sum := 0
	for _, s := range texts {
		long, e := c.Long(s)
		if e != api.OK {
			t.Fatalf("%q: error %d", s, e)
		}
		sum += long
	}
	return sum
}

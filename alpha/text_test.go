package alpha_test

import (
	"cmp"
	"slices"
	"strings"
	"testing"

	"ossuary/alpha"
	"ossuary/api"
	"ossuary/bits"
	"ossuary/flow"
)

// bitsOf are the bits that a writer was given.
func bitsOf(t *testing.T, w *flow.Writer) []bool {
	t.Helper()
	v, e := w.Vec()
	if e != api.OK {
		t.Fatalf("a writer is spoilt: %d", e)
	}
	ones := make([]bool, v.Len())
	for i := range ones {
		ones[i] = v.Get(i)
	}
	return ones
}

// putAlone are the bits of a text, which must be put.
func putAlone(t *testing.T, c *alpha.Code, s string) []bool {
	t.Helper()
	w := flow.NewWriter()
	if e := c.Put(w, s); e != api.OK {
		t.Fatalf("%q: error %d", s, e)
	}
	return bitsOf(t, w)
}

// reading is a reader of digits, from the first on.
func reading(t *testing.T, digits string) *flow.Reader {
	t.Helper()
	ones := make([]bool, len(digits))
	for i := range ones {
		ones[i] = digits[i] == '1'
	}
	v, _ := bits.Of(ones...)
	r, e := flow.NewReader(v, 0)
	if e != api.OK {
		t.Fatal(e)
	}
	return r
}

// gets says that a code gets a text and an error, and where the reader stands behind it.
func gets(t *testing.T, c *alpha.Code, r *flow.Reader, s string, e api.Errno, at int) {
	t.Helper()
	ahead := r.At()
	got, told := c.Get(r)
	if got != s || told != e || r.At() != at {
		t.Fatalf("from %d: %q, %d, at %d; not %q, %d, at %d", ahead, got, told, r.At(), s, e, at)
	}
	want := api.OK
	if e == api.ErrShape {
		want = e
	}
	if r.Err() != want {
		t.Fatalf("from %d: the reader has %d, not %d", ahead, r.Err(), want)
	}
}

// longBits are a text's bits, put together of words.
func longBits(c *alpha.Code, s string) string {
	all := ""
	for i := range len(s) {
		all += shown(c.Word(int(s[i]) + 1))
	}
	return all + shown(c.Word(0))
}

// P6.3: texts' bits are put one behind the other, behind what was put, and there are as many as Long tells.
func TestPut(t *testing.T) {
	all := allBytes()
	chance := chances(11)
	for range 60 {
		some := all[:1+chance.below(256)]
		c := codeOf(t, chance.text(300, some), some)
		w, want := flow.NewWriter(), "101"
		w.Put(true, false, true)
		for range 10 {
			s := chance.text(chance.below(20), some)
			long, e := c.Long(s)
			if e != api.OK || long != len(longBits(c, s)) {
				t.Fatal(s, long, e)
			}
			if e := c.Put(w, s); e != api.OK {
				t.Fatal(s, e)
			}
			want += longBits(c, s)
			if got := shown(bitsOf(t, w)); got != want {
				t.Fatalf("%q: %s, not %s", s, got, want)
			}
		}
	}
}

// P6.3: a text whose bytes, or whose end, have no word. Nothing is put, and the writer is not spoilt.
func TestPutWithoutWords(t *testing.T) {
	ends, endless := codeOf(t, "abba", ""), made(t, []int{98, 99}, []int{1, 1})
	w := flow.NewWriter()
	for i, x := range []struct {
		c *alpha.Code
		s string
	}{
		{ends, "c"}, {ends, "abc"}, {ends, "cab"}, {ends, "acb"}, {ends, "\x00"}, {ends, "\xff"}, {ends, "`"}, {ends, "ab\x62\x61A"},
		{endless, ""}, {endless, "a"}, {endless, "abab"}, {endless, "c"},
		{made(t, []int{0}, []int{1}), "a"}, {made(t, []int{98}, []int{1}), "a"},
	} {
		if e := x.c.Put(w, x.s); e != api.ErrArg || w.Len() != 0 {
			t.Error(i, e, w.Len())
		}
		if n, e := x.c.Long(x.s); n != 0 || e != api.ErrArg {
			t.Error(i, n, e)
		}
		for _, none := range []*flow.Writer{nil, {}} { // what flow.Put tells comes behind that
			if e := x.c.Put(none, x.s); e != api.ErrArg {
				t.Error(i, e)
			}
		}
	}
	if e := ends.Put(w, "ab"); e != api.OK || shown(bitsOf(t, w)) != longBits(ends, "ab") {
		t.Error(e)
	}
}

// P6.3: what flow.Put tells.
func TestPutTellsOfTheWriter(t *testing.T) {
	c := codeOf(t, "ab", "")
	for i, none := range []*flow.Writer{nil, {}} {
		if e := c.Put(none, "ab"); e != api.ErrNil {
			t.Error(i, e)
		}
	}
	w := flow.NewWriter()
	w.Number(-1)
	if e := c.Put(w, "ab"); e != api.ErrArg || w.Len() != 0 {
		t.Error(e, w.Len())
	}
	if e := c.Put(w, "z"); e != api.ErrArg {
		t.Error(e)
	}
	w = flow.NewWriter()
	w.Put(make([]bool, api.MaxBits)...)
	w.Put(true)
	if e := c.Put(w, "ab"); e != api.ErrLong || w.Len() != api.MaxBits {
		t.Error(e, w.Len())
	}
	if e := c.Put(w, "z"); e != api.ErrArg {
		t.Error(e)
	}
}

// P6.3: as many bits as there may be, and one more: nothing of that is put, and the writer is spoilt.
func TestPutTooMany(t *testing.T) {
	c := made(t, []int{0, 98, 99}, []int{1, 2, 2})
	most := strings.Repeat("a", api.MaxBits/2-1)
	w := flow.NewWriter()
	w.Put(true)
	if e := c.Put(w, most); e != api.OK || w.Len() != api.MaxBits {
		t.Fatal(e, w.Len())
	}
	if e := c.Put(w, ""); e != api.ErrLong || w.Len() != api.MaxBits {
		t.Fatal(e, w.Len())
	}
	alone := made(t, []int{0, 98, 99}, []int{2, 2, 1})
	w = flow.NewWriter()
	if e := alone.Put(w, most); e != api.OK || w.Len() != api.MaxBits {
		t.Fatal(e, w.Len())
	}
	w = flow.NewWriter()
	if e := alone.Put(w, most+"b"); e != api.ErrLong || w.Len() != 0 {
		t.Fatal(e, w.Len())
	}
	w = flow.NewWriter()
	w.Put(true, true)
	for _, s := range []string{most, "a", ""} {
		if e := c.Put(w, s); e != api.ErrLong || w.Len() != 2 {
			t.Fatal(len(s), e, w.Len())
		}
	}
	if v, e := w.Vec(); v != nil || e != api.ErrLong {
		t.Fatal(e)
	}
}

// P6.3: a text that has more bits than any writer takes.
func TestPutLongTexts(t *testing.T) {
	deep := made(t, through(allSigns), vine(allSigns))
	s := strings.Repeat("\xff", 1<<22)
	if long, e := deep.Long(s); long != 256<<22+1 || e != api.OK {
		t.Error(long, e)
	}
	w := flow.NewWriter()
	if e := deep.Put(w, s); e != api.ErrLong || w.Len() != 0 {
		t.Error(e, w.Len())
	}
	if e := deep.Put(w, ""); e != api.ErrLong {
		t.Error(e)
	}
	spoilt := flow.NewWriter()
	spoilt.Gamma(0)
	if e := deep.Put(spoilt, s); e != api.ErrArg {
		t.Error(e)
	}
	if e := deep.Put(nil, s); e != api.ErrNil {
		t.Error(e)
	}
}

// P6.5: what was put is got, from wherever it was put.
func TestGetWhatWasPut(t *testing.T) {
	all := allBytes()
	chance := chances(12)
	for i := range 60 {
		some := all[:1+chance.below(256)]
		c := codeOf(t, chance.text(300, some), some)
		if i%3 == 0 {
			c = made(t, through(allSigns), vine(allSigns))
		}
		w := flow.NewWriter()
		texts := []string{"", some, ""}
		for range 20 {
			texts = append(texts, chance.text(chance.below(20), some))
		}
		w.Number(7, 5)
		ends := []int{}
		for _, s := range texts {
			c.Put(w, s)
			ends = append(ends, w.Len())
		}
		v, _ := w.Vec()
		r, _ := flow.NewReader(v, 7)
		for i, s := range texts {
			gets(t, c, r, s, api.OK, ends[i])
		}
		for range 2 {
			gets(t, c, r, "", api.ErrShape, v.Len())
		}
	}
}

// P6.3: bits that end ahead of the end's word: within a word, behind one, and where there are none.
func TestGetOfBitsThatEnd(t *testing.T) {
	c := codeOf(t, "a", "ab") // 0, 10, 11
	for _, digits := range []string{"", "1", "10", "11", "101", "1011", "10111"} {
		r := reading(t, digits)
		gets(t, c, r, "", api.ErrShape, len(digits))
		gets(t, c, r, "", api.ErrShape, len(digits))
	}
	r := reading(t, "1001")
	gets(t, c, r, "a", api.OK, 3)
	gets(t, c, r, "", api.ErrShape, 4)
}

// P6.3: a reader that is spoilt stays where it was.
func TestGetOfSpoilt(t *testing.T) {
	c := codeOf(t, "a", "ab")
	r := reading(t, "100100")
	gets(t, c, r, "a", api.OK, 3)
	r.Number(61)
	gets(t, c, r, "", api.ErrShape, 3)
}

// P6.3: of one sign alone a bit may lead to no word.
func TestGetOfOneSign(t *testing.T) {
	end := codeOf(t, "", "")
	r := reading(t, "0110")
	gets(t, end, r, "", api.OK, 1)
	gets(t, end, r, "", api.ErrCode, 2)
	gets(t, end, r, "", api.ErrCode, 3)
	gets(t, end, r, "", api.OK, 4)
	gets(t, end, r, "", api.ErrShape, 4)
	endless := made(t, []int{98}, []int{1})
	r = reading(t, "00100")
	gets(t, endless, r, "", api.ErrCode, 3)
	gets(t, endless, r, "", api.ErrShape, 5)
}

// P6.3: a code without the end reads up to the last bit.
func TestGetWithoutEnd(t *testing.T) {
	c := made(t, []int{1, 98, 256}, []int{2, 2, 1})
	for _, digits := range []string{"", "0", "00", "0011010", strings.Repeat("1", 1000)} {
		gets(t, c, reading(t, digits), "", api.ErrShape, len(digits))
	}
}

// P6.3: any bits are read as words, and of lengths of two signs at least each bit leads to one.
func TestGetOfAnyBits(t *testing.T) {
	chance := chances(13)
	for range 200 {
		some := allBytes()[:1+chance.below(40)]
		c := codeOf(t, chance.text(100, some), "")
		words := map[string]int{}
		for _, sign := range c.Signs() {
			words[shown(c.Word(sign))] = sign
		}
		digits := chance.text(chance.below(400), "01")
		r := reading(t, digits)
		text, at := "", 0
		for to := range len(digits) + 1 {
			sign, is := words[digits[at:to]]
			switch {
			case is && sign == 0:
				gets(t, c, r, text, api.OK, to)
				text, at = "", to
			case is:
				text, at = text+string([]byte{byte(sign - 1)}), to
			}
		}
		gets(t, c, r, "", api.ErrShape, len(digits))
	}
}

// P6.3, R5: of no reader.
func TestGetOfNoReader(t *testing.T) {
	r := reading(t, "1000")
	copied := *r
	for i, none := range []*flow.Reader{nil, {}, &copied} {
		if s, e := codeOf(t, "a", "").Get(none); s != "" || e != api.ErrNil {
			t.Error(i, s, e)
		}
	}
}

// P6.4, R5: no code does nothing. A copy is no code: no call answered it.
func TestNoCode(t *testing.T) {
	copied := *codeOf(t, "a", "ab")
	for i, none := range []*alpha.Code{nil, {}, &copied} {
		if none.Signs() != nil || none.Lengths() != nil {
			t.Error(i, none.Signs(), none.Lengths())
		}
		for sign := -1; sign <= allSigns; sign++ {
			if w := none.Word(sign); w != nil {
				t.Error(i, sign, w)
			}
		}
		w, r := flow.NewWriter(), reading(t, "100")
		for _, s := range []string{"", "a", "z"} {
			if e := none.Put(w, s); e != api.ErrNil || w.Len() != 0 {
				t.Error(i, e, w.Len())
			}
			if e := none.Put(nil, s); e != api.ErrNil {
				t.Error(i, e)
			}
			if n, e := none.Long(s); n != 0 || e != api.ErrNil {
				t.Error(i, n, e)
			}
		}
		if s, e := none.Get(r); s != "" || e != api.ErrNil || r.At() != 0 {
			t.Error(i, s, e, r.At())
		}
		if s, e := none.Get(nil); s != "" || e != api.ErrNil {
			t.Error(i, s, e)
		}
		if _, e := w.Vec(); e != api.OK {
			t.Error(i, e)
		}
	}
}

// P6.5: of two texts the one that stands ahead has the bits that stand ahead.
func TestBitsStandAsTexts(t *testing.T) {
	chance := chances(14)
	for range 60 {
		some := chance.text(1+chance.below(12), allBytes())
		c := codeOf(t, chance.text(50, some), some)
		texts := []string{"", some, some + some}
		for range 40 {
			texts = append(texts, chance.text(chance.below(6), some))
		}
		for _, one := range texts {
			for _, other := range texts {
				by := cmp.Compare(shown(putAlone(t, c, one)), shown(putAlone(t, c, other)))
				if by != cmp.Compare(one, other) {
					t.Fatalf("%q and %q: %d", one, other, by)
				}
			}
		}
	}
}

// R3, R4: putting and getting leave the code as it was.
func TestCodesStayAsTheyAre(t *testing.T) {
	c := codeOf(t, "abab", "b", "")
	signs, lengths := c.Signs(), c.Lengths()
	for range 3 {
		if got := putAlone(t, c, "ba"); !slices.Equal(got, []bool{true, true, true, false, false}) {
			t.Fatal(got)
		}
		c.Put(nil, "a")
		c.Get(nil)
		gets(t, c, reading(t, "11100"), "ba", api.OK, 5)
		is(t, c, signs, lengths)
	}
}

package bits_test

import (
	"bytes"
	"math"
	"slices"
	"testing"

	"ossuary/api"
	"ossuary/bits"
)

// chances are numbers that look like chance and are the same each time.
type chances uint64

func (c *chances) below(n int) int {
	*c = *c*6364136223846793005 + 1442695040888963407
	return int(uint64(*c)>>33) % n
}

// some are n bits, of which about part in a hundred are 1.
func some(c *chances, n, part int) []bool {
	ones := make([]bool, n)
	for i := range ones {
		ones[i] = c.below(100) < part
	}
	return ones
}

// packed are the bytes of a vector, as the chapter tells them.
func packed(ones []bool) []byte {
	b := make([]byte, (len(ones)+7)/8)
	for i, one := range ones {
		if one {
			b[i/8] |= 1 << (i % 8)
		}
	}
	return b
}

// lengths stand around the ends of bytes, of words, and of greater pieces.
func lengths() []int {
	return []int{0, 1, 5, 7, 8, 9, 63, 64, 65, 511, 512, 513, 1023, 1024, 1025, 1536, 4096, 5000}
}

// agree holds all that a vector tells against the bits that it must have.
func agree(t *testing.T, v *bits.Vec, ones []bool) {
	t.Helper()
	if v.Len() != len(ones) {
		t.Fatalf("Len %d, not %d", v.Len(), len(ones))
	}
	if !bytes.Equal(v.Bytes(), packed(ones)) {
		t.Fatalf("Bytes of %d bits", len(ones))
	}
	k := 0
	for i, one := range ones {
		if v.Get(i) != one {
			t.Fatalf("Get(%d) of %d bits", i, len(ones))
		}
		if n := v.Rank(i); n != k {
			t.Fatalf("Rank(%d) of %d bits: %d, not %d", i, len(ones), n, k)
		}
		if one {
			if at, is := v.Select(k); at != i || !is {
				t.Fatalf("Select(%d) of %d bits: %d %v, not %d", k, len(ones), at, is, i)
			}
			k++
		}
	}
	if v.Ones() != k {
		t.Fatalf("Ones %d, not %d", v.Ones(), k)
	}
	for _, i := range []int{len(ones), len(ones) + 1, len(ones) + 64, math.MaxInt} {
		if v.Rank(i) != k || v.Get(i) {
			t.Fatalf("place %d of %d bits: %d %v", i, len(ones), v.Rank(i), v.Get(i))
		}
	}
	for _, i := range []int{-1, -64, math.MinInt} {
		if v.Rank(i) != 0 || v.Get(i) {
			t.Fatalf("place %d of %d bits: %d %v", i, len(ones), v.Rank(i), v.Get(i))
		}
	}
	for _, none := range []int{-1, k, k + 1, math.MinInt, math.MaxInt} {
		if at, is := v.Select(none); at != 0 || is {
			t.Fatalf("Select(%d) of %d ones: %d %v", none, k, at, is)
		}
	}
}

// P1.1
func TestNew(t *testing.T) {
	for _, c := range []struct {
		n int
		e api.Errno
	}{
		{-1, api.ErrArg}, {math.MinInt, api.ErrArg},
		{api.MaxBits + 1, api.ErrLong}, {math.MaxInt, api.ErrLong},
	} {
		if v, e := bits.New(c.n); v != nil || e != c.e {
			t.Error(c.n, v != nil, e)
		}
	}
	for _, n := range lengths() {
		v, e := bits.New(n)
		if e != api.OK {
			t.Fatal(n, e)
		}
		agree(t, v, make([]bool, n))
	}
}

// P1.1
func TestOf(t *testing.T) {
	c := chances(1)
	for _, n := range lengths() {
		for _, part := range []int{0, 3, 50, 97, 100} {
			ones := some(&c, n, part)
			v, e := bits.Of(ones...)
			if e != api.OK {
				t.Fatal(n, e)
			}
			agree(t, v, ones)
		}
	}
	if v, e := bits.Of(make([]bool, api.MaxBits+1)...); v != nil || e != api.ErrLong {
		t.Error(v != nil, e)
	}
}

// P1.1
func TestReadTellsErrorsInOrder(t *testing.T) {
	for i, c := range []struct {
		n int
		b []byte
		e api.Errno
	}{
		{-1, nil, api.ErrArg}, {-1, []byte{1}, api.ErrArg}, {math.MinInt, nil, api.ErrArg},
		{api.MaxBits + 1, nil, api.ErrLong}, {math.MaxInt, []byte{0}, api.ErrLong},
		{api.MaxBits + 1, make([]byte, api.MaxBits/8+1), api.ErrLong},
		{api.MaxBits, nil, api.ErrShape},
		{0, []byte{0}, api.ErrShape}, {1, nil, api.ErrShape}, {1, []byte{1, 0}, api.ErrShape},
		{8, nil, api.ErrShape}, {8, []byte{1, 0}, api.ErrShape}, {9, []byte{1}, api.ErrShape},
		{1, []byte{2}, api.ErrShape}, {7, []byte{128}, api.ErrShape}, {9, []byte{0, 2}, api.ErrShape}, {15, []byte{0, 128}, api.ErrShape},
	} {
		if v, e := bits.Read(c.n, c.b); v != nil || e != c.e {
			t.Error(i, v != nil, e)
		}
	}
}

// P1.1, P1.2
func TestReadOfBytes(t *testing.T) {
	for _, b := range [][]byte{nil, {}} {
		v, e := bits.Read(0, b)
		if e != api.OK {
			t.Fatal(e)
		}
		agree(t, v, nil)
	}
	c := chances(2)
	for _, n := range lengths() {
		ones := some(&c, n, 40)
		v, e := bits.Read(n, packed(ones))
		if e != api.OK {
			t.Fatal(n, e)
		}
		agree(t, v, ones)
		again, e := bits.Read(n, v.Bytes())
		if e != api.OK {
			t.Fatal(n, e)
		}
		agree(t, again, ones)
	}
}

// P1.1: each bit that is no place must be 0.
func TestReadOfSpareBits(t *testing.T) {
	for n := 1; n <= 24; n++ {
		for i := range (n + 7) / 8 * 8 {
			b := make([]byte, (n+7)/8)
			b[i/8] = 1 << (i % 8)
			want := api.OK
			if i >= n {
				want = api.ErrShape
			}
			if v, e := bits.Read(n, b); e != want || (v == nil) != (e != api.OK) {
				t.Error(n, i, v != nil, e)
			}
		}
	}
}

// P1.2
func TestSet(t *testing.T) {
	c := chances(3)
	for _, n := range lengths()[1:] {
		ones := some(&c, n, 30)
		v, _ := bits.Of(ones...)
		for range 40 {
			one := c.below(2) == 0
			places := make([]int, c.below(20))
			for i := range places {
				places[i] = c.below(n)
				ones[places[i]] = one
			}
			if e := v.Set(one, places...); e != api.OK {
				t.Fatal(n, e)
			}
			if c.below(8) == 0 {
				agree(t, v, ones)
			}
		}
		agree(t, v, ones)
	}
}

// P1.2
func TestSetCountsPlacesOnce(t *testing.T) {
	v, _ := bits.New(10)
	for _, c := range []struct {
		one    bool
		places []int
		b      []byte
	}{
		{true, []int{3, 3, 3}, []byte{8, 0}}, {true, []int{3, 9, 0}, []byte{9, 2}}, {true, nil, []byte{9, 2}},
		{false, []int{1, 1}, []byte{9, 2}}, {false, []int{9, 9, 3}, []byte{1, 0}}, {false, nil, []byte{1, 0}},
	} {
		e := v.Set(c.one, c.places...)
		ones := 0
		for i := range 10 {
			ones += int(c.b[i/8] >> (i % 8) & 1)
		}
		if e != api.OK || !bytes.Equal(v.Bytes(), c.b) || v.Ones() != ones || v.Rank(10) != ones {
			t.Error(c.places, e, v.Bytes(), v.Ones())
		}
	}
}

// P1.2
func TestSetOfNoPlaceDoesNothing(t *testing.T) {
	ones := []bool{true, false, true, true, false, false, false, false, true, false}
	v, _ := bits.Of(ones...)
	for _, places := range [][]int{{-1}, {10}, {math.MinInt}, {math.MaxInt}, {1, 4, 10}, {10, 1}, {0, -1, 2}, {15}, {63}} {
		for _, one := range []bool{true, false} {
			if e := v.Set(one, places...); e != api.ErrRange {
				t.Error(places, one, e)
			}
			agree(t, v, ones)
		}
	}
	none, _ := bits.New(0)
	if e := none.Set(true, 0); e != api.ErrRange {
		t.Error(e)
	}
	if e := none.Set(true); e != api.OK {
		t.Error(e)
	}
}

// P1.3, at the limit.
func TestLongest(t *testing.T) {
	all, e := bits.Read(api.MaxBits, bytes.Repeat([]byte{255}, api.MaxBits/8))
	if e != api.OK || all.Len() != api.MaxBits || all.Ones() != api.MaxBits {
		t.Fatal(e)
	}
	few, e := bits.New(api.MaxBits)
	if e != api.OK || few.Set(true, 0, api.MaxBits/2, api.MaxBits-1) != api.OK || few.Set(true, api.MaxBits) != api.ErrRange {
		t.Fatal(e)
	}
	for _, k := range []int{0, 1, 511, 512, 1 << 20, api.MaxBits/2 - 1, api.MaxBits / 2, api.MaxBits - 1} {
		if i, is := all.Select(k); i != k || !is || all.Rank(k) != k || all.Rank(k+1) != k+1 {
			t.Error(k, i, is)
		}
	}
	for k, want := range []int{0, api.MaxBits / 2, api.MaxBits - 1} {
		if i, is := few.Select(k); i != want || !is || few.Rank(i) != k || few.Rank(i+1) != k+1 {
			t.Error(k, i, is)
		}
	}
	if i, is := few.Select(3); i != 0 || is || few.Ones() != 3 {
		t.Error(i, is)
	}
	ones := make([]bool, api.MaxBits)
	ones[api.MaxBits-1] = true
	if v, e := bits.Of(ones...); e != api.OK || v.Rank(api.MaxBits-1) != 0 || v.Ones() != 1 {
		t.Error(e)
	}
}

// P1.4, R5: a nil one, one that no call answered, and a copy, which none answered either.
func TestNoVector(t *testing.T) {
	answered, _ := bits.Of(true, true, false)
	copied := *answered
	over, _ := bits.New(9)
	*over = *answered
	for i, v := range []*bits.Vec{nil, {}, new(bits.Vec), &copied, over} {
		if e := v.Set(true); e != api.ErrNil {
			t.Error(i, e)
		}
		if e := v.Set(false, 0, 1); e != api.ErrNil {
			t.Error(i, e)
		}
		if e := v.Set(true, -1); e != api.ErrNil {
			t.Error(i, e)
		}
		for _, at := range []int{-1, 0, 1, math.MaxInt} {
			if k, is := v.Select(at); v.Get(at) || v.Rank(at) != 0 || k != 0 || is {
				t.Error(i, at)
			}
		}
		if v.Len() != 0 || v.Ones() != 0 || v.Bytes() != nil {
			t.Error(i, v.Len(), v.Ones(), v.Bytes())
		}
	}
	agree(t, answered, []bool{true, true, false})
}

// P1.5
func TestRankAndSelectUndoEachOther(t *testing.T) {
	c := chances(4)
	for _, n := range lengths() {
		for _, part := range []int{1, 20, 80, 99} {
			v, _ := bits.Of(some(&c, n, part)...)
			for k := range v.Ones() {
				i, is := v.Select(k)
				if !is || !v.Get(i) || v.Rank(i) != k {
					t.Fatal(n, k, i, is)
				}
			}
			for i := -2; i < n+2; i++ {
				rise := v.Rank(i+1) - v.Rank(i)
				if v.Get(i) != (rise == 1) || rise < 0 || rise > 1 {
					t.Fatal(n, i, rise)
				}
				if at, is := v.Select(v.Rank(i)); v.Get(i) && (at != i || !is) {
					t.Fatal(n, i, at, is)
				}
			}
		}
	}
}

// R3
func TestMemoryIsItsOwn(t *testing.T) {
	ones := []bool{true, false, true, true, false}
	v, _ := bits.Of(ones...)
	want := slices.Clone(ones)
	ones[0], ones[1] = false, true
	agree(t, v, want)

	b := []byte{13}
	read, _ := bits.Read(5, b)
	b[0] = 0
	agree(t, read, want)

	told := read.Bytes()
	told[0] = 0
	agree(t, read, want)

	first := read.Bytes()
	places := []int{4, 1}
	if read.Set(true, places...); !slices.Equal(places, []int{4, 1}) || !bytes.Equal(first, []byte{13}) {
		t.Error(places, first)
	}
	agree(t, v, want)
}

// The chapter's example.
func TestExample(t *testing.T) {
	v, e := bits.Of(true, false, true, true, false)
	if e != api.OK || !bytes.Equal(v.Bytes(), []byte{13}) {
		t.Fatal(e, v.Bytes())
	}
	for i, want := range []int{0, 1, 1, 2, 3, 3} {
		if n := v.Rank(i); n != want {
			t.Error(i, n)
		}
	}
	for k, want := range []int{0, 2, 3} {
		if i, is := v.Select(k); i != want || !is {
			t.Error(k, i, is)
		}
	}
}

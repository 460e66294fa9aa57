package flow_test

import (
	"bytes"
	"math"
	"slices"
	"testing"

	"ossuary/api"
	"ossuary/bits"
	"ossuary/flow"
)

// reading is a reader of some bits, from a place on.
func reading(t *testing.T, ones []bool, at int) *flow.Reader {
	t.Helper()
	v, _ := bits.Of(ones...)
	r, e := flow.NewReader(v, at)
	if e != api.OK || r.At() != at || r.Err() != api.OK {
		t.Fatalf("a reader at %d of %d bits: %d, at %d, %d", at, len(ones), e, r.At(), r.Err())
	}
	return r
}

// some are n bits, of which about part in a hundred are 1.
func some(c *chances, n, part int) []bool {
	ones := make([]bool, n)
	for i := range ones {
		ones[i] = c.below(100) < part
	}
	return ones
}

// value is the number of digits.
func value(ones []bool) int {
	n := 0
	for _, one := range ones {
		n *= 2
		if one {
			n++
		}
	}
	return n
}

// gammaAt is the number whose gamma stands at the beginning of bits, and how many bits it has; 0 if none stands there wholly.
func gammaAt(ones []bool) (n, size int) {
	noughts := slices.Index(ones, true)
	if noughts < 0 || noughts > 59 || 2*noughts+1 > len(ones) {
		return 0, 0
	}
	return value(ones[noughts : 2*noughts+1]), 2*noughts + 1
}

// spoilt says that a reader is spoilt, stays at a place, and reads 0 from then on.
func spoilt(t *testing.T, r *flow.Reader, at int) {
	t.Helper()
	for range 2 {
		if r.Err() != api.ErrShape || r.At() != at {
			t.Fatalf("a spoilt reader: at %d, not %d; %d", r.At(), at, r.Err())
		}
		if r.Next() || r.Number(1) != 0 || r.Number(0) != 0 || r.Number(61) != 0 || r.Gamma() != 0 {
			t.Fatalf("a spoilt reader at %d reads", at)
		}
	}
}

// stands says that a reader is sound, at a place.
func stands(t *testing.T, r *flow.Reader, at int) {
	t.Helper()
	if r.Err() != api.OK || r.At() != at {
		t.Fatalf("a reader: at %d, not %d; %d", r.At(), at, r.Err())
	}
}

// P3.2
func TestNewReader(t *testing.T) {
	for _, n := range []int{0, 1, 7, 8, 9, 64, 100} {
		v, _ := bits.New(n)
		for at := range n + 1 {
			if r, e := flow.NewReader(v, at); e != api.OK || r.At() != at || r.Err() != api.OK {
				t.Error(n, at, e, r.At(), r.Err())
			}
		}
		for _, at := range []int{math.MinInt, -1, n + 1, n + 64, math.MaxInt} {
			if r, e := flow.NewReader(v, at); e != api.ErrRange || r != nil {
				t.Error(n, at, e)
			}
		}
	}
}

// P3.2, R5: what is no vector is told ahead of a place that is none.
func TestNewReaderOfNoVector(t *testing.T) {
	v, _ := bits.Of(true, false)
	copied := *v
	for i, none := range []*bits.Vec{nil, {}, &copied} {
		for _, at := range []int{math.MinInt, -1, 0, 1, math.MaxInt} {
			if r, e := flow.NewReader(none, at); e != api.ErrNil || r != nil {
				t.Error(i, at, e)
			}
		}
	}
}

// P3.2
func TestNext(t *testing.T) {
	c := chances(11)
	for _, n := range []int{0, 1, 7, 8, 9, 63, 64, 65, 200} {
		ones := some(&c, n, 50)
		for at := range n + 1 {
			r := reading(t, ones, at)
			for i := at; i < n; i++ {
				if r.Next() != ones[i] {
					t.Fatal(n, at, i)
				}
				stands(t, r, i+1)
			}
			if r.Next() {
				t.Fatal(n, at)
			}
			spoilt(t, r, n)
		}
	}
}

// P3.2: numbers of each width at each place; what is not there wholly spoils it.
func TestNumber(t *testing.T) {
	c := chances(12)
	ones := some(&c, 130, 60)
	for width := 0; width <= api.MaxWidth; width++ {
		for at := range len(ones) + 1 {
			r := reading(t, ones, at)
			n := r.Number(width)
			if at+width > len(ones) {
				if n != 0 {
					t.Fatal(width, at, n)
				}
				spoilt(t, r, at)
				continue
			}
			if n != value(ones[at:at+width]) {
				t.Fatal(width, at, n)
			}
			stands(t, r, at+width)
		}
	}
}

// P3.2: by more digits than were put as by just as many.
func TestNumberOfOnes(t *testing.T) {
	ones := some(new(chances), 60, 100)
	if n := reading(t, ones, 0).Number(60); n != greatest {
		t.Error(n)
	}
	if n := reading(t, append(make([]bool, 59), true), 0).Number(60); n != 1 {
		t.Error(n)
	}
}

// P3.2: a width that is none.
func TestNumberOfNoWidth(t *testing.T) {
	for _, width := range []int{math.MinInt, -1, 61, 64, 100, math.MaxInt} {
		for _, at := range []int{0, 5, 200} {
			r := reading(t, make([]bool, 200), at)
			if n := r.Number(width); n != 0 {
				t.Error(width, at, n)
			}
			spoilt(t, r, at)
		}
	}
}

// P3.2
func TestGamma(t *testing.T) {
	c := chances(13)
	for _, part := range []int{0, 2, 5, 20, 60, 100} {
		ones := some(&c, 400, part)
		for at := range len(ones) + 1 {
			r := reading(t, ones, at)
			want, size := gammaAt(ones[at:])
			if n := r.Gamma(); n != want {
				t.Fatal(part, at, n, want)
			}
			if want == 0 {
				spoilt(t, r, at)
			} else {
				stands(t, r, at+size)
			}
		}
	}
}

// P3.2: 59 noughts are the most; each gamma wants its last digit.
func TestGammaOfEdges(t *testing.T) {
	for noughts := range 70 {
		ones := append(make([]bool, noughts), some(new(chances), noughts+1, 100)...)
		r := reading(t, ones, 0)
		n := r.Gamma()
		if noughts > 59 {
			if n != 0 {
				t.Fatal(noughts, n)
			}
			spoilt(t, r, 0)
			continue
		}
		if n != 1<<(noughts+1)-1 {
			t.Fatal(noughts, n)
		}
		stands(t, r, len(ones))
		short := reading(t, ones[:len(ones)-1], 0)
		if n := short.Gamma(); n != 0 {
			t.Fatal(noughts, n)
		}
		spoilt(t, short, 0)
	}
}

// P3.2: noughts up to the end are no gamma.
func TestGammaOfNoughts(t *testing.T) {
	for _, n := range []int{0, 1, 2, 8, 59, 60, 61, 64, 1000} {
		r := reading(t, make([]bool, n+3), 3)
		if n := r.Gamma(); n != 0 {
			t.Error(n)
		}
		spoilt(t, r, 3)
	}
}

// P3.2, P3.3: nothing of what is not there is read, though some of it is there.
func TestSpoiltReaderStays(t *testing.T) {
	for i, spoil := range []func(r *flow.Reader) int{
		func(r *flow.Reader) int { return r.Number(4) }, func(r *flow.Reader) int { return r.Number(-1) }, func(r *flow.Reader) int { return r.Gamma() },
	} {
		r := reading(t, []bool{true, true, false, true, false, true, false, false, true}, 0)
		if n := r.Number(6); n != 53 {
			t.Fatal(n)
		}
		if n := spoil(r); n != 0 {
			t.Error(i, n)
		}
		spoilt(t, r, 6)
	}
}

// P3.2, R3: the vector is not changed, and is not kept: who reads does not see what is set behind that.
func TestVectorIsNotKept(t *testing.T) {
	ones := []bool{true, false, true, true, false, false, true, false, true}
	v, _ := bits.Of(ones...)
	r, _ := flow.NewReader(v, 1)
	if !bytes.Equal(v.Bytes(), packed(ones)) || v.Len() != len(ones) || v.Ones() != 5 {
		t.Fatal(v.Bytes())
	}
	v.Set(true, 0, 1, 4, 5, 7)
	if n := r.Number(8); n != value(ones[1:]) {
		t.Error(n)
	}
	stands(t, r, 9)
}

// P3.2: readers of one vector do not hang on each other.
func TestReadersOfOneVector(t *testing.T) {
	v, _ := bits.Of(true, false, true)
	a, _ := flow.NewReader(v, 0)
	b, _ := flow.NewReader(v, 0)
	a.Number(61)
	if !b.Next() || b.Number(2) != 1 {
		t.Error(b.At())
	}
	spoilt(t, a, 0)
	stands(t, b, 3)
}

// P3.3, R5: a nil one, one that no call answered, and a copy, which none answered either.
func TestNoReader(t *testing.T) {
	v, _ := bits.Of(true, true, true)
	answered, _ := flow.NewReader(v, 1)
	copied := *answered
	over, _ := flow.NewReader(v, 0)
	*over = *answered
	for i, r := range []*flow.Reader{nil, {}, new(flow.Reader), &copied, over} {
		if r.Next() || r.Number(1) != 0 || r.Number(61) != 0 || r.Gamma() != 0 || r.At() != 0 || r.Err() != api.ErrNil {
			t.Error(i, r.At(), r.Err())
		}
	}
	stands(t, answered, 1)
}

// P3.2, at the limit.
func TestReadToTheEndOfTheLongest(t *testing.T) {
	v, _ := bits.New(api.MaxBits)
	v.Set(true, api.MaxBits-1)
	r, e := flow.NewReader(v, api.MaxBits-60)
	if n := r.Number(60); e != api.OK || n != 1 {
		t.Fatal(e, n)
	}
	stands(t, r, api.MaxBits)
	if r.Number(0) != 0 || r.Next() {
		t.Error("behind the end")
	}
	spoilt(t, r, api.MaxBits)
}

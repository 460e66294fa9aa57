package flow_test

import (
	"bytes"
	"math"
	"slices"
	"testing"

	"ossuary/api"
	"ossuary/flow"
)

const greatest = 1<<api.MaxWidth - 1

// chances are numbers that look like chance and are the same each time.
type chances uint64

func (c *chances) next() uint64 {
	*c = *c*6364136223846793005 + 1442695040888963407
	return uint64(*c>>33)<<32 ^ uint64(*c)>>16
}

func (c *chances) below(n int) int { return int(c.next() >> 1 % uint64(n)) }

// number is one of at most so many digits, the greatest and the least among them.
func (c *chances) number(width int) int {
	switch c.below(6) {
	case 0:
		return 0
	case 1:
		return 1<<width - 1
	}
	return int(c.next() & (1<<c.below(width+1) - 1))
}

// digits are a number's binary digits, told one by one from the highest one.
func digits(n int) []bool {
	if n == 0 {
		return nil
	}
	return append(digits(n/2), n%2 == 1)
}

// numbered are a number's bits by so many digits, as the chapter tells them.
func numbered(width, n int) []bool {
	d := digits(n)
	return append(make([]bool, width-len(d)), d...)
}

// gamma are the bits of a number's gamma, as the chapter tells them.
func gamma(n int) []bool {
	d := digits(n)
	return append(make([]bool, len(d)-1), d...)
}

// packed are the bytes of a vector.
func packed(ones []bool) []byte {
	b := make([]byte, (len(ones)+7)/8)
	for i, one := range ones {
		if one {
			b[i/8] |= 1 << (i % 8)
		}
	}
	return b
}

// has holds what a writer tells against the bits that were put.
func has(t *testing.T, w *flow.Writer, ones []bool) {
	t.Helper()
	v, e := w.Vec()
	if e != api.OK || w.Len() != len(ones) || v.Len() != len(ones) || !bytes.Equal(v.Bytes(), packed(ones)) {
		t.Fatalf("%d bits: %v, Len %d, Len of Vec %d", len(ones), e, w.Len(), v.Len())
	}
}

// spoiltBy says that a writer has just so many bits, and answers an error to whatever it is asked.
func spoiltBy(t *testing.T, w *flow.Writer, n int, e api.Errno) {
	t.Helper()
	for i, told := range []api.Errno{
		w.Put(), w.Put(true), w.Number(0), w.Number(1, 1), w.Number(61, 1), w.Number(1, 2), w.Gamma(), w.Gamma(1), w.Gamma(0),
	} {
		if told != e {
			t.Fatalf("call %d of a writer spoilt by %d: %d", i, e, told)
		}
	}
	if v, told := w.Vec(); v != nil || told != e {
		t.Fatalf("Vec of a writer spoilt by %d: %v, %d", e, v != nil, told)
	}
	if w.Len() != n {
		t.Fatalf("Len of a writer spoilt by %d: %d, not %d", e, w.Len(), n)
	}
}

// full is a writer that has just n bits.
func full(t *testing.T, n int) *flow.Writer {
	t.Helper()
	w := flow.NewWriter()
	if e := w.Put(make([]bool, n)...); e != api.OK || w.Len() != n {
		t.Fatal(e, w.Len())
	}
	return w
}

// P3.1
func TestNewWriter(t *testing.T) {
	w, other := flow.NewWriter(), flow.NewWriter()
	has(t, w, nil)
	w.Put(true)
	other.Number(2, 9)
	has(t, w, []bool{true})
	spoiltBy(t, other, 0, api.ErrArg)
}

// P3.1
func TestPut(t *testing.T) {
	c := chances(1)
	w := flow.NewWriter()
	var want []bool
	for range 400 {
		ones := make([]bool, c.below(20))
		for i := range ones {
			ones[i] = c.below(2) == 1
		}
		if e := w.Put(ones...); e != api.OK {
			t.Fatal(e)
		}
		want = append(want, ones...)
		has(t, w, want)
	}
}

// P3.1
func TestPutNumbers(t *testing.T) {
	c := chances(2)
	w := flow.NewWriter()
	var want []bool
	for width := 0; width <= api.MaxWidth; width++ {
		for count := range 5 {
			numbers := make([]int, count)
			for i := range numbers {
				numbers[i] = c.number(width)
				want = append(want, numbered(width, numbers[i])...)
			}
			if e := w.Number(width, numbers...); e != api.OK {
				t.Fatal(width, numbers, e)
			}
			has(t, w, want)
		}
	}
}

// P3.1: the least and the greatest number of each width, and one more.
func TestPutNumbersOfEdges(t *testing.T) {
	for width := 0; width <= api.MaxWidth; width++ {
		w := flow.NewWriter()
		most := 1<<width - 1
		if e := w.Number(width, 0, most, 0); e != api.OK {
			t.Fatal(width, e)
		}
		has(t, w, slices.Concat(numbered(width, 0), numbered(width, most), numbered(width, 0)))
		if e := w.Number(width, 0, most+1); e != api.ErrArg {
			t.Fatal(width, e)
		}
		spoiltBy(t, w, 3*width, api.ErrArg)
	}
}

// P3.1
func TestPutGammas(t *testing.T) {
	c := chances(3)
	w := flow.NewWriter()
	var want []bool
	for count := range 60 {
		numbers := make([]int, count%6)
		for i := range numbers {
			numbers[i] = max(1, c.number(api.MaxWidth))
			want = append(want, gamma(numbers[i])...)
		}
		if e := w.Gamma(numbers...); e != api.OK {
			t.Fatal(numbers, e)
		}
		has(t, w, want)
	}
	for width := 1; width <= api.MaxWidth; width++ {
		w := flow.NewWriter()
		least, most := 1<<(width-1), 1<<width-1
		if e := w.Gamma(least, most); e != api.OK || w.Len() != 2*(2*width-1) {
			t.Fatal(width, e, w.Len())
		}
		has(t, w, append(gamma(least), gamma(most)...))
	}
}

// P3.1: numbers and widths that may not be spoil it, and nothing of the call is put.
func TestWhatMayNotBePut(t *testing.T) {
	for i, put := range []func(w *flow.Writer) api.Errno{
		func(w *flow.Writer) api.Errno { return w.Number(-1) },
		func(w *flow.Writer) api.Errno { return w.Number(-1, 0) },
		func(w *flow.Writer) api.Errno { return w.Number(61) },
		func(w *flow.Writer) api.Errno { return w.Number(61, 0) },
		func(w *flow.Writer) api.Errno { return w.Number(64, 1, 1) },
		func(w *flow.Writer) api.Errno { return w.Number(math.MaxInt, 1) },
		func(w *flow.Writer) api.Errno { return w.Number(math.MinInt, 1) },
		func(w *flow.Writer) api.Errno { return w.Number(0, 1) },
		func(w *flow.Writer) api.Errno { return w.Number(0, 0, 0, -1) },
		func(w *flow.Writer) api.Errno { return w.Number(3, 7, 8) },
		func(w *flow.Writer) api.Errno { return w.Number(3, 7, -7) },
		func(w *flow.Writer) api.Errno { return w.Number(3, -1, 7) },
		func(w *flow.Writer) api.Errno { return w.Number(60, 5, math.MaxInt) },
		func(w *flow.Writer) api.Errno { return w.Number(60, 5, math.MinInt) },
		func(w *flow.Writer) api.Errno { return w.Gamma(0) },
		func(w *flow.Writer) api.Errno { return w.Gamma(1, 2, 0) },
		func(w *flow.Writer) api.Errno { return w.Gamma(-1, 2) },
		func(w *flow.Writer) api.Errno { return w.Gamma(greatest, greatest+1) },
		func(w *flow.Writer) api.Errno { return w.Gamma(math.MaxInt) },
		func(w *flow.Writer) api.Errno { return w.Gamma(math.MinInt) },
	} {
		w := flow.NewWriter()
		w.Put(true, false, true)
		if e := put(w); e != api.ErrArg {
			t.Error(i, e)
		}
		spoiltBy(t, w, 3, api.ErrArg)
	}
}

// P3.1: what has nothing may be put, as long as the writer is sound.
func TestNothingIsPut(t *testing.T) {
	for _, n := range []int{0, 1, api.MaxBits} {
		w := full(t, n)
		for i, e := range []api.Errno{w.Put(), w.Number(0), w.Number(60), w.Number(0, 0, 0, 0), w.Gamma()} {
			if e != api.OK || w.Len() != n {
				t.Error(n, i, e, w.Len())
			}
		}
	}
}

// P3.1, at the limit: as many bits as may be, and one more.
func TestLongest(t *testing.T) {
	for i, c := range []struct {
		bits int
		put  func(w *flow.Writer) api.Errno
	}{
		{1, func(w *flow.Writer) api.Errno { return w.Put(true) }},
		{3, func(w *flow.Writer) api.Errno { return w.Put(true, false, true) }},
		{60, func(w *flow.Writer) api.Errno { return w.Number(60, greatest) }},
		{9, func(w *flow.Writer) api.Errno { return w.Number(3, 1, 2, 3) }},
		{1, func(w *flow.Writer) api.Errno { return w.Gamma(1) }},
		{119, func(w *flow.Writer) api.Errno { return w.Gamma(greatest) }},
		{9, func(w *flow.Writer) api.Errno { return w.Gamma(1, 2, 5) }},
	} {
		w := full(t, api.MaxBits-c.bits)
		if e := c.put(w); e != api.OK || w.Len() != api.MaxBits {
			t.Fatal(i, e, w.Len())
		}
		if v, e := w.Vec(); e != api.OK || v.Len() != api.MaxBits || v.Ones() == 0 {
			t.Error(i, e)
		}
		w = full(t, api.MaxBits-c.bits+1)
		if e := c.put(w); e != api.ErrLong {
			t.Fatal(i, e)
		}
		spoiltBy(t, w, api.MaxBits-c.bits+1, api.ErrLong)
	}
}

// P3.1: of several errors the one named first, and the first that spoilt it ever after.
func TestWriterTellsErrorsInOrder(t *testing.T) {
	many := make([]int, api.MaxBits+1)
	for i, c := range []struct {
		put func(w *flow.Writer) api.Errno
		e   api.Errno
	}{
		{func(w *flow.Writer) api.Errno { return w.Put(make([]bool, api.MaxBits+1)...) }, api.ErrLong},
		{func(w *flow.Writer) api.Errno { return w.Number(1, many...) }, api.ErrLong},
		{func(w *flow.Writer) api.Errno { return w.Number(60, many...) }, api.ErrLong},
		{func(w *flow.Writer) api.Errno { return w.Number(61, many...) }, api.ErrArg},
		{func(w *flow.Writer) api.Errno { return w.Number(1, append(many, 2)...) }, api.ErrArg},
		{func(w *flow.Writer) api.Errno { return w.Gamma(many...) }, api.ErrArg},
	} {
		w := flow.NewWriter()
		if e := c.put(w); e != c.e {
			t.Error(i, e)
		}
		spoiltBy(t, w, 0, c.e)
	}
	w := flow.NewWriter()
	if e := w.Number(0, many...); e != api.OK || w.Len() != 0 {
		t.Error(e, w.Len())
	}
	w.Number(1, 2)
	if e := w.Number(1, many...); e != api.ErrArg {
		t.Error(e)
	}
	if e := w.Put(make([]bool, api.MaxBits+1)...); e != api.ErrArg {
		t.Error(e)
	}
}

// P3.1, R3: a vector stays as it is when more is put, and the writer when a vector is set.
func TestVecIsItsOwn(t *testing.T) {
	w := flow.NewWriter()
	w.Put(true, false)
	first, _ := w.Vec()
	w.Put(true)
	second, _ := w.Vec()
	second.Set(false, 0, 2)
	if !bytes.Equal(first.Bytes(), []byte{1}) || first.Len() != 2 || !bytes.Equal(second.Bytes(), []byte{0}) {
		t.Error(first.Bytes(), first.Len(), second.Bytes())
	}
	has(t, w, []bool{true, false, true})
}

// R3
func TestArgumentsAreNotKept(t *testing.T) {
	ones, numbers := []bool{true, false}, []int{1, 5}
	w := flow.NewWriter()
	w.Put(ones...)
	w.Number(3, numbers...)
	w.Gamma(numbers...)
	if !slices.Equal(ones, []bool{true, false}) || !slices.Equal(numbers, []int{1, 5}) {
		t.Fatal(ones, numbers)
	}
	ones[0], numbers[0] = false, 7
	has(t, w, slices.Concat([]bool{true, false}, numbered(3, 1), numbered(3, 5), gamma(1), gamma(5)))
}

// P3.3, R5: a nil one, one that no call answered, and a copy, which none answered either.
func TestNoWriter(t *testing.T) {
	answered := flow.NewWriter()
	answered.Put(true)
	copied := *answered
	over := flow.NewWriter()
	*over = *answered
	for i, w := range []*flow.Writer{nil, {}, new(flow.Writer), &copied, over} {
		for j, e := range []api.Errno{
			w.Put(), w.Put(true), w.Number(1, 1), w.Number(61), w.Number(1, 2), w.Gamma(1), w.Gamma(0), w.Put(make([]bool, api.MaxBits+1)...),
		} {
			if e != api.ErrNil {
				t.Error(i, j, e)
			}
		}
		if v, e := w.Vec(); v != nil || e != api.ErrNil || w.Len() != 0 {
			t.Error(i, v != nil, e, w.Len())
		}
	}
	has(t, answered, []bool{true})
}

// P3.4: what was put is read by the same calls, from wherever it stands.
func TestWhatIsPutIsRead(t *testing.T) {
	c := chances(4)
	for range 300 {
		w := flow.NewWriter()
		ahead := c.below(70)
		w.Put(make([]bool, ahead)...)
		var read []func(r *flow.Reader) bool
		for range c.below(40) {
			switch c.below(3) {
			case 0:
				one := c.below(2) == 1
				w.Put(one)
				read = append(read, func(r *flow.Reader) bool { return r.Next() == one })
			case 1:
				width := c.below(api.MaxWidth + 1)
				n := c.number(width)
				w.Number(width, n)
				read = append(read, func(r *flow.Reader) bool { return r.Number(width) == n })
			case 2:
				n := max(1, c.number(api.MaxWidth))
				w.Gamma(n)
				read = append(read, func(r *flow.Reader) bool { return r.Gamma() == n })
			}
		}
		end := w.Len()
		w.Put(true, false, true)
		v, e := w.Vec()
		if e != api.OK {
			t.Fatal(e)
		}
		r, e := flow.NewReader(v, ahead)
		if e != api.OK {
			t.Fatal(e)
		}
		for i, same := range read {
			if !same(r) {
				t.Fatal(i, r.At(), r.Err())
			}
		}
		if r.At() != end || r.Err() != api.OK {
			t.Fatal(r.At(), end, r.Err())
		}
	}
}

// The chapter's example.
func TestExample(t *testing.T) {
	w := flow.NewWriter()
	w.Gamma(5)
	has(t, w, []bool{false, false, true, false, true})
	w.Number(4, 5)
	has(t, w, []bool{false, false, true, false, true, false, true, false, true})
}

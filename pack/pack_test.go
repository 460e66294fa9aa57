package pack_test

import (
	"bytes"
	"math"
	"slices"
	"strconv"
	"testing"

	"ossuary/api"
	"ossuary/pack"
)

const greatest = 1<<api.MaxWidth - 1

// chances are numbers that look like chance and are the same each time.
type chances uint64

func (c *chances) next() uint64 {
	*c = *c*6364136223846793005 + 1442695040888963407
	return uint64(*c>>33)<<32 ^ uint64(*c)>>16
}

// some are n numbers of at most so many digits, the greatest and the least among them.
func some(c *chances, width, n int) []int {
	numbers := make([]int, n)
	for i := range numbers {
		digits := c.next() & (1<<width - 1)
		switch c.next() % 8 {
		case 0:
			digits = 0
		case 1:
			digits = 1<<width - 1
		}
		numbers[i] = int(digits)
	}
	return numbers
}

// packed are the bytes of a row, bit by bit, as the chapter tells them.
func packed(width int, numbers []int) []byte {
	b := make([]byte, (width*len(numbers)+7)/8)
	at := 0
	for _, n := range numbers {
		for digit := range width {
			b[at/8] |= byte(n>>digit&1) << (at % 8)
			at++
		}
	}
	return b
}

// counts stand around the ends of bytes and of words.
func counts() []int { return []int{0, 1, 2, 3, 7, 8, 9, 15, 16, 17, 31, 63, 64, 65, 200} }

// agree holds all that a row tells, but Find, against what it must have.
func agree(t *testing.T, r *pack.Row, width int, numbers []int) {
	t.Helper()
	if r.Width() != width || r.Len() != len(numbers) {
		t.Fatalf("width %d, %d numbers: Width %d, Len %d", width, len(numbers), r.Width(), r.Len())
	}
	if all := r.All(); !slices.Equal(all, numbers) {
		t.Fatalf("width %d: All %v, not %v", width, all, numbers)
	}
	if b := r.Bytes(); !bytes.Equal(b, packed(width, numbers)) {
		t.Fatalf("width %d, numbers %v: Bytes %v", width, numbers, b)
	}
	for i, want := range numbers {
		if n, is := r.At(i); n != want || !is {
			t.Fatalf("width %d: At(%d) %d %v, not %d", width, i, n, is, want)
		}
	}
	for _, i := range []int{math.MinInt, -64, -1, len(numbers), len(numbers) + 1, len(numbers) + 64, math.MaxInt} {
		if n, is := r.At(i); n != 0 || is {
			t.Fatalf("width %d, %d numbers: At(%d) %d %v", width, len(numbers), i, n, is)
		}
	}
}

// P2.1
func TestWidth(t *testing.T) {
	for i, c := range []struct {
		numbers []int
		width   int
		e       api.Errno
	}{
		{nil, 1, api.OK}, {[]int{}, 1, api.OK}, {[]int{0}, 1, api.OK}, {[]int{0, 0}, 1, api.OK}, {[]int{1}, 1, api.OK},
		{[]int{2}, 2, api.OK}, {[]int{7, 0, 8}, 4, api.OK}, {[]int{9, 1}, 4, api.OK}, {[]int{1, 9}, 4, api.OK},
		{[]int{1<<59 - 1}, 59, api.OK}, {[]int{1 << 59}, 60, api.OK}, {[]int{greatest}, 60, api.OK},
		{[]int{greatest + 1}, 0, api.ErrArg}, {[]int{math.MaxInt}, 0, api.ErrArg},
		{[]int{-1}, 0, api.ErrArg}, {[]int{math.MinInt}, 0, api.ErrArg},
		{[]int{5, -1, 5}, 0, api.ErrArg}, {[]int{-1, 5}, 0, api.ErrArg}, {[]int{5, 6, greatest + 1}, 0, api.ErrArg},
	} {
		if width, e := pack.Width(c.numbers...); width != c.width || e != c.e {
			t.Error(i, width, e)
		}
	}
	for digits := 1; digits <= api.MaxWidth; digits++ {
		least, most := 1<<(digits-1), 1<<digits-1
		for _, n := range []int{least, most} {
			if width, e := pack.Width(0, n, 0); width != digits || e != api.OK {
				t.Error(n, width, e)
			}
		}
	}
}

// P2.2, P2.3
func TestNew(t *testing.T) {
	c := chances(1)
	for width := 1; width <= api.MaxWidth; width++ {
		for _, n := range counts() {
			numbers := some(&c, width, n)
			r, e := pack.New(width, numbers...)
			if e != api.OK {
				t.Fatal(width, n, e)
			}
			agree(t, r, width, numbers)
		}
	}
}

// P2.2
func TestNewTellsErrorsInOrder(t *testing.T) {
	long := make([]int, api.MaxBits+1)
	wrong := append(slices.Clone(long), 2)
	for i, c := range []struct {
		width   int
		numbers []int
		e       api.Errno
	}{
		{0, nil, api.ErrArg}, {-1, nil, api.ErrArg}, {61, nil, api.ErrArg}, {64, nil, api.ErrArg},
		{math.MinInt, nil, api.ErrArg}, {math.MaxInt, nil, api.ErrArg},
		{0, []int{0}, api.ErrArg}, {-1, []int{-1}, api.ErrArg}, {61, []int{0}, api.ErrArg},
		{1, []int{2}, api.ErrArg}, {1, []int{0, 1, 2}, api.ErrArg}, {1, []int{-1}, api.ErrArg},
		{8, []int{256, 255}, api.ErrArg}, {8, []int{255, -255}, api.ErrArg},
		{60, []int{greatest, greatest + 1}, api.ErrArg}, {60, []int{math.MaxInt}, api.ErrArg}, {60, []int{math.MinInt}, api.ErrArg},
		{1, wrong, api.ErrArg}, {61, long, api.ErrArg}, {0, long, api.ErrArg},
		{1, long, api.ErrLong}, {2, wrong, api.ErrLong}, {60, wrong, api.ErrLong},
	} {
		if r, e := pack.New(c.width, c.numbers...); r != nil || e != c.e {
			t.Error(i, r != nil, e)
		}
	}
}

// P2.2, at the limit: as many numbers of a width as may be, and one more.
func TestLongest(t *testing.T) {
	for _, width := range []int{1, 2, 3, 7, 8, 59, 60} {
		most := api.MaxBits / width
		numbers := make([]int, most+1)
		last := 1<<width - 1
		numbers[most-1], numbers[most] = last, last
		r, e := pack.New(width, numbers[:most]...)
		if e != api.OK {
			t.Fatal(width, e)
		}
		if n, is := r.At(most - 1); n != last || !is || r.Len() != most {
			t.Error(width, n, is)
		}
		if i, is := r.Find(last); i != most-1 || !is {
			t.Error(width, i, is)
		}
		b := r.Bytes()
		if again, e := pack.Read(width, most, b); e != api.OK || !slices.Equal(again.All(), numbers[:most]) {
			t.Error(width, e)
		}
		if r, e := pack.New(width, numbers...); r != nil || e != api.ErrLong {
			t.Error(width, r != nil, e)
		}
		if r, e := pack.Of(numbers...); r != nil || e != api.ErrLong {
			t.Error(width, r != nil, e)
		}
		if r, e := pack.Read(width, most+1, b); r != nil || e != api.ErrLong {
			t.Error(width, r != nil, e)
		}
	}
}

// P2.2
func TestOf(t *testing.T) {
	c := chances(2)
	for width := 1; width <= api.MaxWidth; width++ {
		numbers := some(&c, width, 20)
		numbers[c.next()%20] = 1<<width - 1
		r, e := pack.Of(numbers...)
		if e != api.OK {
			t.Fatal(width, e)
		}
		agree(t, r, width, numbers)
	}
	for _, numbers := range [][]int{nil, {}, {0}, {0, 0, 0}} {
		r, e := pack.Of(numbers...)
		if e != api.OK {
			t.Fatal(numbers, e)
		}
		agree(t, r, 1, numbers)
	}
	wrong := append(make([]int, api.MaxBits+1), -1)
	for i, numbers := range [][]int{{-1}, {3, -1}, {greatest + 1}, {0, math.MaxInt}, {math.MinInt, 1}, wrong} {
		if r, e := pack.Of(numbers...); r != nil || e != api.ErrArg {
			t.Error(i, r != nil, e)
		}
	}
}

// P2.2
func TestReadTellsErrorsInOrder(t *testing.T) {
	for i, c := range []struct {
		width, n int
		b        []byte
		e        api.Errno
	}{
		{0, 0, nil, api.ErrArg}, {-1, 1, []byte{0}, api.ErrArg}, {61, 0, nil, api.ErrArg}, {math.MaxInt, 1, nil, api.ErrArg}, {math.MinInt, 1, nil, api.ErrArg},
		{1, -1, nil, api.ErrArg}, {60, math.MinInt, nil, api.ErrArg}, {3, -1, []byte{1}, api.ErrArg},
		{0, math.MaxInt, nil, api.ErrArg}, {61, math.MaxInt, nil, api.ErrArg},
		{1, api.MaxBits + 1, nil, api.ErrLong}, {1, math.MaxInt, nil, api.ErrLong}, {60, math.MaxInt, nil, api.ErrLong},
		{60, api.MaxBits/60 + 1, []byte{1}, api.ErrLong}, {8, api.MaxBits/8 + 1, make([]byte, api.MaxBits/8+1), api.ErrLong},
		{32, 1 << 59, nil, api.ErrLong}, {16, 1 << 60, nil, api.ErrLong},
		{1, api.MaxBits, nil, api.ErrShape}, {60, api.MaxBits / 60, nil, api.ErrShape},
		{1, 0, []byte{0}, api.ErrShape}, {60, 0, []byte{0}, api.ErrShape}, {1, 1, nil, api.ErrShape}, {1, 1, []byte{1, 0}, api.ErrShape},
		{8, 1, nil, api.ErrShape}, {8, 1, []byte{1, 0}, api.ErrShape}, {9, 1, []byte{1}, api.ErrShape}, {3, 3, []byte{1}, api.ErrShape},
		{1, 1, []byte{2}, api.ErrShape}, {7, 1, []byte{128}, api.ErrShape}, {3, 3, []byte{0, 2}, api.ErrShape}, {5, 3, []byte{0, 128}, api.ErrShape},
	} {
		if r, e := pack.Read(c.width, c.n, c.b); r != nil || e != c.e {
			t.Error(i, r != nil, e)
		}
	}
}

// P2.2: each bit that is no number's must be 0.
func TestReadOfSpareBits(t *testing.T) {
	for width := 1; width <= 13; width++ {
		for n := 1; n <= 9; n++ {
			size := (width*n + 7) / 8
			for bit := range size * 8 {
				b := make([]byte, size)
				b[bit/8] = 1 << (bit % 8)
				want := api.OK
				if bit >= width*n {
					want = api.ErrShape
				}
				r, e := pack.Read(width, n, b)
				if e != want || (r == nil) != (e != api.OK) {
					t.Fatal(width, n, bit, e)
				}
				if e == api.OK {
					numbers := make([]int, n)
					numbers[bit/width] = 1 << (bit % width)
					agree(t, r, width, numbers)
				}
			}
		}
	}
}

// P2.2, P2.5
func TestWhatIsPutIsReadAgain(t *testing.T) {
	c := chances(3)
	for width := 1; width <= api.MaxWidth; width++ {
		for _, n := range counts() {
			numbers := some(&c, width, n)
			r, e := pack.Read(width, n, packed(width, numbers))
			if e != api.OK {
				t.Fatal(width, n, e)
			}
			agree(t, r, width, numbers)
			put, _ := pack.New(width, numbers...)
			again, e := pack.Read(put.Width(), put.Len(), put.Bytes())
			if e != api.OK {
				t.Fatal(width, n, e)
			}
			agree(t, again, width, numbers)
		}
	}
}

// ask holds what Find tells of a number against what is gone through one by one.
func ask(t *testing.T, r *pack.Row, numbers []int, n int) {
	t.Helper()
	want := 0
	for want < len(numbers) && numbers[want] < n {
		want++
	}
	there := slices.Contains(numbers, n)
	if i, is := r.Find(n); i != want || is != there {
		t.Fatalf("%v: Find(%d) %d %v, not %d %v", numbers, n, i, is, want, there)
	}
}

// P2.3
func TestFind(t *testing.T) {
	c := chances(4)
	for _, width := range []int{1, 2, 3, 5, 8, 31, 59, 60} {
		for _, n := range counts() {
			numbers := some(&c, width, n)
			slices.Sort(numbers)
			r, _ := pack.New(width, numbers...)
			for _, near := range append(numbers, 0, 1<<width-1) {
				ask(t, r, numbers, near-1)
				ask(t, r, numbers, near)
				ask(t, r, numbers, near+1)
			}
			for _, far := range []int{math.MinInt, -1, greatest, greatest + 1, math.MaxInt} {
				ask(t, r, numbers, far)
			}
		}
	}
}

// P2.3: a place that is none is not a number 0.
func TestFindInEmptyRow(t *testing.T) {
	r, _ := pack.New(5)
	for _, n := range []int{math.MinInt, -1, 0, 1, math.MaxInt} {
		if i, is := r.Find(n); i != 0 || is {
			t.Error(n, i, is)
		}
	}
}

// P2.3: rows that sink.
func TestFindInAnotherRow(t *testing.T) {
	c := chances(5)
	for _, n := range counts() {
		numbers := some(&c, 6, n)
		r, _ := pack.New(6, numbers...)
		for _, asked := range []int{math.MinInt, -1, 0, 1, 31, 63, 64, math.MaxInt} {
			if i, is := r.Find(asked); i < 0 || i > n {
				t.Error(asked, i, is)
			}
		}
		agree(t, r, 6, numbers)
	}
}

// P2.4, R5: a nil one, one that no call answered, and a copy, which none answered either.
func TestNoRow(t *testing.T) {
	answered, _ := pack.Of(1, 2, 3)
	copied := *answered
	over, _ := pack.New(9)
	*over = *answered
	for i, r := range []*pack.Row{nil, {}, new(pack.Row), &copied, over} {
		for _, asked := range []int{math.MinInt, -1, 0, 1, 2, math.MaxInt} {
			if n, is := r.At(asked); n != 0 || is {
				t.Error(i, asked, n, is)
			}
			if at, is := r.Find(asked); at != 0 || is {
				t.Error(i, asked, at, is)
			}
		}
		if r.Len() != 0 || r.Width() != 0 || len(r.All()) != 0 || len(r.Bytes()) != 0 {
			t.Error(i, r.Len(), r.Width(), r.All(), r.Bytes())
		}
	}
	agree(t, answered, 2, []int{1, 2, 3})
}

// P2.5
func TestNoMoreBytesThanAreNeeded(t *testing.T) {
	for width := 1; width <= api.MaxWidth; width++ {
		for n := range 70 {
			r, _ := pack.New(width, make([]int, n)...)
			if spare := len(r.Bytes())*8 - width*n; spare < 0 || spare > 7 {
				t.Fatal(strconv.Itoa(width) + " wide: " + strconv.Itoa(spare) + " bits to spare of " + strconv.Itoa(n))
			}
		}
	}
}

// R3
func TestMemoryIsItsOwn(t *testing.T) {
	given := []int{5, 0, 3}
	want := slices.Clone(given)
	r, _ := pack.New(3, given...)
	of, _ := pack.Of(given...)
	if !slices.Equal(given, want) {
		t.Fatal(given)
	}
	given[0], given[2] = 1, 1
	agree(t, r, 3, want)
	agree(t, of, 3, want)

	b := []byte{197, 0}
	read, _ := pack.Read(3, 3, b)
	if !bytes.Equal(b, []byte{197, 0}) {
		t.Fatal(b)
	}
	b[0], b[1] = 0, 1
	agree(t, read, 3, want)

	told, all := read.Bytes(), read.All()
	told[0], all[0] = 0, 7
	agree(t, read, 3, want)
}

// The chapter's example.
func TestExample(t *testing.T) {
	r, e := pack.New(3, 5, 0, 3)
	if e != api.OK || !bytes.Equal(r.Bytes(), []byte{197, 0}) {
		t.Fatal(e, r.Bytes())
	}
	agree(t, r, 3, []int{5, 0, 3})
}

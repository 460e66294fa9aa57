package sum_test

import (
	"bytes"
	"hash/crc32"
	"slices"
	"strings"
	"testing"

	"ossuary/api"
	"ossuary/sum"
)

// chances are numbers that look like chance and are the same each time.
type chances uint64

func (c *chances) below(n int) int {
	*c = *c*6364136223846793005 + 1442695040888963407
	return int(uint64(*c)>>33) % n
}

// some are n bytes.
func some(c *chances, n int) []byte {
	b := make([]byte, n)
	for i := range b {
		b[i] = byte(c.below(256))
	}
	return b
}

// told is the sum of bytes, bit by bit, as the chapter tells it.
func told(b []byte) uint32 {
	register := ^uint32(0)
	for _, x := range b {
		for bit := range 8 {
			one := register&1 != uint32(x>>bit)&1
			register >>= 1
			if one {
				register ^= 0xEDB88320
			}
		}
	}
	return ^register
}

// sealed are bytes, and their sum behind them, as the chapter tells them.
func sealed(b []byte) []byte {
	n := told(b)
	return append(bytes.Clone(b), byte(n), byte(n>>8), byte(n>>16), byte(n>>24))
}

// cut are bytes as rows, some of which have none.
func cut(c *chances, b []byte) [][]byte {
	rows := [][]byte{}
	for len(b) > 0 {
		n := min(c.below(9), len(b))
		rows = append(rows, b[:n])
		b = b[n:]
	}
	return append(rows, nil)
}

// refused says that bytes are not opened.
func refused(t *testing.T, b []byte, want api.Errno) {
	t.Helper()
	if o, e := sum.Open(b); e != want || len(o) != 0 {
		t.Fatalf("%d bytes: %d bytes, error %d, not %d", len(b), len(o), e, want)
	}
}

// opened says that bytes are opened, and what they have.
func opened(t *testing.T, b, want []byte) {
	t.Helper()
	if o, e := sum.Open(b); e != api.OK || !bytes.Equal(o, want) {
		t.Fatalf("%d bytes: %d bytes, not %d, error %d", len(b), len(o), len(want), e)
	}
}

// The chapter's example, and other known sums.
func TestKnownSums(t *testing.T) {
	for _, c := range []struct {
		text string
		want uint32
	}{
		{"123456789", 0xCBF43926},
		{"", 0},
		{"\x00", 0xD202EF8D},
		{"\xff", 0xFF000000},
		{"\x00\x00\x00\x00", 0x2144DF1C},
		{"\xff\xff\xff\xff", 0xFFFFFFFF},
		{"a", 0xE8B7BE43},
		{strings.Repeat("\x00", 32), 0x190A55AD},
		{strings.Repeat("\xff", 32), 0xFF6CAB0B},
	} {
		if n := sum.Of([]byte(c.text)); n != c.want {
			t.Errorf("%q: %#x, not %#x", c.text, n, c.want)
		}
	}
}

// P4.1: each byte, in each place of a few.
func TestOfEachByte(t *testing.T) {
	for x := range 256 {
		for ahead := range 4 {
			b := make([]byte, 4)
			b[ahead] = byte(x)
			if n := sum.Of(b); n != told(b) {
				t.Fatalf("%v: %#x, not %#x", b, n, told(b))
			}
		}
		if b := []byte{byte(x)}; sum.Of(b) != told(b) {
			t.Fatalf("%v: %#x, not %#x", b, sum.Of(b), told(b))
		}
	}
}

// P4.1: rows are one behind the other, wherever they are cut.
func TestOf(t *testing.T) {
	c := chances(1)
	for n := range 300 {
		b := some(&c, n)
		want := told(b)
		if want != crc32.ChecksumIEEE(b) {
			t.Fatal("the test's own sum", n)
		}
		if got := sum.Of(b); got != want {
			t.Fatalf("%d bytes: %#x, not %#x", n, got, want)
		}
		if got := sum.Of(cut(&c, b)...); got != want {
			t.Fatalf("%d bytes in rows: %#x, not %#x", n, got, want)
		}
	}
}

// P4.1: the rows' order counts, where they are cut does not.
func TestOfTwoRows(t *testing.T) {
	ahead, behind := []byte("1234"), []byte("56789")
	whole := sum.Of([]byte("123456789"))
	if sum.Of(ahead, behind) != whole || sum.Of(behind, ahead) == whole || sum.Of(ahead) == whole {
		t.Error(sum.Of(ahead, behind), sum.Of(behind, ahead), sum.Of(ahead))
	}
}

// P4.1, R6: no rows, and rows without bytes.
func TestOfNothing(t *testing.T) {
	for i, rows := range [][][]byte{nil, {}, {nil}, {{}}, {nil, {}, nil}} {
		if n := sum.Of(rows...); n != 0 {
			t.Error(i, n)
		}
		if b := sum.Seal(rows...); !bytes.Equal(b, make([]byte, 4)) {
			t.Error(i, b)
		}
	}
}

// P4.1, P4.2: more bytes than most have.
func TestMany(t *testing.T) {
	c := chances(2)
	b := some(&c, 3<<20+5)
	want := crc32.ChecksumIEEE(b)
	if n := sum.Of(b); n != want {
		t.Errorf("%#x, not %#x", n, want)
	}
	s := sum.Seal(b[:1<<20], b[1<<20:])
	if len(s) != len(b)+4 {
		t.Fatal(len(s))
	}
	opened(t, s, b)
	s[1<<20] ^= 4
	refused(t, s, api.ErrSum)
}

// P4.1
func TestSeal(t *testing.T) {
	if b := sum.Seal([]byte("123456789")); string(b) != "123456789\x26\x39\xF4\xCB" {
		t.Error(b)
	}
	c := chances(3)
	for n := range 200 {
		b := some(&c, n)
		if s := sum.Seal(b); !bytes.Equal(s, sealed(b)) {
			t.Fatal(n, s)
		}
		if s := sum.Seal(cut(&c, b)...); !bytes.Equal(s, sealed(b)) {
			t.Fatal(n, s)
		}
	}
}

// P4.1: what is sealed may be sealed once more.
func TestSealTwice(t *testing.T) {
	b := []byte("a row")
	once := sum.Seal(b)
	twice := sum.Seal(once)
	if len(twice) != len(b)+8 {
		t.Fatal(twice)
	}
	opened(t, twice, once)
	opened(t, once, b)
}

// P4.1, R3: rows stay as they are, the room behind them too, and are not kept.
func TestSealIsNewMemory(t *testing.T) {
	room := []byte("abcdefghijklmnop")
	rows := make([][]byte, 2, 4)
	rows[0], rows[1] = room[:3], room[3:5]
	s := sum.Seal(rows...)
	one := sum.Seal(room[:5])
	if string(room) != "abcdefghijklmnop" || len(rows[:4][2])+len(rows[:4][3]) > 0 {
		t.Fatal(string(room), rows[:4])
	}
	want := sealed([]byte("abcde"))
	clear(room)
	if !bytes.Equal(s, want) || !bytes.Equal(one, want) {
		t.Error(s, one)
	}
	clear(s)
	if !bytes.Equal(one, want) || !bytes.Equal(room, make([]byte, 16)) {
		t.Error(one, room)
	}
}

// P4.2: fewer than four bytes are no sealed ones, whatever they are.
func TestOpenOfTooFew(t *testing.T) {
	refused(t, nil, api.ErrShape)
	for n := range 4 {
		refused(t, make([]byte, n), api.ErrShape)
		refused(t, bytes.Repeat([]byte{0xff}, n), api.ErrShape)
		refused(t, sum.Seal(nil)[:n], api.ErrShape)
		refused(t, make([]byte, n, 8), api.ErrShape)
	}
}

// P4.2: the last four are the sum, the lowest first, or it is not opened.
func TestOpenOfAnotherSum(t *testing.T) {
	for i, b := range [][]byte{
		{0, 0, 0, 1}, {1, 0, 0, 0}, {0xff, 0xff, 0xff, 0xff},
		{0, 0, 0, 0, 0}, {0, 0, 0, 0, 'a'},
		[]byte("123456789"),
		[]byte("123456789\xCB\xF4\x39\x26"),
		[]byte("\x26\x39\xF4\xCB123456789"),
		[]byte("123456789\xD9\xC6\x0B\x34"),
		[]byte("12345678\x26\x39\xF4\xCB"),
		[]byte("1234567890\x26\x39\xF4\xCB"),
		[]byte("123456789\x26\x39\xF4"),
		[]byte("123456789\x26\x39\xF4\xCB\x00"),
		[]byte("\x00123456789\x26\x39\xF4\xCB"),
		[]byte("213456789\x26\x39\xF4\xCB"),
	} {
		if o, e := sum.Open(b); e != api.ErrSum || len(o) != 0 {
			t.Error(i, o, e)
		}
	}
}

// P4.2
func TestOpen(t *testing.T) {
	opened(t, make([]byte, 4), nil)
	opened(t, []byte("123456789\x26\x39\xF4\xCB"), []byte("123456789"))
	opened(t, []byte("\xff\xff\xff\xff\xff\xff\xff\xff"), []byte("\xff\xff\xff\xff"))
	c := chances(4)
	for n := range 200 {
		b := some(&c, n)
		opened(t, sealed(b), b)
	}
}

// P4.2, R3: what is opened has memory of its own, and b stays as it is.
func TestOpenIsNewMemory(t *testing.T) {
	b := sealed([]byte("abc"))
	want := bytes.Clone(b)
	o, _ := sum.Open(b)
	if !bytes.Equal(b, want) {
		t.Fatal(b)
	}
	clear(o)
	clear(o[:cap(o)])
	if !bytes.Equal(b, want) {
		t.Error(b)
	}
	o, _ = sum.Open(b)
	again, _ := sum.Open(b)
	clear(b)
	clear(again)
	if string(o) != "abc" {
		t.Error(o)
	}
}

// P4.3: what was sealed is opened.
func TestSealedIsOpened(t *testing.T) {
	c := chances(5)
	for n := range 300 {
		b := some(&c, n)
		opened(t, sum.Seal(cut(&c, b)...), b)
	}
}

// turn turns the bits of bytes where a pattern has ones, from a bit on.
func turn(b []byte, from int, pattern uint64) {
	for i := range 64 {
		if pattern>>i&1 == 1 {
			b[(from+i)/8] ^= 1 << ((from + i) % 8)
		}
	}
}

// held says that sealed bytes are not opened once they are turned by a pattern, from each bit on at which it fits.
func held(t *testing.T, b []byte, width int, pattern uint64) {
	t.Helper()
	for from := 0; from+width <= 8*len(b); from++ {
		turn(b, from, pattern)
		if o, e := sum.Open(b); e != api.ErrSum || len(o) != 0 {
			t.Fatalf("%#x from bit %d of %d bytes: %d bytes, error %d", pattern, from, len(b), len(o), e)
		}
		turn(b, from, pattern)
	}
}

// P4.3: all that may be turned within eleven bits in a row, in the sum and across its beginning too.
func TestFewBitsTurned(t *testing.T) {
	c := chances(6)
	for _, n := range []int{0, 1, 3, 8} {
		b := sum.Seal(some(&c, n))
		for width := 1; width <= 11; width++ {
			top := uint64(1) << (width - 1)
			for within := range top {
				held(t, b, width, top|within|1)
			}
		}
	}
}

// P4.3: up to 32 bits in a row, some of them turned, and all of them.
func TestBitsTurned(t *testing.T) {
	c := chances(7)
	for _, n := range []int{0, 1, 2, 9, 40} {
		b := sum.Seal(some(&c, n))
		for width := 1; width <= 32; width++ {
			ends := uint64(1) | 1<<(width-1)
			whole := uint64(1)<<width - 1
			held(t, b, width, ends)
			held(t, b, width, whole)
			for range 40 {
				held(t, b, width, ends|uint64(c.below(1<<31))<<1&whole)
			}
		}
	}
}

// P4.3, at the edge: of 33 bits in a row the sum's own pattern is another sealed row.
func TestBitsTurnedBeyond(t *testing.T) {
	c := chances(8)
	const pattern = 0xEDB88320<<1 | 1
	row := some(&c, 20)
	for from := range 8 * len(row) {
		b := sum.Seal(row)
		turn(b, from, pattern)
		opened(t, b, b[:len(row)])
	}
}

// P4.3: just one byte changed, each of them, into each other one.
func TestByteChanged(t *testing.T) {
	c := chances(9)
	for _, n := range []int{0, 1, 2, 7, 60} {
		b := sum.Seal(some(&c, n))
		for i, was := range b {
			for x := range 256 {
				if b[i] = byte(x); b[i] != was {
					refused(t, b, api.ErrSum)
				}
			}
			b[i] = was
		}
	}
}

// R4
func TestAlikeEachTime(t *testing.T) {
	rows := [][]byte{[]byte("some"), nil, []byte("rows")}
	n, s := sum.Of(rows...), sum.Seal(rows...)
	for range 10 {
		sum.Of([]byte("others"))
		if sum.Of(rows...) != n || !slices.Equal(sum.Seal(rows...), s) {
			t.Fatal(n, s)
		}
	}
}

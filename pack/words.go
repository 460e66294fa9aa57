package pack

const wordBits = 64

// words are bits, side by side, the lowest one of each word first. A number may begin in one word and end in the next.
type words []uint64

// room is words for so many bits, all 0.
func room(n int) words { return make(words, pieces(n, wordBits)) }

// put lays a number's digits from a bit on, where noughts stood.
func (w words) put(at, width, n int) {
	i, from := at/wordBits, at%wordBits
	w[i] |= uint64(n) << from
	if from+width > wordBits {
		w[i+1] |= uint64(n) >> (wordBits - from)
	}
}

// take is the number of so many digits from a bit on.
func (w words) take(at, width int) int {
	i, from := at/wordBits, at%wordBits
	digits := w[i] >> from
	if from+width > wordBits {
		digits |= w[i+1] << (wordBits - from)
	}
	return int(digits & (1<<width - 1))
}

// fill lays bytes from the first bit on, where noughts stood.
func (w words) fill(b []byte) {
	for i, x := range b {
		w[i/8] |= uint64(x) << (i % 8 * 8)
	}
}

// first are the first so many bytes.
func (w words) first(n int) []byte {
	b := make([]byte, n)
	for i := range b {
		b[i] = byte(w[i/8] >> (i % 8 * 8))
	}
	return b
}

// pieces is how many pieces of a size n bits take.
func pieces(n, size int) int { return (n + size - 1) / size }

// Package bits is layer 1: see shared/doc/01-bits.md.
package bits

import (
	mathbits "math/bits"
	"slices"

	"ossuary/api"
)

const (
	wordBits   = 64
	blockWords = 8
	blockBits  = blockWords * wordBits
)

// Vec is bits.
type Vec struct {
	directory
	self  *Vec // a copy is no vector: it would share the bits, but not the count of them
	words []uint64
	n     int
}

// New is a vector of bits, all 0.
func New(n int) (*Vec, api.Errno) {
	if e := allowed(n); e != api.OK {
		return nil, e
	}
	v := blank(n)
	v.count()
	return v, api.OK
}

// Of is a vector of some.
func Of(ones ...bool) (*Vec, api.Errno) {
	if e := allowed(len(ones)); e != api.OK {
		return nil, e
	}
	v := blank(len(ones))
	for i, one := range ones {
		if one {
			v.words[i/wordBits] |= 1 << (i % wordBits)
		}
	}
	v.count()
	return v, api.OK
}

// Read is a vector of bytes.
func Read(n int, b []byte) (*Vec, api.Errno) {
	if e := allowed(n); e != api.OK {
		return nil, e
	}
	if len(b) != pieces(n, 8) || n%8 > 0 && b[len(b)-1]>>(n%8) > 0 {
		return nil, api.ErrShape
	}
	v := blank(n)
	for i, x := range b {
		v.words[i/8] |= uint64(x) << (i % 8 * 8)
	}
	v.count()
	return v, api.OK
}

// Set sets bits.
func (v *Vec) Set(one bool, places ...int) api.Errno {
	if !v.answered() {
		return api.ErrNil
	}
	if slices.ContainsFunc(places, func(i int) bool { return i < 0 || i >= v.n }) {
		return api.ErrRange
	}
	for _, i := range places {
		if v.Get(i) != one {
			v.turn(i)
		}
	}
	return api.OK
}

// Get says whether a bit is 1.
func (v *Vec) Get(i int) bool {
	return v.answered() && i >= 0 && i < v.n && v.words[i/wordBits]>>(i%wordBits)&1 == 1
}

// Len is how many there are.
func (v *Vec) Len() int {
	if !v.answered() {
		return 0
	}
	return v.n
}

// Ones is how many ones there are.
func (v *Vec) Ones() int {
	if !v.answered() {
		return 0
	}
	return v.total
}

// Rank is how many ones stand below a place.
func (v *Vec) Rank(i int) int {
	switch {
	case !v.answered() || i <= 0:
		return 0
	case i >= v.n:
		return v.total
	}
	block, word := i/blockBits, i/wordBits
	below := v.ahead(block)
	for _, w := range v.words[block*blockWords : word] {
		below += mathbits.OnesCount64(w)
	}
	return below + mathbits.OnesCount64(v.words[word]&(1<<(i%wordBits)-1))
}

// Select is the place of a one, by how many stand below it.
func (v *Vec) Select(k int) (int, bool) {
	if !v.answered() || k < 0 || k >= v.total {
		return 0, false
	}
	block, below := v.holding(k)
	word := block * blockWords
	for {
		n := mathbits.OnesCount64(v.words[word])
		if below < n {
			return word*wordBits + placeIn(v.words[word], below), true
		}
		below -= n
		word++
	}
}

// Bytes are its bytes.
func (v *Vec) Bytes() []byte {
	if !v.answered() {
		return nil
	}
	b := make([]byte, pieces(v.n, 8))
	for i := range b {
		b[i] = byte(v.words[i/8] >> (i % 8 * 8))
	}
	return b
}

// allowed says whether a vector may have so many bits.
func allowed(n int) api.Errno {
	switch {
	case n < 0:
		return api.ErrArg
	case n > api.MaxBits:
		return api.ErrLong
	}
	return api.OK
}

// blank is a vector of noughts that has no counts yet.
func blank(n int) *Vec {
	v := &Vec{words: make([]uint64, pieces(n, wordBits)), n: n}
	v.self = v
	return v
}

// answered says whether it is a vector that this package answered.
func (v *Vec) answered() bool { return v != nil && v.self == v }

// count counts the ones of each block.
func (v *Vec) count() {
	counts := make([]int32, pieces(len(v.words), blockWords))
	for i, w := range v.words {
		counts[i/blockWords] += int32(mathbits.OnesCount64(w))
	}
	v.lay(counts)
}

// turn makes a one of a nought, and a nought of a one.
func (v *Vec) turn(i int) {
	v.words[i/wordBits] ^= 1 << (i % wordBits)
	if v.Get(i) {
		v.add(i/blockBits, 1)
	} else {
		v.add(i/blockBits, -1)
	}
}

// pieces is how many pieces of a size n of them take.
func pieces(n, size int) int { return (n + size - 1) / size }

// placeIn is the place of the one of a word below which k ones stand.
func placeIn(w uint64, k int) int {
	for range k {
		w &= w - 1
	}
	return mathbits.TrailingZeros64(w)
}

package flow

import (
	"ossuary/api"
	"ossuary/bits"
)

// Reader reads bits.
type Reader struct {
	spoil
	b     []byte // a copy: the vector may be set while it is read
	n, at int
}

// NewReader is a reader of a vector, from a place on.
func NewReader(v *bits.Vec, at int) (*Reader, api.Errno) {
	if e := v.Set(false); e != api.OK { // no place is set: it only tells whether there is a vector
		return nil, e
	}
	if at < 0 || at > v.Len() {
		return nil, api.ErrRange
	}
	r := &Reader{b: v.Bytes(), n: v.Len(), at: at}
	r.begin()
	return r, api.OK
}

// Next is the next bit.
func (r *Reader) Next() bool { return r.Number(1) == 1 }

// Number is a number of so many digits.
func (r *Reader) Number(width int) int {
	if r.Err() != api.OK {
		return 0
	}
	return r.take(0, width)
}

// Gamma is a number by its gamma.
func (r *Reader) Gamma() int {
	if r.Err() != api.OK {
		return 0
	}
	noughts := 0
	for noughts < api.MaxWidth && r.at+noughts < r.n && !r.one(r.at+noughts) {
		noughts++
	}
	return r.take(noughts, noughts+1)
}

// At is where it stands.
func (r *Reader) At() int {
	if r.Err() == api.ErrNil {
		return 0
	}
	return r.at
}

// Err says whether it is spoilt.
func (r *Reader) Err() api.Errno {
	if r == nil {
		return api.ErrNil
	}
	return r.state()
}

// take is the number of so many digits behind some noughts. What is not there wholly spoils the reader.
func (r *Reader) take(noughts, width int) int {
	if !isWidth(width) || noughts+width > r.n-r.at {
		r.spoilBy(api.ErrShape)
		return 0
	}
	r.at += noughts
	number := 0
	for range width {
		number *= 2
		if r.one(r.at) {
			number++
		}
		r.at++
	}
	return number
}

// one says whether the bit at a place that there is is 1.
func (r *Reader) one(i int) bool { return r.b[i/8]>>(i%8)&1 == 1 }

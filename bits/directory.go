package bits

import mathbits "math/bits"

// directory tells how many ones stand in blocks. It is a tree of sums (Fenwick's), not a row of them, so that bits may be set and counts asked by turns, each in few steps.
type directory struct {
	sums  []int32 // at i: of the i & -i blocks that stand just ahead of block i
	total int
}

// lay makes the sums of blocks that have so many ones.
func (d *directory) lay(counts []int32) {
	d.sums, d.total = make([]int32, len(counts)+1), 0
	for i, n := range counts {
		d.sums[i+1] = n
		d.total += int(n)
	}
	for i := 1; i < len(d.sums); i++ {
		if wider := i + i&-i; wider < len(d.sums) {
			d.sums[wider] += d.sums[i]
		}
	}
}

// add gives a block that many ones more.
func (d *directory) add(block, ones int) {
	d.total += ones
	for i := block + 1; i < len(d.sums); i += i & -i {
		d.sums[i] += int32(ones)
	}
}

// ahead is how many ones stand in the blocks ahead of one.
func (d *directory) ahead(block int) int {
	ones := 0
	for i := block; i > 0; i -= i & -i {
		ones += int(d.sums[i])
	}
	return ones
}

// holding is the block of the one below which k ones stand, and how many of these stand in it.
func (d *directory) holding(k int) (block, below int) {
	below = k
	for step := 1 << mathbits.Len(uint(len(d.sums))); step > 0; step /= 2 {
		if next := block + step; next < len(d.sums) && int(d.sums[next]) <= below {
			block = next
			below -= int(d.sums[next])
		}
	}
	return block, below
}

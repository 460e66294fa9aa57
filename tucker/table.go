package tucker

// table has the best trees of all rows that stand within weights.
type table struct {
	sums
	rows [][]row // by where they begin, and by how many weights they have
}

// row is what a row's best tree costs, and where its right row begins: of one weight alone, where that ends.
type row struct{ cost, right int }

// tableOf is the table of weights. The best tree of a row has those of its left and right rows, so that shorter rows come first.
func tableOf(weights []int) table {
	n := len(weights)
	t := table{sums: sumsOf(weights), rows: make([][]row, n)}
	for from := range n {
		t.rows[from] = make([]row, n-from+1)
		t.rows[from][1].right = from + 1
	}
	for size := 2; size <= n; size++ {
		for from := 0; from+size <= n; from++ {
			t.rows[from][size] = t.best(from, from+size)
		}
	}
	return t
}

// row is what stands in the table of the row from a place up to another one.
func (t table) row(from, to int) row { return t.rows[from][to-from] }

// best parts a row of two weights at least. It need not try all places: a weight more behind never moves the first of the best places ahead, and a weight less in front does not either (Knuth's bounds), so that a whole table takes steps by the square of the weights, not by their cube.
func (t table) best(from, to int) row {
	first := t.row(from, to-1).right
	last := min(t.row(from+1, to).right, to-1)
	found := t.parted(from, first, to)
	for right := first + 1; right <= last; right++ {
		if other := t.parted(from, right, to); other.cost < found.cost {
			found = other
		}
	}
	return found
}

// parted is a row that is parted at a place, its left and right rows at their best.
func (t table) parted(from, right, to int) row {
	cost := t.between(from, to) + t.row(from, right).cost + t.row(right, to).cost
	return row{cost: cost, right: right}
}

// lengths are those in the best tree of all weights, of which there are two at least.
func (t table) lengths() []int {
	lengths := make([]int, len(t.rows))
	t.deepen(lengths, 0, len(lengths))
	return lengths
}

// deepen adds to lengths how often a row, and those within it, are parted.
func (t table) deepen(lengths []int, from, to int) {
	if to-from < 2 {
		return
	}
	for i := from; i < to; i++ {
		lengths[i]++
	}
	right := t.row(from, to).right
	t.deepen(lengths, from, right)
	t.deepen(lengths, right, to)
}

// sums are, at each place, that of the weights ahead of it.
type sums []int

// sumsOf are the sums of weights.
func sumsOf(weights []int) sums {
	s := make(sums, len(weights)+1)
	for i, w := range weights {
		s[i+1] = s[i] + w
	}
	return s
}

// between is the sum of the weights from a place up to another one.
func (s sums) between(from, to int) int { return s[to] - s[from] }

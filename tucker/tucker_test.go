package tucker_test

import (
	"math"
	"slices"
	"testing"

	"ossuary/api"
	"ossuary/tucker"
)

// chances are numbers that look like chance and are the same each time.
type chances uint64

func (c *chances) below(n int) int {
	*c = *c*6364136223846793005 + 1442695040888963407
	return int(uint64(*c)>>24) % n
}

// some are n numbers below another one.
func some(c *chances, n, below int) []int {
	numbers := make([]int, n)
	for i := range numbers {
		numbers[i] = c.below(below)
	}
	return numbers
}

// each calls f with every row of n numbers from least to greatest.
func each(n, least, greatest int, f func(row []int)) {
	row := slices.Repeat([]int{least}, n)
	for {
		f(row)
		i := 0
		for i < n && row[i] == greatest {
			row[i] = least
			i++
		}
		if i == n {
			return
		}
		row[i]++
	}
}

// tree is a tree over a row, as the chapter tells it.
type tree struct {
	left, right *tree // none of one weight alone
	size        int
}

// trees are all of so many weights.
func trees(size int) []*tree {
	if size == 1 {
		return []*tree{{size: 1}}
	}
	all := []*tree{}
	for ahead := 1; ahead < size; ahead++ {
		for _, left := range trees(ahead) {
			for _, right := range trees(size - ahead) {
				all = append(all, &tree{left, right, size})
			}
		}
	}
	return all
}

// costs is a tree's cost: the sum, over all parts, of the row that was parted.
func (t *tree) costs(weights []int) int {
	if t.size == 1 {
		return 0
	}
	cost := t.left.costs(weights[:t.left.size]) + t.right.costs(weights[t.left.size:])
	for _, w := range weights {
		cost += w
	}
	return cost
}

// depths are how often each weight stood in a row that was parted, by one and all trees around it.
func (t *tree) depths(around int) []int {
	if t.size == 1 {
		return []int{around}
	}
	return append(t.left.depths(around+1), t.right.depths(around+1)...)
}

// lengths are a tree's.
func (t *tree) lengths() []int {
	if t.size == 1 {
		return []int{1}
	}
	return t.depths(0)
}

// ahead says by a number below 0 that a tree is better than another one of the same cost: whose left row is shorter, and so on, in its left row, then in its right one.
func (t *tree) ahead(other *tree) int {
	switch {
	case t.size == 1:
		return 0
	case t.left.size != other.left.size:
		return t.left.size - other.left.size
	}
	if by := t.left.ahead(other.left); by != 0 {
		return by
	}
	return t.right.ahead(other.right)
}

// bestOf is the best one of trees.
func bestOf(all []*tree, weights []int) *tree {
	best, least := all[0], all[0].costs(weights)
	for _, t := range all[1:] {
		cost := t.costs(weights)
		if cost < least || cost == least && t.ahead(best) < 0 {
			best, least = t, cost
		}
	}
	return best
}

// longhand are the lengths in the best tree, each place tried for each row.
func longhand(weights []int) []int {
	n := len(weights)
	cost, right := make([][]int, n), make([][]int, n)
	for from := n - 1; from >= 0; from-- {
		cost[from], right[from] = make([]int, n+1), make([]int, n+1)
		sum := weights[from]
		for to := from + 2; to <= n; to++ {
			sum += weights[to-1]
			least := math.MaxInt
			for place := from + 1; place < to; place++ {
				if c := cost[from][place] + cost[place][to]; c < least {
					least, right[from][to] = c, place
				}
			}
			cost[from][to] = least + sum
		}
	}
	lengths := make([]int, n)
	var part func(from, to, depth int)
	part = func(from, to, depth int) {
		if to-from == 1 {
			lengths[from] = max(depth, 1)
			return
		}
		part(from, right[from][to], depth+1)
		part(right[from][to], to, depth+1)
	}
	part(0, n, 0)
	return lengths
}

// vine are the lengths of a tree each of whose left rows has one weight.
func vine(n int) []int {
	lengths := make([]int, n)
	for i := range lengths {
		lengths[i] = min(i+1, n-1)
	}
	return lengths
}

// turned is a row, turned round.
func turned(row []int) []int {
	other := slices.Clone(row)
	slices.Reverse(other)
	return other
}

// lengthsOf are the lengths that weights have, which must be told.
func lengthsOf(t *testing.T, weights []int) []int {
	t.Helper()
	lengths, e := tucker.Lengths(weights...)
	if e != api.OK {
		t.Fatalf("%v: error %d", weights, e)
	}
	return lengths
}

// costOf is what lengths cost, which must be told.
func costOf(t *testing.T, weights, lengths []int) int {
	t.Helper()
	cost, e := tucker.Cost(weights, lengths)
	if e != api.OK {
		t.Fatalf("%v by %v: error %d", weights, lengths, e)
	}
	return cost
}

// has says that weights have these lengths.
func has(t *testing.T, weights, want []int) {
	t.Helper()
	if got := lengthsOf(t, weights); !slices.Equal(got, want) {
		t.Fatalf("%v: lengths %v, not %v", weights, got, want)
	}
}

// The chapter's examples, and the document's.
func TestExamples(t *testing.T) {
	has(t, []int{1, 2, 3}, []int{2, 2, 1})
	if cost := costOf(t, []int{1, 2, 3}, []int{2, 2, 1}); cost != 9 {
		t.Error(cost)
	}
	has(t, []int{5, 1, 1, 5}, []int{1, 3, 3, 2})
	for _, lengths := range [][]int{{1, 3, 3, 2}, {2, 3, 3, 1}} {
		if cost := costOf(t, []int{5, 1, 1, 5}, lengths); cost != 21 {
			t.Error(lengths, cost)
		}
	}
}

// P5.1: what are no weights.
func TestLengthsOfNoWeights(t *testing.T) {
	wrong := [][]int{
		nil, {}, {-1}, {math.MinInt}, {tucker.MaxWeight + 1}, {math.MaxInt},
		{-1, 1}, {1, -1}, {0, -1, 0}, {1, 2, tucker.MaxWeight + 1}, {tucker.MaxWeight + 1, 2, 1},
		make([]int, tucker.MaxSigns+1), make([]int, 1<<10),
		append(make([]int, tucker.MaxSigns-1), -1),
	}
	for i, weights := range wrong {
		if l, e := tucker.Lengths(weights...); e != api.ErrArg || len(l) != 0 {
			t.Error(i, l, e)
		}
	}
}

// P5.1: one weight alone has length 1.
func TestLengthsOfOne(t *testing.T) {
	for _, w := range []int{0, 1, 7, tucker.MaxWeight} {
		has(t, []int{w}, []int{1})
	}
}

// P5.1: of all trees the best one, many of them like in cost.
func TestLengthsOfFew(t *testing.T) {
	for n := 1; n <= 6; n++ {
		all := trees(n)
		each(n, 0, 3, func(weights []int) {
			has(t, weights, bestOf(all, weights).lengths())
		})
	}
	c := chances(1)
	for n := 7; n <= 9; n++ {
		all := trees(n)
		for i := range 60 {
			weights := some(&c, n, 2+i)
			has(t, weights, bestOf(all, weights).lengths())
		}
	}
}

// P5.1: of more weights, up to the limit, with noughts and with few trees, or many, that cost least.
func TestLengthsOfMany(t *testing.T) {
	c := chances(2)
	for n := 10; n < 60; n++ {
		for _, below := range []int{1, 2, 3, 10, 1000, tucker.MaxWeight + 1} {
			weights := some(&c, n, below)
			has(t, weights, longhand(weights))
		}
	}
	for _, n := range []int{128, 255, 256, tucker.MaxSigns} {
		for _, below := range []int{2, 4, 100, tucker.MaxWeight + 1} {
			weights := some(&c, n, below)
			has(t, weights, longhand(weights))
		}
	}
}

// P5.1: weights most of which are noughts, as those of signs that are rare.
func TestLengthsOfRare(t *testing.T) {
	c := chances(3)
	for range 200 {
		weights := make([]int, 2+c.below(80))
		for range c.below(6) {
			weights[c.below(len(weights))] = c.below(9)
		}
		has(t, weights, longhand(weights))
		has(t, turned(weights), longhand(turned(weights)))
	}
}

// P5.1, at the edges: trees that are as deep as they may be, and as even.
func TestLengthsAtTheEdges(t *testing.T) {
	for _, n := range []int{2, 3, 64, tucker.MaxSigns} {
		has(t, make([]int, n), vine(n)) // all trees cost 0
	}
	greatest := slices.Repeat([]int{tucker.MaxWeight}, tucker.MaxSigns)
	has(t, greatest, append(slices.Repeat([]int{8}, tucker.MaxSigns-2), 9, 9))
	has(t, greatest[:256], slices.Repeat([]int{8}, 256))
	falling, rising := []int{}, []int{}
	for w := tucker.MaxWeight; w > 0; w /= 2 {
		falling = append(falling, w)
	}
	has(t, falling, vine(len(falling)))
	rising = turned(falling)
	has(t, rising, turned(vine(len(rising))))
}

// R3: what is answered is new memory, and weights are not changed, nor what stands behind them.
func TestLengthsIsNewMemory(t *testing.T) {
	room := []int{4, 1, 0, 2, 9, 9, 9, 9}
	want := slices.Clone(room)
	for n := 1; n <= 4; n++ {
		l, _ := tucker.Lengths(room[:n]...)
		again, _ := tucker.Lengths(room[:n]...)
		clear(l[:cap(l)])
		if !slices.Equal(room, want) || !slices.Equal(again, longhand(want[:n])) {
			t.Fatal(n, room, again)
		}
	}
}

// P5.2: all rows of up to six lengths fit just if a tree has them.
func TestFitsOfFew(t *testing.T) {
	for n := 1; n <= 6; n++ {
		fitting := map[[6]int]int{}
		for _, x := range trees(n) {
			var key [6]int
			copy(key[:], x.lengths())
			fitting[key]++
		}
		each(n, -1, 7, func(lengths []int) {
			var key [6]int
			copy(key[:], lengths)
			if got, want := tucker.Fits(lengths...), fitting[key] > 0; got != want {
				t.Fatalf("%v: %t", lengths, got)
			}
		})
	}
}

// P5.2, at the edges.
func TestFitsAtTheEdges(t *testing.T) {
	deep, even := vine(tucker.MaxSigns), slices.Repeat([]int{8}, 256)
	fitting := [][]int{
		{1}, deep, turned(deep), even,
		append(slices.Clone(even[:255]), 9, 9), append([]int{9, 9}, even[1:]...),
		{2, 3, 4, 4, 1}, {3, 3, 3, 3, 1},
	}
	for i, lengths := range fitting {
		if !tucker.Fits(lengths...) {
			t.Error(i)
		}
	}
	others := [][]int{
		nil, {}, {0}, {2}, {-1}, {math.MinInt}, {math.MaxInt},
		{0, 0}, {-1, -1}, {1, 0}, {0, 1, 1}, {1, 1, 0}, {1, 1, 1, 1},
		{math.MinInt, math.MinInt}, {math.MaxInt, math.MaxInt}, {1, math.MinInt, math.MinInt}, {1, math.MaxInt, math.MaxInt},
		vine(tucker.MaxSigns + 1), deep[:256], deep[1:], append(slices.Clone(even), 1), even[:255], even[:128],
		slices.Repeat([]int{9}, 257), make([]int, 257), make([]int, 1<<20), slices.Repeat([]int{20}, 1<<20),
	}
	for i, lengths := range others {
		if tucker.Fits(lengths...) {
			t.Error(i)
		}
	}
}

// P5.2: a deep tree's lengths fit no more once one of them is another one, or two have changed places.
func TestFitsOfChanged(t *testing.T) {
	c := chances(4)
	for range 100 {
		lengths := lengthsOf(t, some(&c, 2+c.below(60), 1000))
		for i := range lengths {
			for _, by := range []int{-1, 1, 1 << 32, math.MinInt} {
				lengths[i] += by
				if tucker.Fits(lengths...) {
					t.Fatal(lengths)
				}
				lengths[i] -= by
			}
		}
		if !tucker.Fits(lengths...) {
			t.Fatal(lengths)
		}
	}
}

// P5.2: each weight by its length; of one alone by 1.
func TestCost(t *testing.T) {
	greatest := slices.Repeat([]int{tucker.MaxWeight}, tucker.MaxSigns)
	for i, c := range []struct {
		weights, lengths []int
		want             int
	}{
		{[]int{7}, []int{1}, 7},
		{[]int{0}, []int{1}, 0},
		{[]int{0, 0}, []int{1, 1}, 0},
		{[]int{3, 4}, []int{1, 1}, 7},
		{[]int{1, 10, 100}, []int{1, 2, 2}, 221},
		{[]int{1, 10, 100}, []int{2, 2, 1}, 122},
		{[]int{1, 10, 100, 1000}, []int{2, 3, 3, 1}, 1332},
		{greatest, vine(tucker.MaxSigns), (256*257/2 + 256) << 32},
	} {
		if got := costOf(t, c.weights, c.lengths); got != c.want {
			t.Error(i, got)
		}
	}
}

// P5.2: what are no weights, what does not fit, and what is not as many.
func TestCostOfOthers(t *testing.T) {
	for i, c := range [][2][]int{
		{nil, nil}, {{}, {}}, {nil, {1}}, {{1}, nil}, {{1}, {0}}, {{1}, {2}}, {{1}, {1, 1}}, {{1, 1}, {1}},
		{{-1}, {1}}, {{-1, 2}, {1, 1}}, {{2, -1}, {1, 1}}, {{1, tucker.MaxWeight + 1}, {1, 1}}, {{math.MinInt, math.MaxInt}, {1, 1}},
		{{1, 2}, {1, 2}}, {{1, 2}, {0, 0}}, {{1, 2}, {-1, -1}}, {{0, 0, 0}, {2, 1, 2}},
		{{1, 2}, {1, 2, 2}}, {{1, 2, 3}, {1, 1}},
		{make([]int, 258), vine(258)}, {make([]int, 258), vine(257)}, {make([]int, 257), vine(258)}, {make([]int, 257), vine(256)},
	} {
		if cost, e := tucker.Cost(c[0], c[1]); cost != 0 || e != api.ErrArg {
			t.Error(i, cost, e)
		}
	}
}

// R3
func TestCostChangesNothing(t *testing.T) {
	weights, lengths := []int{5, 1, 1, 5, 9}, []int{2, 3, 3, 1, 9}
	for range 2 {
		if cost := costOf(t, weights[:4], lengths[:4]); cost != 21 || !tucker.Fits(lengths[:4]...) {
			t.Fatal(cost)
		}
		if !slices.Equal(weights, []int{5, 1, 1, 5, 9}) || !slices.Equal(lengths, []int{2, 3, 3, 1, 9}) {
			t.Fatal(weights, lengths)
		}
	}
}

// P5.3: of all lengths that fit none cost less than the best ones, and each tree's cost is that of its lengths.
func TestNoneCostsLess(t *testing.T) {
	c := chances(5)
	for n := 1; n <= 8; n++ {
		all := trees(n)
		for range 40 {
			weights := some(&c, n, 1+c.below(30))
			least := costOf(t, weights, lengthsOf(t, weights))
			for _, x := range all {
				cost := costOf(t, weights, x.lengths())
				if cost < least {
					t.Fatalf("%v by %v: %d, not %d at least", weights, x.lengths(), cost, least)
				}
				if n > 1 && cost != x.costs(weights) {
					t.Fatalf("%v by %v: %d, not %d", weights, x.lengths(), cost, x.costs(weights))
				}
			}
		}
	}
}

// P5.3: of many weights the best lengths fit, lengths that are best for others don't cost less, and turned round they cost as much.
func TestManyCostLeast(t *testing.T) {
	c := chances(6)
	for range 60 {
		n := 1 + c.below(tucker.MaxSigns)
		below := 1 + c.below(1<<c.below(33))
		weights, others := some(&c, n, below), some(&c, n, below)
		lengths := lengthsOf(t, weights)
		if !tucker.Fits(lengths...) {
			t.Fatal(weights, lengths)
		}
		least := costOf(t, weights, lengths)
		if cost := costOf(t, weights, lengthsOf(t, others)); cost < least {
			t.Fatal(weights, cost, least)
		}
		back := turned(weights)
		if cost := costOf(t, back, lengthsOf(t, back)); cost != least {
			t.Fatal(weights, cost, least)
		}
	}
}

// R4
func TestAlikeEachTime(t *testing.T) {
	weights := []int{3, 1, 1, 0, 0, 2, 5, 5, 1}
	want := lengthsOf(t, weights)
	for n := range 10 {
		lengthsOf(t, make([]int, n+1))
		has(t, weights, want)
	}
}

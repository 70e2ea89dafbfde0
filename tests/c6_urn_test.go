package tests

import (
	"math"
	"math/big"
	"slices"
	"testing"

	"loop.example/strategiesthatspread/impl"
)

// forUrns calls a function with each number of things that an urn may have.
func forUrns(try func(n int)) {
	for n := 1; n <= impl.MaxUrn; n++ {
		try(n)
	}
}

// forFresh calls a function with each weight that a new kind may have.
func forFresh(try func(fresh int)) {
	for fresh := 1; fresh <= impl.MaxFresh; fresh++ {
		try(fresh)
	}
}

// noUrns are numbers of things that no urn has.
func noUrns() []int {
	return []int{math.MinInt, -impl.MaxUrn, -1, 0, impl.MaxUrn + 1, impl.MaxUrn + 2, 1000, math.MaxInt}
}

// noFresh are weights that no new kind has.
func noFresh() []int {
	return []int{math.MinInt, -impl.MaxFresh, -1, 0, impl.MaxFresh + 1, impl.MaxFresh + 2, 1000, math.MaxInt}
}

func TestPartsOf(t *testing.T) {
	for n, want := range [][][]int{
		nil,
		{{1}},
		{{2}, {1, 1}},
		{{3}, {2, 1}, {1, 1, 1}},
		{{4}, {3, 1}, {2, 2}, {2, 1, 1}, {1, 1, 1, 1}},
		{{5}, {4, 1}, {3, 2}, {3, 1, 1}, {2, 2, 1}, {2, 1, 1, 1}, {1, 1, 1, 1, 1}},
		{{6}, {5, 1}, {4, 2}, {4, 1, 1}, {3, 3}, {3, 2, 1}, {3, 1, 1, 1}, {2, 2, 2}, {2, 2, 1, 1}, {2, 1, 1, 1, 1}, {1, 1, 1, 1, 1, 1}},
		{{7}, {6, 1}, {5, 2}, {5, 1, 1}, {4, 3}, {4, 2, 1}, {4, 1, 1, 1}, {3, 3, 1}, {3, 2, 2}, {3, 2, 1, 1}, {3, 1, 1, 1, 1}, {2, 2, 2, 1}, {2, 2, 1, 1, 1}, {2, 1, 1, 1, 1, 1}, {1, 1, 1, 1, 1, 1, 1}},
	} {
		if got := impl.PartsOf(n); !sameRows(got, want) {
			t.Errorf("PartsOf(%d) = %v, not %v", n, got, want)
		}
	}
}

func TestPartsOfAreAllRowsThatDoNotGrow(t *testing.T) {
	forUrns(func(n int) {
		if got := impl.PartsOf(n); !sameRows(got, sizeRows(n)) {
			t.Errorf("PartsOf(%d) = %v, not %v", n, got, sizeRows(n))
		}
	})
}

func TestPartsOfTooFewOrTooManyThings(t *testing.T) {
	for _, n := range noUrns() {
		if got := impl.PartsOf(n); len(got) != 0 {
			t.Errorf("PartsOf(%d) = %v", n, got)
		}
	}
}

func TestPartsOfAreNewMemory(t *testing.T) {
	forUrns(func(n int) {
		rows := impl.PartsOf(n)
		checkApart(t, "PartsOf", rows...)
		clear(rows[:cap(rows)])
		if got := impl.PartsOf(n); !sameRows(got, sizeRows(n)) {
			t.Errorf("PartsOf(%d) = %v once another result is written over", n, got)
		}
	})
}

func TestValidParts(t *testing.T) {
	for _, parts := range append(allSizeRows(), []int{1}, []int{impl.MaxUrn}, []int{3, 2, 2}, slices.Repeat([]int{1}, impl.MaxUrn)) {
		if !impl.ValidParts(parts) {
			t.Errorf("ValidParts(%v) = false", parts)
		}
	}
	for _, parts := range badParts() {
		if impl.ValidParts(parts) {
			t.Errorf("ValidParts(%v) = true", parts)
		}
	}
}

// forShortRows calls a function with each row of at most so many numbers in -1..8.
func forShortRows(most int, try func(row []int)) {
	try(nil)
	if most == 0 {
		return
	}
	for n := -1; n <= impl.MaxUrn+1; n++ {
		forShortRows(most-1, func(row []int) { try(append([]int{n}, row...)) })
	}
}

func TestValidPartsOfAllShortRows(t *testing.T) {
	valid := allSizeRows()
	var counts tally
	forShortRows(4, func(row []int) {
		want := has(valid, row...)
		if impl.ValidParts(row) != want {
			t.Fatalf("ValidParts(%v) = %v", row, !want)
		}
		counts.add(want)
	})
	counts.check(t, 30)
}

// chance is a chance that is known of sizes of kinds.
type chance struct {
	parts           []int
	fresh, up, down int
}

// knownChances are chances that are told by hand.
func knownChances() []chance {
	return []chance{
		// One thing.
		{[]int{1}, 1, 1, 1},
		{[]int{1}, 6, 1, 1},
		// One kind.
		{[]int{2}, 1, 1, 2},
		{[]int{2}, 2, 1, 3},
		{[]int{3}, 1, 1, 3},
		{[]int{3}, 2, 1, 6},
		{[]int{7}, 1, 1, 7},
		{[]int{7}, 6, 1, 924},
		// All of their own.
		{[]int{1, 1}, 1, 1, 2},
		{[]int{1, 1}, 2, 2, 3},
		{[]int{1, 1, 1}, 1, 1, 6},
		{[]int{1, 1, 1}, 6, 9, 14},
		{[]int{1, 1, 1, 1, 1, 1, 1}, 1, 1, 5040},
		{[]int{1, 1, 1, 1, 1, 1, 1}, 6, 27, 385},
		// Kinds of several sizes, and several kinds of one size.
		{[]int{2, 1}, 1, 1, 2},
		{[]int{2, 1}, 2, 1, 2},
		{[]int{2, 2}, 1, 1, 8},
		{[]int{2, 1, 1}, 1, 1, 4},
		{[]int{3, 1}, 3, 1, 5},
		{[]int{2, 2, 1}, 2, 1, 6},
		{[]int{3, 3}, 1, 1, 18},
		{[]int{3, 2, 1, 1}, 1, 1, 12},
		{[]int{4, 3}, 1, 1, 12},
		{[]int{2, 2, 2, 1}, 1, 1, 48},
	}
}

// isChance reports whether a fraction is the chance, without a common factor.
func (c chance) isChance(x impl.Frac) bool {
	return isFrac(x, big.NewRat(int64(c.up), int64(c.down)))
}

func TestKindsByProduct(t *testing.T) {
	for _, c := range knownChances() {
		if x, ok := impl.KindsByProduct(c.parts, c.fresh); !ok || !c.isChance(x) {
			t.Errorf("KindsByProduct(%v, %d) = %v, %v, not %d/%d", c.parts, c.fresh, x, ok, c.up, c.down)
		}
	}
}

func TestKindsByUrn(t *testing.T) {
	for _, c := range knownChances() {
		if x, ok := impl.KindsByUrn(c.parts, c.fresh); !ok || !c.isChance(x) {
			t.Errorf("KindsByUrn(%v, %d) = %v, %v, not %d/%d", c.parts, c.fresh, x, ok, c.up, c.down)
		}
	}
}

// productUpTo returns the product of all numbers up to n.
func productUpTo(n int) *big.Rat {
	product := whole(1)
	for k := 1; k <= n; k++ {
		product = times(k, product)
	}
	return product
}

// allWeights returns the product of fresh, fresh plus 1, and so on, n numbers.
func allWeights(n, fresh int) *big.Rat {
	return new(big.Rat).Quo(productUpTo(fresh+n-1), productUpTo(fresh-1))
}

// wantedProduct is the chance of sizes of kinds, as KindsByProduct defines it.
func wantedProduct(parts []int, fresh int) *big.Rat {
	n, many := sum(parts), map[int]int{}
	x := new(big.Rat).Quo(productUpTo(n), allWeights(n, fresh))
	for _, size := range parts {
		x.Mul(x, big.NewRat(int64(fresh), int64(size)))
		many[size]++
	}
	for _, k := range many {
		x.Quo(x, productUpTo(k))
	}
	return x
}

func TestKindsByProductIsTheProduct(t *testing.T) {
	forFresh(func(fresh int) {
		for _, parts := range allSizeRows() {
			if x, ok := impl.KindsByProduct(parts, fresh); !ok || !isFrac(x, wantedProduct(parts, fresh)) {
				t.Fatalf("KindsByProduct(%v, %d) = %v, %v, not %v", parts, fresh, x, ok, wantedProduct(parts, fresh))
			}
		}
	})
}

// cycleSizes returns the sizes of the cycles of a row that holds each place once, the greatest ahead.
func cycleSizes(row []int) []int {
	var sizes []int
	seen := make([]bool, len(row))
	for first := range row {
		size := 0
		for at := first; !seen[at]; at = row[at] {
			seen[at] = true
			size++
		}
		if size > 0 {
			sizes = append(sizes, size)
		}
	}
	slices.SortFunc(sizes, func(a, b int) int { return b - a })
	return sizes
}

// forOrders calls a function with all orders of a row, of which the first ones stay.
func forOrders(row []int, stay int, try func(row []int)) {
	if stay == len(row) {
		try(row)
		return
	}
	for i := stay; i < len(row); i++ {
		row[stay], row[i] = row[i], row[stay]
		forOrders(row, stay+1, try)
		row[stay], row[i] = row[i], row[stay]
	}
}

// sizesKey returns sizes of kinds as an array, 0 behind the last one.
func sizesKey(parts []int) [impl.MaxUrn]int {
	var key [impl.MaxUrn]int
	copy(key[:], parts)
	return key
}

func TestKindsByProductAreCyclesOfOrders(t *testing.T) {
	forUrns(func(n int) {
		var row []int
		for i := range n {
			row = append(row, i)
		}
		counts := map[[impl.MaxUrn]int]int{}
		forOrders(row, 0, func(row []int) { counts[sizesKey(cycleSizes(row))]++ })
		forFresh(func(fresh int) {
			for _, parts := range sizeRows(n) {
				// Each order has the weight fresh for each of its cycles.
				want := whole(counts[sizesKey(parts)])
				for range parts {
					want = times(fresh, want)
				}
				want.Quo(want, allWeights(n, fresh))
				if x, ok := impl.KindsByProduct(parts, fresh); !ok || !isFrac(x, want) {
					t.Fatalf("KindsByProduct(%v, %d) = %v, %v, but orders have such cycles with the chance %v", parts, fresh, x, ok, want)
				}
			}
		})
	})
}

// playUrn puts things to an urn one by one, each one to a new kind or to one that is there, and calls a function with what comes, until there are n things.
func playUrn(sizes []int, chance *big.Rat, n, fresh int, try func(sizes []int, chance *big.Rat)) {
	k := sum(sizes)
	if k == n {
		try(sizes, chance)
		return
	}
	each := new(big.Rat).Quo(chance, whole(fresh+k))
	playUrn(append(slices.Clone(sizes), 1), times(fresh, each), n, fresh, try)
	for i, size := range sizes {
		more := slices.Clone(sizes)
		more[i]++
		playUrn(more, times(size, each), n, fresh, try)
	}
}

func TestKindsByUrnIsWhatComesOneByOne(t *testing.T) {
	forUrns(func(n int) {
		forFresh(func(fresh int) {
			chances := map[[impl.MaxUrn]int]*big.Rat{}
			for _, parts := range sizeRows(n) {
				chances[sizesKey(parts)] = new(big.Rat)
			}
			playUrn(nil, whole(1), n, fresh, func(sizes []int, chance *big.Rat) {
				sorted := slices.Clone(sizes)
				slices.SortFunc(sorted, func(a, b int) int { return b - a })
				all := chances[sizesKey(sorted)]
				all.Add(all, chance)
			})
			for _, parts := range sizeRows(n) {
				want := chances[sizesKey(parts)]
				if x, ok := impl.KindsByUrn(parts, fresh); !ok || !isFrac(x, want) {
					t.Fatalf("KindsByUrn(%v, %d) = %v, %v, not %v", parts, fresh, x, ok, want)
				}
			}
		})
	})
}

func TestMeanKinds(t *testing.T) {
	for _, c := range []struct{ n, fresh, up, down int }{
		// One thing is of one kind, whatever the weight.
		{1, 1, 1, 1},
		{1, 2, 1, 1},
		{1, 6, 1, 1},
		{2, 1, 3, 2},
		{2, 2, 5, 3},
		{2, 6, 13, 7},
		{3, 1, 11, 6},
		{3, 2, 13, 6},
		{4, 1, 25, 12},
		{5, 3, 459, 140},
		{6, 5, 2131, 504},
		{7, 1, 363, 140},
		{7, 2, 481, 140},
		{7, 6, 22727, 4620},
	} {
		if x, ok := impl.MeanKinds(c.n, c.fresh); !ok || !isFrac(x, big.NewRat(int64(c.up), int64(c.down))) {
			t.Errorf("MeanKinds(%d, %d) = %v, %v, not %d/%d", c.n, c.fresh, x, ok, c.up, c.down)
		}
	}
}

func TestMeanKindsAreTheSumOfAllChancesOfANewKind(t *testing.T) {
	forUrns(func(n int) {
		forFresh(func(fresh int) {
			want := new(big.Rat)
			for k := range n {
				want.Add(want, big.NewRat(int64(fresh), int64(fresh+k)))
			}
			if x, ok := impl.MeanKinds(n, fresh); !ok || !isFrac(x, want) {
				t.Errorf("MeanKinds(%d, %d) = %v, %v, not %v", n, fresh, x, ok, want)
			}
		})
	})
}

func TestHistoriesOf(t *testing.T) {
	for n, want := range []int{-1, 1, 1, 3, 18, 180, 2700, 56700, -1} {
		if got := impl.HistoriesOf(n); got != want {
			t.Errorf("HistoriesOf(%d) = %d, not %d", n, got, want)
		}
	}
	for _, n := range noUrns() {
		if got := impl.HistoriesOf(n); got != -1 {
			t.Errorf("HistoriesOf(%d) = %d", n, got)
		}
	}
}

// playHistories counts in how many ways lines, each one a set of those at first, become one.
func playHistories(lines []int) int {
	if len(lines) == 1 {
		return 1
	}
	ways := 0
	for j := range lines {
		for i := range j {
			joined := slices.Delete(slices.Clone(lines), j, j+1)
			joined[i] |= lines[j]
			ways += playHistories(joined)
		}
	}
	return ways
}

func TestHistoriesOfAreAllThatArePlayed(t *testing.T) {
	forUrns(func(n int) {
		var lines []int
		for i := range n {
			lines = append(lines, 1<<i)
		}
		if got, want := impl.HistoriesOf(n), playHistories(lines); got != want {
			t.Errorf("HistoriesOf(%d) = %d, not %d", n, got, want)
		}
	})
}

// checkNoKinds fails if a function of the chapter tells a chance.
func checkNoKinds(t *testing.T, parts []int, fresh int) {
	t.Helper()
	kept := slices.Clone(parts)
	if x, ok := impl.KindsByProduct(parts, fresh); ok || x != (impl.Frac{}) {
		t.Errorf("KindsByProduct(%v, %d) = %v, %v", kept, fresh, x, ok)
	}
	if x, ok := impl.KindsByUrn(parts, fresh); ok || x != (impl.Frac{}) {
		t.Errorf("KindsByUrn(%v, %d) = %v, %v", kept, fresh, x, ok)
	}
	if !slices.Equal(parts, kept) {
		t.Errorf("the numbers %v are changed to %v", kept, parts)
	}
}

func TestKindsOfNumbersThatAreNoSizes(t *testing.T) {
	for _, parts := range badParts() {
		forFresh(func(fresh int) { checkNoKinds(t, parts, fresh) })
		for _, fresh := range noFresh() {
			checkNoKinds(t, parts, fresh)
		}
	}
}

func TestKindsWithWeightsThatNoNewKindHas(t *testing.T) {
	for _, parts := range allSizeRows() {
		for _, fresh := range noFresh() {
			checkNoKinds(t, parts, fresh)
		}
	}
}

// checkNoMeanKinds fails if MeanKinds tells a mean.
func checkNoMeanKinds(t *testing.T, n, fresh int) {
	t.Helper()
	if x, ok := impl.MeanKinds(n, fresh); ok || x != (impl.Frac{}) {
		t.Errorf("MeanKinds(%d, %d) = %v, %v", n, fresh, x, ok)
	}
}

func TestMeanKindsOfArgumentsThatAreNotValid(t *testing.T) {
	for _, n := range noUrns() {
		forFresh(func(fresh int) { checkNoMeanKinds(t, n, fresh) })
		for _, fresh := range noFresh() {
			checkNoMeanKinds(t, n, fresh)
		}
	}
	forUrns(func(n int) {
		for _, fresh := range noFresh() {
			checkNoMeanKinds(t, n, fresh)
		}
	})
}

func TestSizesAreNotChanged(t *testing.T) {
	for _, row := range allSizeRows() {
		g := guarded([][]int{row})
		parts := g.table[0]
		impl.ValidParts(parts)
		forFresh(func(fresh int) {
			impl.KindsByProduct(parts, fresh)
			impl.KindsByUrn(parts, fresh)
		})
		if !g.unchanged() {
			t.Fatalf("the sizes %v are changed", row)
		}
	}
	for _, row := range badParts() {
		kept := slices.Clone(row)
		impl.ValidParts(row)
		if !slices.Equal(row, kept) {
			t.Fatalf("the numbers %v are changed to %v", kept, row)
		}
	}
}

// chancesOf returns the chance of sizes of kinds by both functions.
func chancesOf(parts []int, fresh int) [2]impl.Frac {
	x, _ := impl.KindsByProduct(parts, fresh)
	y, _ := impl.KindsByUrn(parts, fresh)
	return [2]impl.Frac{x, y}
}

func TestUrnsKeepNoState(t *testing.T) {
	rows := allSizeRows()
	forFresh(func(fresh int) {
		for k, parts := range rows {
			kept := chancesOf(parts, fresh)
			chancesOf(rows[len(rows)-1-k], impl.MaxFresh+1-fresh)
			if again := chancesOf(parts, fresh); again != kept {
				t.Fatalf("the chances of %v with %d are %v at first, and then %v", parts, fresh, kept, again)
			}
		}
	})
}

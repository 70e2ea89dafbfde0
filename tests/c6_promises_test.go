package tests

import (
	"math/big"
	"slices"
	"testing"

	"loop.example/strategiesthatspread/impl"
)

// byProduct returns the chance of sizes of kinds by the product as a number.
func byProduct(t *testing.T, parts []int, fresh int) *big.Rat {
	t.Helper()
	x, ok := impl.KindsByProduct(parts, fresh)
	if !ok {
		t.Fatalf("KindsByProduct(%v, %d) = %v, %v", parts, fresh, x, ok)
	}
	return rat(x)
}

// byUrn returns the chance of sizes of kinds by the urn as a number.
func byUrn(t *testing.T, parts []int, fresh int) *big.Rat {
	t.Helper()
	x, ok := impl.KindsByUrn(parts, fresh)
	if !ok {
		t.Fatalf("KindsByUrn(%v, %d) = %v, %v", parts, fresh, x, ok)
	}
	return rat(x)
}

// meanKinds returns how many kinds there are in the mean as a number.
func meanKinds(t *testing.T, n, fresh int) *big.Rat {
	t.Helper()
	x, ok := impl.MeanKinds(n, fresh)
	if !ok {
		t.Fatalf("MeanKinds(%d, %d) = %v, %v", n, fresh, x, ok)
	}
	return rat(x)
}

// partsOf returns all sizes of kinds of n things.
func partsOf(t *testing.T, n int) [][]int {
	t.Helper()
	all := impl.PartsOf(n)
	if len(all) == 0 {
		t.Fatalf("PartsOf(%d) are none", n)
	}
	return all
}

func TestPromise30SizesAreAll(t *testing.T) {
	forUrns(func(n int) {
		all := partsOf(t, n)
		for k, parts := range all {
			if sum(parts) != n || !impl.ValidParts(parts) {
				t.Errorf("PartsOf(%d) has %v", n, parts)
			}
			if has(all[:k], parts...) {
				t.Errorf("PartsOf(%d) has %v twice", n, parts)
			}
		}
	})
}

func TestPromise31SizesAreAmongAll(t *testing.T) {
	found := map[int]int{}
	try := func(row []int) {
		if impl.ValidParts(row) {
			if !has(impl.PartsOf(sum(row)), row...) {
				t.Fatalf("%v are sizes of kinds, but none of PartsOf(%d)", row, sum(row))
			}
			found[sum(row)]++
		}
	}
	for n := 1; n <= impl.MaxUrn+1; n++ {
		for _, row := range compositions(n) {
			try(row)
		}
	}
	for n, want := range []int{0, 1, 2, 3, 5, 7, 11, 15, 0} {
		if found[n] != want {
			t.Errorf("%d rows with the sum %d are sizes of kinds, not %d", found[n], n, want)
		}
	}
	forShortRows(4, try)
}

func TestPromise32ChancesByTheProductAreChancesByTheUrn(t *testing.T) {
	tried := 0
	forUrns(func(n int) {
		forFresh(func(fresh int) {
			for _, parts := range partsOf(t, n) {
				x, ok := impl.KindsByProduct(parts, fresh)
				y, fine := impl.KindsByUrn(parts, fresh)
				if !ok || !fine || x != y {
					t.Fatalf("of %v with %d the chance is %v, %v by the product, and %v, %v by the urn", parts, fresh, x, ok, y, fine)
				}
				tried++
			}
		})
	})
	if tried != 44*impl.MaxFresh {
		t.Errorf("only %d sizes of kinds are tried", tried)
	}
}

func TestPromise33AllChancesTogetherAre1(t *testing.T) {
	forUrns(func(n int) {
		forFresh(func(fresh int) {
			all, mean := new(big.Rat), new(big.Rat)
			for _, parts := range partsOf(t, n) {
				x := byUrn(t, parts, fresh)
				all.Add(all, x)
				mean.Add(mean, times(len(parts), x))
			}
			if all.Cmp(whole(1)) != 0 {
				t.Errorf("all chances of %d things with %d are together %v", n, fresh, all)
			}
			if want := meanKinds(t, n, fresh); mean.Cmp(want) != 0 {
				t.Errorf("MeanKinds(%d, %d) = %v, but the mean of how many kinds there are is %v", n, fresh, want, mean)
			}
		})
	})
}

func TestPromise34MoreThingsAreOfNoFewerKinds(t *testing.T) {
	forFresh(func(fresh int) {
		if one := meanKinds(t, 1, fresh); one.Cmp(whole(1)) != 0 {
			t.Errorf("MeanKinds(1, %d) = %v", fresh, one)
		}
		for n := 1; n < impl.MaxUrn; n++ {
			now, next := meanKinds(t, n, fresh), meanKinds(t, n+1, fresh)
			// One thing more comes behind n others.
			if more := new(big.Rat).Sub(next, now); more.Cmp(big.NewRat(int64(fresh), int64(fresh+n))) != 0 {
				t.Errorf("with %d there are %v kinds more of %d things than of one less", fresh, more, n+1)
			}
		}
	})
}

func TestPromise35HistoriesBeginWithAPair(t *testing.T) {
	for n := 1; n < impl.MaxUrn; n++ {
		pairs := 0
		for later := range n + 1 {
			pairs += later
		}
		now, next := impl.HistoriesOf(n), impl.HistoriesOf(n+1)
		if now < 1 || next != pairs*now {
			t.Errorf("HistoriesOf(%d) = %d, and of one line more %d, with %d pairs", n, now, next, pairs)
		}
	}
}

// alike returns the chance that two of some things are of one kind.
func alike(parts []int) *big.Rat {
	n, pairs := sum(parts), 0
	for _, size := range parts {
		pairs += size * (size - 1)
	}
	return big.NewRat(int64(pairs), int64(n*(n-1)))
}

func TestPromise77TwoAreAlikeWithTheSameChanceInAnyCrowd(t *testing.T) {
	for n := 2; n <= impl.MaxUrn; n++ {
		forFresh(func(fresh int) {
			mean := new(big.Rat)
			for _, parts := range partsOf(t, n) {
				x := byProduct(t, parts, fresh)
				mean.Add(mean, x.Mul(x, alike(parts)))
			}
			if mean.Cmp(big.NewRat(1, int64(1+fresh))) != 0 {
				t.Errorf("two of %d things are of one kind with %d with the chance %v", n, fresh, mean)
			}
		})
	}
}

// oneAway returns sizes of kinds when one thing of the kind at i is taken away.
func oneAway(parts []int, i int) []int {
	less := slices.Clone(parts)
	less[i]--
	less = slices.DeleteFunc(less, func(size int) bool { return size == 0 })
	slices.SortFunc(less, func(a, b int) int { return b - a })
	return less
}

// behindOneAway returns the chance that some sizes are there when one thing, each one as likely, is taken away from other ones.
func behindOneAway(parts, from []int) *big.Rat {
	things := 0
	for i, size := range from {
		if slices.Equal(oneAway(from, i), parts) {
			things += size
		}
	}
	return big.NewRat(int64(things), int64(sum(from)))
}

func TestPromise78OneThingLessIsAnUrnOfOneLess(t *testing.T) {
	for n := 1; n < impl.MaxUrn; n++ {
		forFresh(func(fresh int) {
			for _, parts := range partsOf(t, n) {
				byOneMore := new(big.Rat)
				for _, from := range partsOf(t, n+1) {
					x := byUrn(t, from, fresh)
					byOneMore.Add(byOneMore, x.Mul(x, behindOneAway(parts, from)))
				}
				if x := byUrn(t, parts, fresh); x.Cmp(byOneMore) != 0 {
					t.Errorf("KindsByUrn(%v, %d) = %v, but with one of %d things taken away it is %v", parts, fresh, x, n+1, byOneMore)
				}
			}
		})
	}
}

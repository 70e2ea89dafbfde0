package tests

import (
	"math/big"
	"slices"
	"testing"

	"loop.example/strategiesthatspread/impl"
)

// meanPayOf returns the mean of two players met by shares as a number.
func meanPayOf(t *testing.T, a [][]int, w []int) *big.Rat {
	t.Helper()
	p, ok := impl.MeanPay(a, w)
	if !ok {
		t.Fatalf("MeanPay(%v, %v) = %v, %v", a, w, p, ok)
	}
	return rat(p)
}

// growthOf returns how much each strategy grows as numbers.
func growthOf(t *testing.T, a [][]int, w []int) []*big.Rat {
	t.Helper()
	growth := impl.GrowthOf(a, w)
	if len(growth) != len(a) {
		t.Fatalf("GrowthOf(%v, %v) = %v", a, w, growth)
	}
	var all []*big.Rat
	for _, f := range growth {
		all = append(all, rat(f))
	}
	return all
}

// times returns the product of a share and a number.
func times(share int, n *big.Rat) *big.Rat {
	return new(big.Rat).Mul(whole(share), n)
}

func TestPromise17AtRestNoOneHasMore(t *testing.T) {
	d := draw(25)
	var counts tally
	for _, a := range squareTables() {
		for _, w := range sharesFor(&d, a) {
			mean, want := meanPayOf(t, a, w), true
			for i, share := range w {
				more := payOf(t, a, alone(i, len(a), 1), w).Cmp(mean)
				want = want && more <= 0 && (share == 0 || more == 0)
			}
			if got := impl.IsRest(a, w); got != want {
				t.Fatalf("IsRest(%v, %v) = %v, with the mean %v", a, w, got, mean)
			}
			counts.add(want)
		}
	}
	counts.check(t, 1000)
}

func TestPromise19FieldsAreSquares(t *testing.T) {
	for _, a := range fieldTables() {
		if !impl.ValidField(a) || !impl.ValidSquare(a) || !impl.ValidField(turned(a)) {
			t.Fatalf("%v is no field or no square, or it turned is no field", a)
		}
	}
	for _, a := range badFields() {
		if impl.ValidField(a) || impl.ValidSquare(a) && impl.ValidField(turned(a)) {
			t.Errorf("%v, or it turned, is a field", a)
		}
	}
}

func TestPromise20WhatIsNotThereDoesNotCome(t *testing.T) {
	d := draw(26)
	missing := 0
	for _, a := range fieldTables() {
		for _, w := range sharesFor(&d, a) {
			next, growth := impl.NextShares(a, w), growthOf(t, a, w)
			if len(next) != len(w) {
				t.Fatalf("NextShares(%v, %v) = %v", a, w, next)
			}
			for i, share := range w {
				if next[i] < 0 || (next[i] > 0) != (share > 0) {
					t.Fatalf("NextShares(%v, %v) = %v", a, w, next)
				}
				if share == 0 {
					missing++
				}
				// The same shares are to each other as the shares times the growth.
				for k := range w {
					if times(next[i]*w[k], growth[k]).Cmp(times(next[k]*w[i], growth[i])) != 0 {
						t.Fatalf("NextShares(%v, %v) = %v, but GrowthOf them is %v", a, w, next, growth)
					}
				}
			}
		}
	}
	if missing < 1000 {
		t.Errorf("only %d strategies are not there", missing)
	}
}

func TestPromise21MeansDoNotFallWhereTablesAreEven(t *testing.T) {
	d := draw(27)
	rises, same, falls := 0, 0, 0
	for _, field := range fieldTables() {
		for _, a := range [][][]int{mirrored(field), field} {
			for _, w := range sharesFor(&d, a) {
				next := impl.NextShares(a, w)
				if !impl.ValidShares(next, len(a)) {
					continue
				}
				change := meanPayOf(t, a, next).Cmp(meanPayOf(t, a, w))
				switch {
				case !impl.IsEven(a):
					falls += max(-change, 0)
				case change < 0:
					t.Fatalf("MeanPay of %v falls from the shares %v to %v", a, w, next)
				case change == 0:
					same++
				default:
					rises++
				}
			}
		}
	}
	if rises < 1000 || same < 1000 || falls < 100 {
		t.Errorf("the mean rises %d times and is the same %d times, and falls %d times where tables are not even", rises, same, falls)
	}
}

func TestPromise21MeansDoNotFallWhereNextSharesAreGreat(t *testing.T) {
	d := draw(28)
	great := 0
	for _, field := range fieldTables() {
		a := mirrored(field)
		for _, w := range sharesFor(&d, a) {
			next := impl.NextShares(a, w)
			if impl.ValidShares(next, len(a)) {
				continue
			}
			great++
			// MeanPay does not take these shares, but they have a mean.
			if mean := meanOf(a, next, next); mean.Cmp(meanPayOf(t, a, w)) < 0 {
				t.Fatalf("the mean of %v falls from the shares %v to %v", a, w, next)
			}
		}
	}
	if great < 100 {
		t.Errorf("only %d next shares are greater than shares may be", great)
	}
}

func TestPromise22EvenTablesAreTheirOwnTurnedOnes(t *testing.T) {
	for _, field := range squareTables() {
		for _, a := range [][][]int{field, mirrored(field)} {
			if got := impl.IsEven(a); got != sameRows(a, turned(a)) || got != impl.IsEven(turned(a)) {
				t.Fatalf("IsEven(%v) = %v, and turned it is %v", a, got, turned(a))
			}
		}
	}
}

func TestPromise23GrowthIs1InTheMean(t *testing.T) {
	d := draw(29)
	resting := 0
	for _, a := range fieldTables() {
		for _, w := range sharesFor(&d, a) {
			growth, all := growthOf(t, a, w), new(big.Rat)
			for i, share := range w {
				all.Add(all, times(share, growth[i]))
			}
			if all.Cmp(whole(sum(w))) != 0 {
				t.Fatalf("GrowthOf(%v, %v) = %v, which is not 1 in the mean", a, w, growth)
			}
			if !impl.IsRest(a, w) {
				continue
			}
			resting++
			for i, share := range w {
				if share > 0 && growth[i].Cmp(whole(1)) != 0 {
					t.Fatalf("GrowthOf(%v, %v) = %v, at a rest", a, w, growth)
				}
			}
		}
	}
	if resting < 1000 {
		t.Errorf("only %d shares rest", resting)
	}
}

func TestPromise72EvenTablesAreTheirOwnPotentials(t *testing.T) {
	for _, square := range squareTables() {
		a := mirrored(square)
		if !impl.IsEven(a) {
			t.Fatalf("IsEven(%v) = false", a)
		}
		if p, ok := impl.PotentialOf(ofBoth(a)); !ok || !sameRows(p, raised(a, -a[0][0])) {
			t.Fatalf("two who play the even table %v have the potential %v, %v", a, p, ok)
		}
	}
}

func TestPromise73WhatRestsStays(t *testing.T) {
	d := draw(30)
	stays, goes := 0, 0
	for _, a := range fieldTables() {
		all := append(impl.RestsOn(a), sharesFor(&d, a)...)
		for _, w := range all {
			same := slices.Equal(impl.NextShares(a, w), laidOut(w, []int{0, 1, 2}[:len(w)], len(w)))
			if !impl.IsRest(a, w) {
				if !same {
					goes++
				}
				continue
			}
			stays++
			if !same {
				t.Fatalf("NextShares(%v, %v) = %v, at a rest", a, w, impl.NextShares(a, w))
			}
			twice := make([]int, len(w))
			for i, share := range w {
				twice[i] = 2 * share
			}
			if impl.ValidShares(twice, len(a)) && !slices.Equal(impl.NextShares(a, twice), impl.NextShares(a, w)) {
				t.Fatalf("NextShares(%v, %v) are not those of half as much", a, twice)
			}
		}
	}
	if stays < 1000 || goes < 1000 {
		t.Errorf("%d shares rest and stay, and %d go", stays, goes)
	}
}

func TestPromise74AheadOfTheBarrierTheFirstOneGrows(t *testing.T) {
	tried := 0
	for _, a := range fieldTables() {
		for i := range a {
			for _, j := range otherThan(i, a) {
				b := barrierOf(t, a, i, j)
				if b.Sign() == 0 {
					continue
				}
				tried++
				w := metWith(a, i, j, b.Quo(b, whole(2)))
				growth := growthOf(t, a, w)
				if growth[i].Cmp(whole(1)) <= 0 || growth[j].Cmp(whole(1)) >= 0 {
					t.Fatalf("GrowthOf(%v, %v) = %v, ahead of the barrier of %d against %d", a, w, growth, i, j)
				}
			}
		}
	}
	if tried < 1000 {
		t.Errorf("only %d barriers are more than 0", tried)
	}
}

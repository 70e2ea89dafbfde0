package tests

import (
	"math/big"
	"testing"

	"loop.example/strategiesthatspread/impl"
)

// fixedFrom returns the chance that all play the strategy 0 in the end as a number.
func fixedFrom(t *testing.T, a [][]int, n, i int) *big.Rat {
	t.Helper()
	x, ok := impl.FixedFrom(a, n, i)
	if !ok {
		t.Fatalf("FixedFrom(%v, %d, %d) = %v, %v", a, n, i, x, ok)
	}
	return rat(x)
}

// fixedOnes returns the chances of one of each strategy as numbers.
func fixedOnes(t *testing.T, a [][]int, n int) (*big.Rat, *big.Rat) {
	t.Helper()
	x, y, ok := impl.FixedOnes(a, n)
	if !ok {
		t.Fatalf("FixedOnes(%v, %d) = %v, %v, %v", a, n, x, y, ok)
	}
	return rat(x), rat(y)
}

// oddsOf returns the product of what both have at all numbers as a number.
func oddsOf(t *testing.T, a [][]int, n int) *big.Rat {
	t.Helper()
	x, ok := impl.OddsOf(a, n)
	if !ok {
		t.Fatalf("OddsOf(%v, %d) = %v, %v", a, n, x, ok)
	}
	return rat(x)
}

func TestPromise24PairsAreFields(t *testing.T) {
	for _, a := range pairTables() {
		if !impl.ValidPair(a) || !impl.ValidField(a) {
			t.Fatalf("%v is no pair or no field", a)
		}
		if b := bothExchanged(a); !impl.ValidPair(b) || !impl.ValidField(b) {
			t.Fatalf("%v is a pair, but with both exchanged it is no pair or no field", a)
		}
	}
	var counts tally
	for _, a := range append(badPairs(), fieldTables()...) {
		want := impl.ValidField(a) && len(a) == 2
		if impl.ValidPair(a) != want {
			t.Errorf("ValidPair(%v) = %v", a, !want)
		}
		counts.add(want)
	}
	counts.check(t, 100)
}

func TestPromise25PlayersDoNotMeetThemselves(t *testing.T) {
	for _, a := range pairTables() {
		forCrowds(func(n int) {
			for i := 1; i < n; i++ {
				first, second := impl.PaysAt(a, n, i)
				if x, y := impl.PaysAt(bothExchanged(a), n, n-i); x != second || y != first {
					t.Fatalf("PaysAt(%v, %d, %d) = %d, %d, but with both exchanged %d, %d", a, n, i, first, second, x, y)
				}
				players, all := crowdOf(n, i), 0
				for p := range players {
					all += hasAgainstOthers(a, players, p)
				}
				if i*first+(n-i)*second != all {
					t.Fatalf("PaysAt(%v, %d, %d) = %d, %d, but all have %d", a, n, i, first, second, all)
				}
			}
		})
	}
}

func TestPromise26ChancesAreFairBets(t *testing.T) {
	for _, a := range pairTables() {
		forCrowds(func(n int) {
			if none, all := fixedFrom(t, a, n, 0), fixedFrom(t, a, n, n); none.Sign() != 0 || all.Cmp(whole(1)) != 0 {
				t.Fatalf("FixedFrom(%v, %d) is %v for none, and %v for all", a, n, none, all)
			}
			for i := 1; i < n; i++ {
				first, second := impl.PaysAt(a, n, i)
				now := fixedFrom(t, a, n, i)
				up, down := fixedFrom(t, a, n, i+1), fixedFrom(t, a, n, i-1)
				up.Sub(up, now)
				down.Sub(now, down)
				if times(first, up).Cmp(times(second, down)) != 0 {
					t.Fatalf("at %d of %d players of %v the step up %v and the step down %v are no fair bet", i, n, a, up, down)
				}
			}
		})
	}
}

func TestPromise27OneIsToOneAsAllPaysAre(t *testing.T) {
	for _, a := range pairTables() {
		forCrowds(func(n int) {
			x, y := fixedOnes(t, a, n)
			if odds := oddsOf(t, a, n); y.Sign() == 0 || odds.Cmp(new(big.Rat).Quo(x, y)) != 0 {
				t.Fatalf("FixedOnes(%v, %d) = %v, %v, but OddsOf it are %v", a, n, x, y, odds)
			}
		})
	}
}

func TestPromise28AllTheSameIsNoFavour(t *testing.T) {
	forCrowds(func(n int) {
		for pay := 1; pay <= impl.MaxPay; pay++ {
			if favour, ok := impl.FavourOf(sameSquare(pay, 2), n); !ok || favour != 0 {
				t.Errorf("FavourOf(%v, %d) = %d, %v", sameSquare(pay, 2), n, favour, ok)
			}
		}
	})
	for _, a := range pairTables() {
		forCrowds(func(n int) {
			one, _ := fixedOnes(t, a, n)
			if favour, ok := impl.FavourOf(a, n); !ok || favour != one.Cmp(big.NewRat(1, int64(n))) {
				t.Fatalf("FavourOf(%v, %d) = %d, %v, but one has the chance %v", a, n, favour, ok, one)
			}
		})
	}
}

func TestPromise29OddsOfBothExchangedAreTurned(t *testing.T) {
	for _, a := range pairTables() {
		forCrowds(func(n int) {
			odds, other := oddsOf(t, a, n), oddsOf(t, bothExchanged(a), n)
			if new(big.Rat).Mul(odds, other).Cmp(whole(1)) != 0 {
				t.Fatalf("OddsOf(%v, %d) = %v, and with both exchanged %v", a, n, odds, other)
			}
		})
	}
}

func TestPromise75WhatIsTheSameSpreadsByChanceAlone(t *testing.T) {
	for pay := 1; pay <= impl.MaxPay; pay++ {
		a := sameSquare(pay, 2)
		forCrowds(func(n int) {
			for i := range n + 1 {
				if x := fixedFrom(t, a, n, i); x.Cmp(big.NewRat(int64(i), int64(n))) != 0 {
					t.Errorf("FixedFrom(%v, %d, %d) = %v", a, n, i, x)
				}
			}
		})
	}
	for _, a := range pairTables() {
		against, back := a[0][1], a[1][0]
		if x := fixedFrom(t, a, 2, 1); x.Cmp(big.NewRat(int64(against), int64(against+back))) != 0 {
			t.Fatalf("FixedFrom(%v, 2, 1) = %v", a, x)
		}
	}
}

// withOneMore returns a table with the number of a row and a column 1 more.
func withOneMore(a [][]int, i, j int) [][]int {
	b := cloned(a)
	b[i][j]++
	return b
}

func TestPromise76MoreMakesSurer(t *testing.T) {
	changed := [2]int{}
	for _, a := range pairTables() {
		for place := range 4 {
			strategy := place / 2
			more := withOneMore(a, strategy, place%2)
			if !impl.ValidPair(more) {
				continue
			}
			forCrowds(func(n int) {
				for i := range n + 1 {
					change := fixedFrom(t, more, n, i).Cmp(fixedFrom(t, a, n, i))
					if change != 0 {
						changed[strategy]++
					}
					if strategy == 0 && change < 0 || strategy == 1 && change > 0 {
						t.Fatalf("FixedFrom(%v, %d, %d) is on the other side of that of %v", more, n, i, a)
					}
				}
			})
		}
	}
	if min(changed[0], changed[1]) < 1000 {
		t.Errorf("only %d chances change with one more", changed)
	}
}

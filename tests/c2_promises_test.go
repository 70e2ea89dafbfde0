package tests

import (
	"math/big"
	"slices"
	"testing"

	"loop.example/strategiesthatspread/impl"
)

// valueOf returns the value of a table as a number.
func valueOf(t *testing.T, a [][]int) *big.Rat {
	t.Helper()
	v, ok := impl.ValueOf(a)
	if !ok {
		t.Fatalf("ValueOf(%v) = %v, %v", a, v, ok)
	}
	return rat(v)
}

// worstOf returns the least mean of shares of rows as a number.
func worstOf(t *testing.T, a [][]int, x []int) *big.Rat {
	t.Helper()
	p, ok := impl.WorstOf(a, x)
	if !ok {
		t.Fatalf("WorstOf(%v, %v) = %v, %v", a, x, p, ok)
	}
	return rat(p)
}

// payOf returns the mean of a table with shares as a number.
func payOf(t *testing.T, a [][]int, x, y []int) *big.Rat {
	t.Helper()
	p, ok := impl.PayOf(a, x, y)
	if !ok {
		t.Fatalf("PayOf(%v, %v, %v) = %v, %v", a, x, y, p, ok)
	}
	return rat(p)
}

// whole returns a number of an int.
func whole(n int) *big.Rat {
	return big.NewRat(int64(n), 1)
}

// minus returns a number with the other sign.
func minus(n *big.Rat) *big.Rat {
	return new(big.Rat).Neg(n)
}

func TestPromise5WhatOneMakesSureIsNoMoreThanTheValue(t *testing.T) {
	for _, a := range mixTables() {
		v := valueOf(t, a)
		i, n, ok := impl.SafeRow(a)
		if !ok || n != slices.Min(a[i]) || whole(n).Cmp(v) > 0 {
			t.Fatalf("SafeRow(%v) = %d, %d, %v, with the value %v", a, i, n, ok, v)
		}
		// What the second player makes sure by a column is what the first one has at the most.
		j, n, ok := impl.SafeRow(otherSide(a))
		if !ok || -n != slices.Max(turned(a)[j]) || whole(-n).Cmp(v) < 0 {
			t.Fatalf("SafeRow(%v) = %d, %d, %v, with the value %v", otherSide(a), j, n, ok, v)
		}
	}
}

func TestPromise8OneAloneIsAShare(t *testing.T) {
	for n := 1; n <= impl.MaxActs; n++ {
		for i := range n {
			for _, share := range []int{1, 2, impl.MaxShare - 1, impl.MaxShare} {
				if w := alone(i, n, share); !impl.ValidShares(w, n) {
					t.Errorf("ValidShares(%v, %d) = false", w, n)
				}
			}
			if w := alone(i, n, 0); impl.ValidShares(w, n) {
				t.Errorf("ValidShares(%v, %d) = true", w, n)
			}
		}
	}
}

func TestPromise9MeansAreMeansOfMeans(t *testing.T) {
	d := draw(13)
	for _, a := range drawnTables() {
		for _, x := range drawnShares(&d, len(a)) {
			for _, y := range drawnShares(&d, len(a[0])) {
				mean := new(big.Rat)
				for i := range a {
					chance := big.NewRat(int64(x[i]), int64(sum(x)))
					mean.Add(mean, chance.Mul(chance, payOf(t, a, alone(i, len(a), 1), y)))
				}
				if p, ok := impl.PayOf(a, x, y); !ok || !isFrac(p, mean) {
					t.Fatalf("PayOf(%v, %v, %v) = %v, %v, but the mean of the rows alone is %v", a, x, y, p, ok, mean)
				}
			}
		}
	}
}

func TestPromise10TheWorstIsNoMoreThanTheValue(t *testing.T) {
	d := draw(14)
	for _, a := range drawnTables() {
		v := valueOf(t, a)
		for _, x := range drawnShares(&d, len(a)) {
			worst := worstOf(t, a, x)
			if worst.Cmp(v) > 0 {
				t.Fatalf("WorstOf(%v, %v) = %v, with the value %v", a, x, worst, v)
			}
			for _, y := range drawnShares(&d, len(a[0])) {
				if worst.Cmp(payOf(t, a, x, y)) > 0 {
					t.Fatalf("WorstOf(%v, %v) = %v, which is more than with the columns %v", a, x, worst, y)
				}
			}
		}
	}
}

func TestPromise11TheValueIsTheSameFromBothSides(t *testing.T) {
	for _, a := range mixTables() {
		if v, other := valueOf(t, a), valueOf(t, otherSide(a)); v.Cmp(minus(other)) != 0 {
			t.Fatalf("ValueOf(%v) = %v, and from the other side %v", a, v, other)
		}
	}
}

func TestPromise12BestSharesMakeTheValueSureAndNoMore(t *testing.T) {
	d := draw(15)
	var counts tally
	for _, a := range drawnTables() {
		v, other := valueOf(t, a), otherSide(a)
		for _, x := range triedShares(&d, a) {
			for _, y := range triedShares(&d, other) {
				want := worstOf(t, a, x).Cmp(v) == 0 && worstOf(t, other, y).Cmp(minus(v)) == 0
				if got := impl.AreBest(a, x, y); got != want {
					t.Fatalf("AreBest(%v, %v, %v) = %v, with the value %v", a, x, y, got, v)
				}
				counts.add(want)
			}
		}
	}
	counts.check(t, 1)
}

func TestPromise13TheBestSharesAreBest(t *testing.T) {
	for _, a := range mixTables() {
		x, y := impl.BestShares(a)
		if !impl.ValidShares(x, len(a)) || !impl.ValidShares(y, len(a[0])) || !impl.AreBest(a, x, y) {
			t.Fatalf("BestShares(%v) = %v, %v, and they are not best", a, x, y)
		}
		if p, v := payOf(t, a, x, y), valueOf(t, a); p.Cmp(v) != 0 {
			t.Fatalf("PayOf(%v, %v, %v) = %v, with the value %v", a, x, y, p, v)
		}
	}
}

func TestPromise69RestsOfWhatTheOtherLacksAreTheValue(t *testing.T) {
	var counts tally
	for _, a := range mixTables() {
		v := valueOf(t, a)
		rests := impl.PureRests(impl.Game{A: a, B: otherSign(a)})
		for _, rest := range rests {
			if whole(a[rest[0]][rest[1]]).Cmp(v) != 0 {
				t.Fatalf("the number of %v at the rest %v is not the value %v", a, rest, v)
			}
		}
		_, sure, _ := impl.SafeRow(a)
		_, other, _ := impl.SafeRow(otherSide(a))
		both := whole(sure).Cmp(v) == 0 && whole(-other).Cmp(v) == 0
		if both != (len(rests) > 0) {
			t.Fatalf("of %v with the value %v both make %d and %d sure, but the rests are %v", a, v, sure, other, rests)
		}
		counts.add(both)
	}
	counts.check(t, 1)
}

func TestPromise70ValuesGoWithAllNumbers(t *testing.T) {
	for _, a := range mixTables() {
		more := raised(a, 1)
		if !impl.ValidTable(more) {
			continue
		}
		v, raised := valueOf(t, a), valueOf(t, more)
		if raised.Sub(raised, v).Cmp(whole(1)) != 0 {
			t.Fatalf("ValueOf(%v) is not 1 more than %v", more, v)
		}
	}
}

func TestPromise70ValuesAreNoMoreWithoutTheLastRow(t *testing.T) {
	for _, a := range mixTables() {
		if len(a) == 1 {
			continue
		}
		if v, fewer := valueOf(t, a), valueOf(t, a[:len(a)-1]); fewer.Cmp(v) > 0 {
			t.Fatalf("ValueOf(%v) = %v, and without the last row %v", a, v, fewer)
		}
	}
}

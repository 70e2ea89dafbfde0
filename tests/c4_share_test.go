package tests

import (
	"math/big"
	"slices"
	"testing"

	"loop.example/strategiesthatspread/impl"
)

// sharesFor are shares of the strategies of a square: drawn ones, and its rests.
func sharesFor(d *draw, a [][]int) [][]int {
	return append(drawnShares(d, len(a)), wantedRests(a)...)
}

func TestValidField(t *testing.T) {
	for _, a := range fieldTables() {
		if !impl.ValidField(a) {
			t.Fatalf("ValidField(%v) = false", a)
		}
	}
	for _, a := range badFields() {
		if impl.ValidField(a) {
			t.Errorf("ValidField(%v) = true", a)
		}
	}
	for _, a := range squareTables() {
		if want := slices.Min(slices.Concat(a...)) > 0; impl.ValidField(a) != want {
			t.Fatalf("ValidField(%v) = %v", a, !want)
		}
	}
}

func TestNextShares(t *testing.T) {
	a := [][]int{{1, 3}, {2, 1}}
	own := [][]int{{9, 1, 1}, {1, 9, 1}, {1, 1, 9}}
	for _, c := range []struct {
		a       [][]int
		w, want []int
	}{
		{[][]int{{7}}, []int{1000}, []int{1}},
		{a, []int{1, 1}, []int{4, 3}},
		{a, []int{2, 2}, []int{4, 3}},
		{a, []int{1, 2}, []int{7, 8}},
		{a, []int{3, 1}, []int{18, 7}},
		{own, []int{1, 2, 3}, []int{7, 22, 45}},
		// Of one alone, which stays alone.
		{a, []int{5, 0}, []int{1, 0}},
		{a, []int{0, 1000}, []int{0, 1}},
		{own, []int{0, 0, 8}, []int{0, 0, 1}},
		// One of three is not there, and does not come.
		{own, []int{1, 3, 0}, []int{1, 7, 0}},
		{own, []int{0, 3, 1}, []int{0, 7, 1}},
		// Of tables of ones, and of one other number.
		{[][]int{{1}}, []int{4}, []int{1}},
		{sameSquare(1, 2), []int{1, 2}, []int{1, 2}},
		{sameSquare(1, 2), []int{999, 0}, []int{1, 0}},
		{sameSquare(1, 3), []int{2, 4, 6}, []int{1, 2, 3}},
		{sameSquare(2, 2), []int{3, 6}, []int{1, 2}},
		{sameSquare(9, 3), []int{1000, 1, 999}, []int{1000, 1, 999}},
		// At rests, which stay.
		{a, []int{2, 1}, []int{2, 1}},
		{a, []int{666, 333}, []int{2, 1}},
		{own, []int{1, 0, 1}, []int{1, 0, 1}},
		{own, []int{7, 7, 7}, []int{1, 1, 1}},
		// Of numbers that are more than shares may be.
		{[][]int{{9, 9, 9}, {9, 9, 9}, {9, 9, 8}}, []int{1000, 1000, 1000}, []int{27, 27, 26}},
		{a, []int{1000, 1}, []int{1003000, 2001}},
		{[][]int{{9, 1}, {1, 9}}, []int{999, 1000}, []int{1109001, 1111000}},
		{[][]int{{9, 8, 7}, {9, 9, 9}, {5, 7, 9}}, []int{1000, 999, 997}, []int{11985500, 13468518, 10451551}},
	} {
		if got := impl.NextShares(c.a, c.w); !slices.Equal(got, c.want) {
			t.Errorf("NextShares(%v, %v) = %v, not %v", c.a, c.w, got, c.want)
		}
	}
}

// nextOf returns the shares times what their strategies have, each pay times the sum of the shares, without a common factor.
func nextOf(a [][]int, w []int) []int {
	next := make([]int, len(w))
	for i := range a {
		for j := range w {
			next[i] += w[i] * a[i][j] * w[j]
		}
	}
	return laidOut(next, []int{0, 1, 2}[:len(w)], len(w))
}

func TestNextSharesAreTheSharesTimesWhatTheyHave(t *testing.T) {
	d := draw(20)
	great := 0
	for _, a := range fieldTables() {
		for _, w := range sharesFor(&d, a) {
			want := nextOf(a, w)
			if got := impl.NextShares(a, w); !slices.Equal(got, want) {
				t.Fatalf("NextShares(%v, %v) = %v, not %v", a, w, got, want)
			}
			if slices.Max(want) > impl.MaxShare {
				great++
			}
		}
	}
	if great < 100 {
		t.Errorf("only %d shares come to more than %d", great, impl.MaxShare)
	}
}

func TestMeanPay(t *testing.T) {
	a, sides := [][]int{{1, 3}, {2, 1}}, [][]int{{-3, 4}, {0, -2}}
	for _, c := range []struct {
		a        [][]int
		w        []int
		up, down int
	}{
		{[][]int{{-5}}, []int{3}, -5, 1},
		{[][]int{{0}}, []int{1000}, 0, 1},
		{a, []int{1, 1}, 7, 4},
		{a, []int{1, 2}, 5, 3},
		{a, []int{2, 1}, 5, 3},
		{a, []int{3, 1}, 25, 16},
		// Of one alone: what it has against itself.
		{a, []int{9, 0}, 1, 1},
		{sides, []int{8, 0}, -3, 1},
		{sides, []int{0, 1000}, -2, 1},
		// Of tables of ones, and of one other number.
		{sameSquare(1, 2), []int{3, 5}, 1, 1},
		{sameSquare(1, 3), []int{1000, 999, 1}, 1, 1},
		{sameSquare(-9, 3), []int{1000, 1000, 1000}, -9, 1},
		// No field, but a square.
		{sides, []int{1, 1}, -1, 4},
		{sides, []int{2, 1}, -2, 3},
		{[][]int{{0, -1, 1}, {1, 0, -1}, {-1, 1, 0}}, []int{5, 6, 7}, 0, 1},
		{[][]int{{9, 0}, {0, 0}}, []int{1, 999}, 9, 1000000},
		{[][]int{{9, 1, 1}, {1, 9, 1}, {1, 1, 9}}, []int{1, 2, 3}, 37, 9},
		{[][]int{{9, 8, 7}, {9, 9, 9}, {5, 7, 9}}, []int{1000, 999, 997}, 5129367, 641144},
	} {
		if p, ok := impl.MeanPay(c.a, c.w); !ok || p != (impl.Frac{Up: c.up, Down: c.down}) {
			t.Errorf("MeanPay(%v, %v) = %v, %v, not %d/%d", c.a, c.w, p, ok, c.up, c.down)
		}
	}
}

func TestMeanPayIsTheMeanByChances(t *testing.T) {
	d := draw(21)
	for _, a := range squareTables() {
		for _, w := range drawnShares(&d, len(a)) {
			if p, ok := impl.MeanPay(a, w); !ok || !isFrac(p, meanOf(a, w, w)) {
				t.Fatalf("MeanPay(%v, %v) = %v, %v, not %v", a, w, p, ok, meanOf(a, w, w))
			}
		}
	}
}

func TestIsEven(t *testing.T) {
	for _, a := range [][][]int{
		{{-5}}, {{1}}, {{1, 3}, {3, 1}}, {{0, -9}, {-9, 9}}, sameSquare(1, 2), sameSquare(1, 3), sameSquare(0, 3),
		{{1, 2, 3}, {2, 4, 5}, {3, 5, 6}}, {{0, 0, -1}, {0, 0, 0}, {-1, 0, 7}},
	} {
		if !impl.IsEven(a) {
			t.Errorf("IsEven(%v) = false", a)
		}
	}
	for _, a := range [][][]int{
		{{1, 3}, {2, 1}}, {{0, 1}, {-1, 0}}, {{5, 0}, {1, 5}},
		{{1, 2, 3}, {4, 4, 5}, {3, 5, 6}}, {{1, 2, 3}, {2, 4, 5}, {4, 5, 6}}, {{1, 2, 3}, {2, 4, 5}, {3, 4, 6}},
		{{0, -1, 1}, {1, 0, -1}, {-1, 1, 0}},
	} {
		if impl.IsEven(a) {
			t.Errorf("IsEven(%v) = true", a)
		}
	}
}

func TestIsEvenHoldsIfEachNumberIsTheSameExchanged(t *testing.T) {
	var counts tally
	for _, a := range squareTables() {
		want := true
		for i, row := range a {
			for j, n := range row {
				want = want && a[j][i] == n
			}
		}
		if impl.IsEven(a) != want {
			t.Fatalf("IsEven(%v) = %v", a, !want)
		}
		if !impl.IsEven(mirrored(a)) {
			t.Fatalf("IsEven(%v) = false", mirrored(a))
		}
		counts.add(want)
	}
	counts.check(t, 100)
}

func TestGrowthOf(t *testing.T) {
	a := [][]int{{1, 3}, {2, 1}}
	own := [][]int{{9, 1, 1}, {1, 9, 1}, {1, 1, 9}}
	one := impl.Frac{Up: 1, Down: 1}
	for _, c := range []struct {
		a    [][]int
		w    []int
		want []impl.Frac
	}{
		{[][]int{{7}}, []int{1000}, []impl.Frac{one}},
		{a, []int{1, 1}, []impl.Frac{{Up: 8, Down: 7}, {Up: 6, Down: 7}}},
		{a, []int{1, 2}, []impl.Frac{{Up: 7, Down: 5}, {Up: 4, Down: 5}}},
		{a, []int{3, 1}, []impl.Frac{{Up: 24, Down: 25}, {Up: 28, Down: 25}}},
		{own, []int{1, 2, 3}, []impl.Frac{{Up: 21, Down: 37}, {Up: 33, Down: 37}, {Up: 45, Down: 37}}},
		// Of one alone: all others are told against it, too.
		{a, []int{5, 0}, []impl.Frac{one, {Up: 2, Down: 1}}},
		{a, []int{0, 1000}, []impl.Frac{{Up: 3, Down: 1}, one}},
		{own, []int{0, 9, 0}, []impl.Frac{{Up: 1, Down: 9}, one, {Up: 1, Down: 9}}},
		{own, []int{1, 3, 0}, []impl.Frac{{Up: 1, Down: 2}, {Up: 7, Down: 6}, {Up: 1, Down: 6}}},
		// Of tables of ones, and of one other number.
		{[][]int{{1}}, []int{4}, []impl.Frac{one}},
		{sameSquare(1, 2), []int{3, 5}, []impl.Frac{one, one}},
		{sameSquare(1, 3), []int{0, 7, 0}, []impl.Frac{one, one, one}},
		{sameSquare(9, 3), []int{1000, 1, 999}, []impl.Frac{one, one, one}},
		// At rests: 1 for each one with a share.
		{a, []int{2, 1}, []impl.Frac{one, one}},
		{own, []int{7, 7, 7}, []impl.Frac{one, one, one}},
		{own, []int{2, 0, 2}, []impl.Frac{one, {Up: 1, Down: 5}, one}},
		// Of great shares.
		{[][]int{{1, 9}, {9, 1}}, []int{1, 999}, []impl.Frac{{Up: 562000, Down: 63499}, {Up: 63000, Down: 63499}}},
		{[][]int{{9, 1}, {1, 1}}, []int{1, 1000}, []impl.Frac{{Up: 1010009, Down: 1002009}, {Up: 1002001, Down: 1002009}}},
		{[][]int{{9, 8, 7}, {9, 9, 9}, {5, 7, 9}}, []int{1000, 999, 997}, []impl.Frac{{Up: 5129794, Down: 5129367}, {Up: 1923432, Down: 1709789}, {Up: 4486724, Down: 5129367}}},
	} {
		if got := impl.GrowthOf(c.a, c.w); !slices.Equal(got, c.want) {
			t.Errorf("GrowthOf(%v, %v) = %v, not %v", c.a, c.w, got, c.want)
		}
	}
}

func TestGrowthOfIsWhatEachHasDividedByTheMean(t *testing.T) {
	d := draw(22)
	for _, a := range fieldTables() {
		for _, w := range sharesFor(&d, a) {
			got := impl.GrowthOf(a, w)
			if len(got) != len(a) {
				t.Fatalf("GrowthOf(%v, %v) = %v", a, w, got)
			}
			for i, growth := range got {
				pay := meanOf(a, alone(i, len(a), 1), w)
				if want := new(big.Rat).Quo(pay, meanOf(a, w, w)); !isFrac(growth, want) {
					t.Fatalf("GrowthOf(%v, %v) = %v, and not %v at %d", a, w, got, want, i)
				}
			}
		}
	}
}

// checkNoShares fails if a table with shares, one of which is not valid, has next shares or growth.
func checkNoShares(t *testing.T, a [][]int, w []int) {
	t.Helper()
	if got := impl.NextShares(a, w); len(got) != 0 {
		t.Errorf("NextShares(%v, %v) = %v", a, w, got)
	}
	if got := impl.GrowthOf(a, w); len(got) != 0 {
		t.Errorf("GrowthOf(%v, %v) = %v", a, w, got)
	}
}

// checkNoMean fails if a table with shares, one of which is not valid, has a mean.
func checkNoMean(t *testing.T, a [][]int, w []int) {
	t.Helper()
	if p, ok := impl.MeanPay(a, w); ok || p != (impl.Frac{}) {
		t.Errorf("MeanPay(%v, %v) = %v, %v", a, w, p, ok)
	}
}

func TestSharesOfTablesThatAreNotFields(t *testing.T) {
	for _, a := range badFields() {
		kept := cloned(a)
		for _, n := range []int{len(a), 1, 2, 3} {
			checkNoShares(t, a, fitting(n))
			checkNoShares(t, a, slices.Repeat([]int{1}, n))
			if !impl.ValidSquare(a) {
				checkNoMean(t, a, fitting(n))
			}
		}
		if !sameRows(a, kept) {
			t.Errorf("the table %v is changed to %v", kept, a)
		}
	}
}

func TestIsEvenOfTablesThatAreNotSquares(t *testing.T) {
	for _, a := range append(badSquares(), [][]int{{10, 1}, {1, 10}}, [][]int{{1, -10}, {-10, 1}}, sameSquare(0, 4), sameSquare(10, 3)) {
		if impl.IsEven(a) {
			t.Errorf("IsEven(%v) = true", a)
		}
	}
}

func TestSquaresThatAreNotFieldsHaveMeans(t *testing.T) {
	for _, a := range badFields() {
		if !impl.ValidSquare(a) {
			continue
		}
		for i := range a {
			w := alone(i, len(a), 1)
			if p, ok := impl.MeanPay(a, w); !ok || p != (impl.Frac{Up: a[i][i], Down: 1}) {
				t.Errorf("MeanPay(%v, %v) = %v, %v", a, w, p, ok)
			}
		}
	}
}

func TestSharesThatAreNotValid(t *testing.T) {
	for size := 1; size <= impl.MaxActs; size++ {
		for _, a := range [][][]int{sameSquare(1, size), sameSquare(impl.MaxPay, size)} {
			for _, w := range badShares(size) {
				kept := slices.Clone(w)
				checkNoShares(t, a, w)
				checkNoMean(t, a, w)
				if !slices.Equal(w, kept) {
					t.Errorf("the shares %v are changed to %v", kept, w)
				}
			}
		}
	}
}

func TestFieldsAreNotChanged(t *testing.T) {
	d := draw(23)
	for _, field := range fieldTables() {
		for _, drawn := range sharesFor(&d, field) {
			a, shares := guarded(field), guarded([][]int{drawn})
			w := shares.table[0]
			impl.ValidField(a.table)
			impl.MeanPay(a.table, w)
			impl.IsEven(a.table)
			next, growth := impl.NextShares(a.table, w), impl.GrowthOf(a.table, w)
			scribble(next)
			clear(growth[:cap(growth)])
			if !a.unchanged() || !shares.unchanged() {
				t.Fatalf("the field %v, or the shares %v of it, are changed", field, drawn)
			}
		}
	}
}

func TestSharesKeepNoState(t *testing.T) {
	d := draw(24)
	for _, a := range fieldTables() {
		for _, w := range sharesFor(&d, a) {
			next, growth := impl.NextShares(a, w), impl.GrowthOf(a, w)
			keptNext, keptGrowth := slices.Clone(next), slices.Clone(growth)
			scribble(next)
			clear(growth[:cap(growth)])
			if !slices.Equal(impl.NextShares(a, w), keptNext) || !slices.Equal(impl.GrowthOf(a, w), keptGrowth) {
				t.Fatalf("the results for %v and %v are others when the first ones are written over", a, w)
			}
		}
	}
}

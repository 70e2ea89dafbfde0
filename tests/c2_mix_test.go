package tests

import (
	"math"
	"math/big"
	"slices"
	"testing"

	"loop.example/strategiesthatspread/impl"
)

// rat returns a fraction as a number that can be added and compared.
func rat(f impl.Frac) *big.Rat {
	return big.NewRat(int64(f.Up), int64(f.Down))
}

// isFrac reports whether a fraction is a number, without a common factor and with a Down of at least 1.
func isFrac(f impl.Frac, n *big.Rat) bool {
	return n.Num().Cmp(big.NewInt(int64(f.Up))) == 0 && n.Denom().Cmp(big.NewInt(int64(f.Down))) == 0
}

// sum returns the sum of a row.
func sum(row []int) int {
	all := 0
	for _, n := range row {
		all += n
	}
	return all
}

// meanOf returns the mean of a table with shares, from chances of each row and of each column.
func meanOf(a [][]int, x, y []int) *big.Rat {
	mean := new(big.Rat)
	for i := range a {
		for j := range a[i] {
			chance := big.NewRat(int64(x[i]), int64(sum(x)))
			chance.Mul(chance, big.NewRat(int64(y[j]), int64(sum(y))))
			mean.Add(mean, chance.Mul(chance, big.NewRat(int64(a[i][j]), 1)))
		}
	}
	return mean
}

// leastMean returns the least mean of shares of rows over all columns.
func leastMean(a [][]int, x []int) *big.Rat {
	var least *big.Rat
	for j := range a[0] {
		mean := meanOf(a, x, alone(j, len(a[0]), 1))
		if least == nil || mean.Cmp(least) < 0 {
			least = mean
		}
	}
	return least
}

// greatestMean returns the greatest mean of shares of columns over all rows.
func greatestMean(a [][]int, y []int) *big.Rat {
	var greatest *big.Rat
	for i := range a {
		mean := meanOf(a, alone(i, len(a), 1), y)
		if greatest == nil || mean.Cmp(greatest) > 0 {
			greatest = mean
		}
	}
	return greatest
}

// makeSure reports whether shares of rows make just as much sure as shares of columns let through, so that this is the value.
func makeSure(a [][]int, x, y []int) bool {
	return leastMean(a, x).Cmp(greatestMean(a, y)) == 0
}

func TestValidShares(t *testing.T) {
	for _, w := range [][]int{
		{1}, {impl.MaxShare},
		{0, 1}, {1, 0}, {7, 7}, {impl.MaxShare, 0}, {impl.MaxShare, impl.MaxShare},
		{0, 0, 1}, {0, 1, 0}, {1, 0, 0}, {1, 2, 3}, {impl.MaxShare, impl.MaxShare, impl.MaxShare},
	} {
		if !impl.ValidShares(w, len(w)) {
			t.Errorf("ValidShares(%v, %d) = false", w, len(w))
		}
		for _, n := range []int{math.MinInt, -1, 0, 1, 2, 3, 4, math.MaxInt} {
			if n != len(w) && impl.ValidShares(w, n) {
				t.Errorf("ValidShares(%v, %d) = true", w, n)
			}
		}
	}
	for n := 1; n <= impl.MaxActs; n++ {
		for _, w := range badShares(n) {
			if impl.ValidShares(w, n) {
				t.Errorf("ValidShares(%v, %d) = true", w, n)
			}
		}
	}
}

func TestValidSharesOfTooFewAndTooManyThings(t *testing.T) {
	for _, n := range []int{math.MinInt, -1, 0, impl.MaxActs + 1, impl.MaxActs + 2, math.MaxInt} {
		for length := range impl.MaxActs + 3 {
			if w := slices.Repeat([]int{1}, length); impl.ValidShares(w, n) {
				t.Errorf("ValidShares(%v, %d) = true", w, n)
			}
		}
	}
}

func TestPayOf(t *testing.T) {
	full := []int{impl.MaxShare, impl.MaxShare, impl.MaxShare}
	for _, c := range []struct {
		a        [][]int
		x, y     []int
		up, down int
	}{
		{[][]int{{-5}}, []int{3}, []int{7}, -5, 1},
		{[][]int{{0}}, []int{1000}, []int{999}, 0, 1},
		{[][]int{{9}}, []int{1}, []int{1}, 9, 1},
		{[][]int{{3, 1}, {0, 2}}, []int{1, 1}, []int{1, 3}, 3, 2},
		{[][]int{{3, 1}, {0, 2}}, []int{0, 4}, []int{6, 0}, 0, 1},
		{[][]int{{3, 1}, {0, 2}}, []int{2, 1}, []int{1, 0}, 2, 1},
		{[][]int{{1, -1}, {-1, 1}}, []int{500, 500}, []int{1, 0}, 0, 1},
		{[][]int{{-3, -1}, {0, -2}}, []int{1, 1}, []int{1, 1}, -3, 2},
		{[][]int{{-9, 2, 4}}, []int{8}, []int{2, 2, 2}, -1, 1},
		{[][]int{{-9, 2, 4}}, []int{8}, []int{1, 2, 0}, -5, 3},
		{[][]int{{-9}, {2}, {4}}, []int{2, 1, 2}, []int{5}, -8, 5},
		{[][]int{{9, 9, 9}, {9, 9, 9}, {9, 9, 9}}, full, full, 9, 1},
		{[][]int{{-9, -9, -9}, {-9, -9, -9}, {-9, -9, -9}}, full, full, -9, 1},
		{[][]int{{1, 2, 3}, {4, 5, 6}, {7, 8, 9}}, []int{1, 2, 3}, []int{3, 2, 1}, 17, 3},
		{[][]int{{9, 0}, {0, 0}}, []int{1, 999}, []int{1, 999}, 9, 1000000},
	} {
		if p, ok := impl.PayOf(c.a, c.x, c.y); !ok || p != (impl.Frac{Up: c.up, Down: c.down}) {
			t.Errorf("PayOf(%v, %v, %v) = %v, %v, not %d/%d", c.a, c.x, c.y, p, ok, c.up, c.down)
		}
	}
}

func TestPayOfIsTheMeanByChances(t *testing.T) {
	d := draw(8)
	for _, a := range drawnTables() {
		for _, x := range drawnShares(&d, len(a)) {
			for _, y := range drawnShares(&d, len(a[0])) {
				if p, ok := impl.PayOf(a, x, y); !ok || !isFrac(p, meanOf(a, x, y)) {
					t.Fatalf("PayOf(%v, %v, %v) = %v, %v", a, x, y, p, ok)
				}
			}
		}
	}
}

func TestWorstOf(t *testing.T) {
	for _, c := range []struct {
		a        [][]int
		x        []int
		up, down int
	}{
		{[][]int{{-5}}, []int{3}, -5, 1},
		{[][]int{{0}}, []int{1000}, 0, 1},
		{[][]int{{3, 1}, {0, 2}}, []int{1, 0}, 1, 1},
		{[][]int{{3, 1}, {0, 2}}, []int{0, 9}, 0, 1},
		{[][]int{{3, 1}, {0, 2}}, []int{2, 2}, 3, 2},
		{[][]int{{3, 1}, {0, 2}}, []int{4, 2}, 4, 3},
		{[][]int{{3, 1}, {0, 2}}, []int{1, 2}, 1, 1},
		{[][]int{{-3, -1}, {0, -2}}, []int{1, 2}, -5, 3},
		{[][]int{{4, -2, 3}}, []int{1}, -2, 1},
		{[][]int{{4, 3, -2}}, []int{1000}, -2, 1},
		{[][]int{{4}, {-2}, {3}}, []int{1, 3, 0}, -1, 2},
		{[][]int{{0, -1, 1}, {1, 0, -1}, {-1, 1, 0}}, []int{1, 1, 1}, 0, 1},
		{[][]int{{0, -1, 1}, {1, 0, -1}, {-1, 1, 0}}, []int{2, 1, 1}, -1, 4},
		{[][]int{{-9, 0}, {0, 0}}, []int{1, 999}, -9, 1000},
	} {
		if p, ok := impl.WorstOf(c.a, c.x); !ok || p != (impl.Frac{Up: c.up, Down: c.down}) {
			t.Errorf("WorstOf(%v, %v) = %v, %v, not %d/%d", c.a, c.x, p, ok, c.up, c.down)
		}
	}
}

func TestWorstOfIsTheLeastOverAllColumns(t *testing.T) {
	d := draw(9)
	for _, a := range drawnTables() {
		for _, x := range drawnShares(&d, len(a)) {
			if p, ok := impl.WorstOf(a, x); !ok || !isFrac(p, leastMean(a, x)) {
				t.Fatalf("WorstOf(%v, %v) = %v, %v", a, x, p, ok)
			}
		}
	}
}

// solved is a table with its value and with its best shares.
type solved struct {
	a        [][]int
	up, down int
	x, y     []int
}

// solvedTables are tables solved by hand.
func solvedTables() []solved {
	return []solved{
		{[][]int{{-9}}, -9, 1, []int{1}, []int{1}},
		{[][]int{{0}}, 0, 1, []int{1}, []int{1}},
		{[][]int{{9}}, 9, 1, []int{1}, []int{1}},
		{[][]int{{3, -2, -2}}, -2, 1, []int{1}, []int{0, 1, 0}},
		{[][]int{{-4}, {-1}, {-1}}, -1, 1, []int{0, 1, 0}, []int{1}},
		{[][]int{{0, 0}, {0, 0}}, 0, 1, []int{1, 0}, []int{1, 0}},
		{[][]int{{2, 3}, {1, 0}}, 2, 1, []int{1, 0}, []int{1, 0}},
		{[][]int{{0, 5}, {-1, 2}, {1, 1}}, 1, 1, []int{0, 0, 1}, []int{1, 0}},
		{[][]int{{3, 1}, {0, 2}}, 3, 2, []int{1, 1}, []int{1, 3}},
		{[][]int{{-3, -1}, {0, -2}}, -3, 2, []int{1, 1}, []int{1, 3}},
		{[][]int{{9, -9}, {-9, 8}}, -9, 35, []int{17, 18}, []int{17, 18}},
		{[][]int{{-9, 9}, {9, -9}}, 0, 1, []int{1, 1}, []int{1, 1}},
		{[][]int{{1, 3, 9}, {8, 5, 2}}, 13, 3, []int{1, 2}, []int{0, 7, 2}},
		{[][]int{{-1, -8}, {-3, -5}, {-9, -2}}, -13, 3, []int{0, 7, 2}, []int{1, 2}},
		{[][]int{{1, 0, 0}, {0, 2, 0}, {0, 0, 3}}, 6, 11, []int{6, 3, 2}, []int{6, 3, 2}},
		{[][]int{{0, -1, 1}, {1, 0, -1}, {-1, 1, 0}}, 0, 1, []int{1, 1, 1}, []int{1, 1, 1}},
		{[][]int{{0, -1, 2}, {1, 0, -3}, {-2, 3, 0}}, 0, 1, []int{3, 2, 1}, []int{3, 2, 1}},
		// The row 2 alone would do, but the set of the rows 0 and 1 comes ahead of it.
		{[][]int{{1, -1}, {-1, 1}, {0, 0}}, 0, 1, []int{1, 1, 0}, []int{1, 1}},
		{[][]int{{1, -1, 0}, {-1, 1, 0}}, 0, 1, []int{1, 1}, []int{1, 1, 0}},
		// The rows 0 and 2 with the columns 0 and 1 come ahead of those with the columns 0 and 2.
		{[][]int{{1, -1, -1}, {-1, -1, -1}, {-1, 1, 1}}, 0, 1, []int{1, 0, 1}, []int{1, 1, 0}},
	}
}

func TestValueOf(t *testing.T) {
	for _, c := range solvedTables() {
		if v, ok := impl.ValueOf(c.a); !ok || v != (impl.Frac{Up: c.up, Down: c.down}) {
			t.Errorf("ValueOf(%v) = %v, %v, not %d/%d", c.a, v, ok, c.up, c.down)
		}
	}
}

func TestValueOfTablesOfOneNumber(t *testing.T) {
	for n := -impl.MaxPay; n <= impl.MaxPay; n++ {
		for _, shape := range shapes() {
			a := slices.Repeat([][]int{slices.Repeat([]int{n}, shape[1])}, shape[0])
			if v, ok := impl.ValueOf(a); !ok || v != (impl.Frac{Up: n, Down: 1}) {
				t.Errorf("ValueOf(%v) = %v, %v", a, v, ok)
			}
			x, y := impl.BestShares(a)
			if !slices.Equal(x, alone(0, shape[0], 1)) || !slices.Equal(y, alone(0, shape[1], 1)) {
				t.Errorf("BestShares(%v) = %v, %v", a, x, y)
			}
		}
	}
}

func TestValueOfIsWhatBothSidesMakeSure(t *testing.T) {
	for _, a := range mixTables() {
		v, ok := impl.ValueOf(a)
		x, y := wantedShares(a)
		if !ok || !isFrac(v, leastMean(a, x)) || !isFrac(v, greatestMean(a, y)) {
			t.Fatalf("ValueOf(%v) = %v, %v, but %v make %v sure, and %v let %v through", a, v, ok, x, leastMean(a, x), y, greatestMean(a, y))
		}
	}
}

func TestAreBest(t *testing.T) {
	a := [][]int{{3, 1}, {0, 2}}
	level := [][]int{{0, 0}, {0, 0}}
	beaten := [][]int{{2, 3}, {1, 0}}
	for _, c := range []struct {
		a    [][]int
		x, y []int
		want bool
	}{
		{[][]int{{-5}}, []int{3}, []int{1000}, true},
		{a, []int{1, 1}, []int{1, 3}, true},
		{a, []int{500, 500}, []int{300, 900}, true},
		{a, []int{1, 1}, []int{1, 2}, false},
		{a, []int{1, 1}, []int{1, 4}, false},
		{a, []int{1, 2}, []int{1, 3}, false},
		{a, []int{2, 1}, []int{1, 3}, false},
		{a, []int{1, 0}, []int{1, 0}, false},
		{level, []int{0, 1}, []int{5, 6}, true},
		{beaten, []int{1, 0}, []int{1, 0}, true},
		{beaten, []int{1, 0}, []int{9, 1}, false},
		{beaten, []int{9, 1}, []int{1, 0}, false},
		// As much as the value comes from both, but neither makes it sure.
		{[][]int{{0, 1, -1}, {-1, 0, 1}, {1, -1, 0}}, []int{1, 0, 0}, []int{1, 0, 0}, false},
		{[][]int{{-3, -1}, {0, -2}}, []int{2, 2}, []int{1, 3}, true},
	} {
		if got := impl.AreBest(c.a, c.x, c.y); got != c.want {
			t.Errorf("AreBest(%v, %v, %v) = %v", c.a, c.x, c.y, got)
		}
	}
}

func TestAreBestHoldsOfAllThatMakeTheValueSure(t *testing.T) {
	d := draw(10)
	var counts tally
	for _, a := range drawnTables() {
		for _, x := range triedShares(&d, a) {
			for _, y := range triedShares(&d, otherSide(a)) {
				want := makeSure(a, x, y)
				if got := impl.AreBest(a, x, y); got != want {
					t.Fatalf("AreBest(%v, %v, %v) = %v", a, x, y, got)
				}
				counts.add(want)
			}
		}
	}
	counts.check(t, 1000)
}

// triedShares are the best shares of the rows of a table, as often as once and more, and others.
func triedShares(d *draw, a [][]int) [][]int {
	x, _ := wantedShares(a)
	tried := append(drawnShares(d, len(a)), x)
	if slices.Max(x) <= impl.MaxShare/2 {
		twice := slices.Clone(x)
		for i := range twice {
			twice[i] *= 2
		}
		tried = append(tried, twice)
	}
	return tried
}

func TestBestShares(t *testing.T) {
	for _, c := range solvedTables() {
		if !makeSure(c.a, c.x, c.y) {
			t.Errorf("%v and %v are not best of %v", c.x, c.y, c.a)
		}
		if x, y := impl.BestShares(c.a); !slices.Equal(x, c.x) || !slices.Equal(y, c.y) {
			t.Errorf("BestShares(%v) = %v, %v, not %v, %v", c.a, x, y, c.x, c.y)
		}
	}
}

func TestBestSharesAreOfTheFirstPart(t *testing.T) {
	for _, a := range mixTables() {
		wantX, wantY := wantedShares(a)
		if x, y := impl.BestShares(a); !slices.Equal(x, wantX) || !slices.Equal(y, wantY) {
			t.Fatalf("BestShares(%v) = %v, %v, not %v, %v", a, x, y, wantX, wantY)
		}
	}
}

// wantedShares tries all parts of a table in their order, each by the formula for its size.
func wantedShares(a [][]int) ([]int, []int) {
	for _, rows := range sets()[:1<<len(a)-1] {
		for _, cols := range sets()[:1<<len(a[0])-1] {
			if len(rows) != len(cols) {
				continue
			}
			det, x, y := sharesOfPart(part(a, rows, cols))
			if det == 0 || slices.Min(x) < 0 && slices.Max(x) > 0 || slices.Min(y) < 0 && slices.Max(y) > 0 {
				continue
			}
			fullX, fullY := laidOut(x, rows, len(a)), laidOut(y, cols, len(a[0]))
			if makeSure(a, fullX, fullY) {
				return fullX, fullY
			}
		}
	}
	return nil, nil
}

// sets are the sets of acts in the order of their sums of 2 to each.
func sets() [][]int {
	return [][]int{{0}, {1}, {0, 1}, {2}, {0, 2}, {1, 2}, {0, 1, 2}}
}

// sharesOfPart returns the determinant of a square raised by 18, and the sums of the cofactors of its rows and of its columns.
func sharesOfPart(m [][]int) (int, []int, []int) {
	for _, row := range m {
		for j := range row {
			row[j] += 18
		}
	}
	switch len(m) {
	case 1:
		return m[0][0], []int{1}, []int{1}
	case 2:
		a, b, c, d := m[0][0], m[0][1], m[1][0], m[1][1]
		return a*d - b*c, []int{d - c, a - b}, []int{d - b, a - c}
	}
	factors := [][]int{cross(m[1], m[2]), cross(m[2], m[0]), cross(m[0], m[1])}
	det := m[0][0]*factors[0][0] + m[0][1]*factors[0][1] + m[0][2]*factors[0][2]
	x := []int{sum(factors[0]), sum(factors[1]), sum(factors[2])}
	columns := turned(factors)
	return det, x, []int{sum(columns[0]), sum(columns[1]), sum(columns[2])}
}

// cross returns the cross product of two rows of three numbers.
func cross(a, b []int) []int {
	return []int{a[1]*b[2] - a[2]*b[1], a[2]*b[0] - a[0]*b[2], a[0]*b[1] - a[1]*b[0]}
}

// laidOut returns numbers, without signs and without a common factor, at some of n places.
func laidOut(numbers, places []int, n int) []int {
	var factor big.Int
	for _, number := range numbers {
		factor.GCD(nil, nil, &factor, new(big.Int).Abs(big.NewInt(int64(number))))
	}
	w := make([]int, n)
	for k, i := range places {
		w[i] = max(numbers[k], -numbers[k]) / int(factor.Int64())
	}
	return w
}

// fitting returns shares of as many things as a table that may not be valid has rows, or has columns.
func fitting(n int) []int {
	return alone(0, min(max(n, 1), impl.MaxActs), 1)
}

func TestMixesOfTablesThatAreNotValid(t *testing.T) {
	for _, a := range badTables() {
		kept := cloned(a)
		x, y := fitting(len(a)), fitting(1)
		if len(a) > 0 {
			y = fitting(len(a[0]))
		}
		if p, ok := impl.PayOf(a, x, y); ok || p != (impl.Frac{}) {
			t.Errorf("PayOf(%v, %v, %v) = %v, %v", a, x, y, p, ok)
		}
		if p, ok := impl.WorstOf(a, x); ok || p != (impl.Frac{}) {
			t.Errorf("WorstOf(%v, %v) = %v, %v", a, x, p, ok)
		}
		if v, ok := impl.ValueOf(a); ok || v != (impl.Frac{}) {
			t.Errorf("ValueOf(%v) = %v, %v", a, v, ok)
		}
		if impl.AreBest(a, x, y) || impl.AreBest(a, nil, nil) {
			t.Errorf("AreBest(%v, %v, %v) = true", a, x, y)
		}
		if rows, cols := impl.BestShares(a); len(rows) != 0 || len(cols) != 0 {
			t.Errorf("BestShares(%v) = %v, %v", a, rows, cols)
		}
		if !sameRows(a, kept) {
			t.Errorf("the table %v is changed to %v", kept, a)
		}
	}
}

func TestMixesOfSharesThatAreNotValid(t *testing.T) {
	d := draw(11)
	for _, shape := range shapes() {
		a := d.table(shape[0], shape[1], 2)
		goodX, goodY := wantedShares(a)
		for _, x := range badShares(shape[0]) {
			checkSharesRefused(t, a, x, goodY)
			if p, ok := impl.WorstOf(a, x); ok || p != (impl.Frac{}) {
				t.Errorf("WorstOf(%v, %v) = %v, %v", a, x, p, ok)
			}
			for _, y := range badShares(shape[1]) {
				checkSharesRefused(t, a, x, y)
			}
		}
		for _, y := range badShares(shape[1]) {
			checkSharesRefused(t, a, goodX, y)
		}
	}
}

// checkSharesRefused fails if shares that are not valid have a mean, or are best.
func checkSharesRefused(t *testing.T, a [][]int, x, y []int) {
	t.Helper()
	keptX, keptY := slices.Clone(x), slices.Clone(y)
	if p, ok := impl.PayOf(a, x, y); ok || p != (impl.Frac{}) {
		t.Errorf("PayOf(%v, %v, %v) = %v, %v", a, x, y, p, ok)
	}
	if impl.AreBest(a, x, y) {
		t.Errorf("AreBest(%v, %v, %v) = true", a, x, y)
	}
	if !slices.Equal(x, keptX) || !slices.Equal(y, keptY) {
		t.Errorf("the shares %v or %v are changed", keptX, keptY)
	}
}

func TestMixesAreNotChanged(t *testing.T) {
	d := draw(12)
	for _, drawn := range drawnTables() {
		xs, ys := drawnShares(&d, len(drawn)), drawnShares(&d, len(drawn[0]))
		a, shares := guarded(drawn), guarded([][]int{xs[d.below(len(xs))], ys[d.below(len(ys))]})
		x, y := shares.table[0], shares.table[1]
		impl.ValidShares(x, len(drawn))
		impl.PayOf(a.table, x, y)
		impl.WorstOf(a.table, x)
		impl.ValueOf(a.table)
		impl.AreBest(a.table, x, y)
		rows, cols := impl.BestShares(a.table)
		checkApart(t, "BestShares", rows, cols)
		scribble(rows)
		scribble(cols)
		if !a.unchanged() || !shares.unchanged() {
			t.Fatalf("the table %v, or shares of it, are changed", drawn)
		}
	}
}

func TestMixesKeepNoState(t *testing.T) {
	for _, a := range drawnTables() {
		x, y := impl.BestShares(a)
		keptX, keptY := slices.Clone(x), slices.Clone(y)
		scribble(x)
		scribble(y)
		if againX, againY := impl.BestShares(a); !slices.Equal(againX, keptX) || !slices.Equal(againY, keptY) {
			t.Fatalf("BestShares(%v) are others when the first ones are written over", a)
		}
	}
}

package tests

import (
	"math"
	"math/big"
	"slices"
	"testing"

	"loop.example/strategiesthatspread/impl"
)

// sameSquare returns a square in which all numbers are the same.
func sameSquare(n, size int) [][]int {
	return slices.Repeat([][]int{slices.Repeat([]int{n}, size)}, size)
}

// leads returns how much more strategy i has than strategy j, against i alone and against j alone.
func leads(a [][]int, i, j int) (int, int) {
	return a[i][i] - a[j][i], a[i][j] - a[j][j]
}

// leadAt returns how much more strategy i has than strategy j against a player who is of j with a share, and otherwise of i.
func leadAt(a [][]int, i, j int, share *big.Rat) *big.Rat {
	againstI, againstJ := leads(a, i, j)
	lead := new(big.Rat).Sub(whole(1), share)
	lead.Mul(lead, whole(againstI))
	return lead.Add(lead, new(big.Rat).Mul(share, whole(againstJ)))
}

func TestValidSquare(t *testing.T) {
	for _, a := range append(squareTables(), [][]int{{9}}, [][]int{{-9}}, sameSquare(-9, 3), sameSquare(9, 3)) {
		if !impl.ValidSquare(a) {
			t.Fatalf("ValidSquare(%v) = false", a)
		}
	}
	for _, a := range badSquares() {
		if impl.ValidSquare(a) {
			t.Errorf("ValidSquare(%v) = true", a)
		}
	}
}

func TestStableOf(t *testing.T) {
	for _, c := range []struct {
		a    [][]int
		want []int
	}{
		{[][]int{{-5}}, []int{0}},
		{[][]int{{2, 0}, {0, 1}}, []int{0, 1}},
		{[][]int{{-1, 4}, {0, 2}}, nil},
		{[][]int{{3, 0}, {5, 1}}, []int{1}},
		// As much against the one: what both have against the other one decides.
		{[][]int{{1, 2}, {1, 1}}, []int{0}},
		{[][]int{{1, 1}, {1, 2}}, []int{1}},
		{[][]int{{1, 2}, {1, 2}}, nil},
		{[][]int{{0, 9}, {1, -9}}, nil},
		// Strategies that are the same do not hold against each other, but one may hold against both.
		{sameSquare(0, 2), nil},
		{sameSquare(4, 3), nil},
		{[][]int{{2, 2, 0}, {2, 2, 0}, {0, 0, 1}}, []int{2}},
		{[][]int{{1, 0, 0}, {0, 2, 0}, {0, 0, 3}}, []int{0, 1, 2}},
		{[][]int{{0, -1, 1}, {1, 0, -1}, {-1, 1, 0}}, nil},
		{[][]int{{2, 0, 0}, {0, 2, 3}, {0, 2, 3}}, []int{0}},
		{[][]int{{2, 0, 1}, {0, 2, 3}, {2, 2, 0}}, []int{0, 1}},
		{[][]int{{2, 0, 1}, {0, 2, 3}, {3, 2, 0}}, []int{1}},
	} {
		if got := impl.StableOf(c.a); !slices.Equal(got, c.want) {
			t.Errorf("StableOf(%v) = %v, not %v", c.a, got, c.want)
		}
	}
}

func TestStableOfHoldsAgainstEachOther(t *testing.T) {
	for _, a := range squareTables() {
		var want []int
		for i := range a {
			stable := true
			for j := range a {
				self, other := a[i][i], a[j][i]
				stable = stable && (i == j || self > other || self == other && a[i][j] > a[j][j])
			}
			if stable {
				want = append(want, i)
			}
		}
		if got := impl.StableOf(a); !slices.Equal(got, want) {
			t.Fatalf("StableOf(%v) = %v, not %v", a, got, want)
		}
	}
}

func TestBarrierOf(t *testing.T) {
	sides := [][]int{{2, 0}, {0, 1}}
	three := [][]int{{4, 9, 0}, {1, 0, 0}, {4, 2, 7}}
	for _, c := range []struct {
		a        [][]int
		i, j     int
		up, down int
	}{
		{sides, 0, 1, 2, 3},
		{sides, 1, 0, 1, 3},
		{[][]int{{3, 0}, {5, 1}}, 1, 0, 1, 1},
		{[][]int{{3, 0}, {5, 1}}, 0, 1, 0, 1},
		{[][]int{{-1, 4}, {0, 2}}, 0, 1, 0, 1},
		{[][]int{{-1, 4}, {0, 2}}, 1, 0, 0, 1},
		// As much against the one, and more, as much or less against the other one.
		{[][]int{{1, 2}, {1, 1}}, 0, 1, 1, 1},
		{[][]int{{1, 1}, {1, 1}}, 0, 1, 0, 1},
		{[][]int{{1, 0}, {1, 1}}, 0, 1, 0, 1},
		// More against the one, and as much against the other one.
		{[][]int{{1, 1}, {0, 1}}, 0, 1, 1, 1},
		// Without a common factor, with the greatest leads, and with leads far from each other.
		{[][]int{{4, 0}, {0, 2}}, 0, 1, 2, 3},
		{[][]int{{9, -9}, {-9, 9}}, 0, 1, 1, 2},
		{[][]int{{-8, -9}, {-9, 9}}, 0, 1, 1, 19},
		{[][]int{{9, -9}, {-9, -8}}, 0, 1, 18, 19},
		{three, 0, 1, 1, 1},
		{three, 1, 0, 0, 1},
		{three, 0, 2, 0, 1},
		{three, 2, 0, 1, 1},
		{three, 1, 2, 0, 1},
		{three, 2, 1, 1, 1},
		{[][]int{{1, 5, 5}, {5, 5, 1}, {5, 2, 4}}, 1, 2, 1, 2},
		{[][]int{{1, 5, 5}, {5, 5, 1}, {5, 2, 4}}, 2, 1, 1, 2},
	} {
		if b, ok := impl.BarrierOf(c.a, c.i, c.j); !ok || b != (impl.Frac{Up: c.up, Down: c.down}) {
			t.Errorf("BarrierOf(%v, %d, %d) = %v, %v, not %d/%d", c.a, c.i, c.j, b, ok, c.up, c.down)
		}
	}
}

// wantedBarrier returns the least share at which strategy i has no more than j: no share below 1/36 but 0, or above 35/36 but 1, is the one at which both have as much.
func wantedBarrier(a [][]int, i, j int) *big.Rat {
	if leadAt(a, i, j, big.NewRat(1, 1000)).Sign() <= 0 {
		return whole(0)
	}
	if leadAt(a, i, j, big.NewRat(999, 1000)).Sign() > 0 {
		return whole(1)
	}
	for down := 2; down <= 4*impl.MaxPay; down++ {
		for up := 1; up < down; up++ {
			if share := big.NewRat(int64(up), int64(down)); leadAt(a, i, j, share).Sign() == 0 {
				return share
			}
		}
	}
	return nil
}

func TestBarrierOfIsTheGreatestShareAheadOfWhichTheFirstHasMore(t *testing.T) {
	none, all, between := 0, 0, 0
	for _, a := range squareTables() {
		for i := range a {
			for j := range a {
				if i == j {
					continue
				}
				want := wantedBarrier(a, i, j)
				if b, ok := impl.BarrierOf(a, i, j); !ok || !isFrac(b, want) {
					t.Fatalf("BarrierOf(%v, %d, %d) = %v, %v, not %v", a, i, j, b, ok, want)
				}
				switch {
				case want.Sign() == 0:
					none++
				case want.Cmp(whole(1)) == 0:
					all++
				default:
					between++
				}
			}
		}
	}
	if none < 100 || all < 100 || between < 100 {
		t.Errorf("%d barriers are 0, %d are 1, and %d between", none, all, between)
	}
}

func TestIsRest(t *testing.T) {
	sides := [][]int{{2, 0}, {0, 1}}
	round := [][]int{{0, -1, 1}, {1, 0, -1}, {-1, 1, 0}}
	for _, c := range []struct {
		a    [][]int
		w    []int
		want bool
	}{
		{[][]int{{-5}}, []int{3}, true},
		{sides, []int{1, 2}, true},
		{sides, []int{300, 600}, true},
		{sides, []int{1, 1}, false},
		{sides, []int{1, 0}, true},
		{sides, []int{0, 1000}, true},
		{[][]int{{-1, 4}, {0, 2}}, []int{2, 1}, true},
		{[][]int{{-1, 4}, {0, 2}}, []int{1, 0}, false},
		{[][]int{{-1, 4}, {0, 2}}, []int{0, 1}, false},
		// Strategies that are the same rest at all shares.
		{sameSquare(1, 2), []int{3, 5}, true},
		{sameSquare(-9, 3), []int{0, 1000, 999}, true},
		{[][]int{{2, 2, 0}, {2, 2, 0}, {0, 0, 1}}, []int{4, 7, 0}, true},
		{[][]int{{2, 2, 0}, {2, 2, 0}, {0, 0, 1}}, []int{1, 0, 2}, true},
		{[][]int{{2, 2, 0}, {2, 2, 0}, {0, 0, 1}}, []int{1, 1, 4}, true},
		{[][]int{{2, 2, 0}, {2, 2, 0}, {0, 0, 1}}, []int{1, 1, 5}, false},
		{round, []int{1, 1, 1}, true},
		{round, []int{333, 333, 334}, false},
		{round, []int{1, 1, 0}, false},
		// Both with a share have as much, but the one without a share has more.
		{[][]int{{1, 0, 0}, {0, 1, 0}, {1, 1, 0}}, []int{1, 1, 0}, false},
		// Or as much, which is not more.
		{[][]int{{2, 0, 0}, {0, 2, 0}, {1, 1, 0}}, []int{1, 1, 0}, true},
		{[][]int{{9, 0}, {0, 0}}, []int{0, 1}, true},
		{[][]int{{9, 0}, {0, 0}}, []int{1, 999}, false},
	} {
		if got := impl.IsRest(c.a, c.w); got != c.want {
			t.Errorf("IsRest(%v, %v) = %v", c.a, c.w, got)
		}
	}
}

// rests reports whether the greatest mean of all strategies against shares is that of each one with a share.
func rests(a [][]int, w []int) bool {
	most := greatestMean(a, w)
	for i, share := range w {
		if share != 0 && meanOf(a, alone(i, len(a), 1), w).Cmp(most) != 0 {
			return false
		}
	}
	return true
}

func TestIsRestHoldsWhereNoOneHasMore(t *testing.T) {
	d := draw(17)
	var counts tally
	for _, a := range squareTables() {
		for _, w := range append(wantedRests(a), drawnShares(&d, len(a))...) {
			want := rests(a, w)
			if got := impl.IsRest(a, w); got != want {
				t.Fatalf("IsRest(%v, %v) = %v", a, w, got)
			}
			counts.add(want)
		}
	}
	counts.check(t, 1000)
}

func TestRestsOn(t *testing.T) {
	for _, c := range []struct {
		a    [][]int
		want [][]int
	}{
		{[][]int{{-5}}, [][]int{{1}}},
		{[][]int{{-1, 4}, {0, 2}}, [][]int{{2, 1}}},
		{[][]int{{2, 0}, {0, 1}}, [][]int{{1, 0}, {0, 1}, {1, 2}}},
		{[][]int{{3, 0}, {5, 1}}, [][]int{{0, 1}}},
		{[][]int{{9, -9}, {-9, 8}}, [][]int{{1, 0}, {0, 1}, {17, 18}}},
		// Both have as much at all shares, or only where one has no share.
		{sameSquare(1, 2), [][]int{{1, 0}, {0, 1}}},
		{[][]int{{3, 1}, {3, 1}}, [][]int{{1, 0}, {0, 1}}},
		{[][]int{{1, 2}, {1, 1}}, [][]int{{1, 0}}},
		{sameSquare(-9, 3), [][]int{{1, 0, 0}, {0, 1, 0}, {0, 0, 1}}},
		{[][]int{{2, 2, 0}, {2, 2, 0}, {0, 0, 1}}, [][]int{{1, 0, 0}, {0, 1, 0}, {0, 0, 1}, {1, 0, 2}, {0, 1, 2}}},
		// All rest together, alone and in pairs, in the order of the sums.
		{[][]int{{0, -1, 1}, {1, 0, -1}, {-1, 1, 0}}, [][]int{{1, 1, 1}}},
		{[][]int{{0, -1, 2}, {1, 0, -3}, {-2, 3, 0}}, [][]int{{3, 2, 1}}},
		{[][]int{{1, 0, 0}, {0, 1, 0}, {0, 0, 1}}, [][]int{{1, 0, 0}, {0, 1, 0}, {1, 1, 0}, {0, 0, 1}, {1, 0, 1}, {0, 1, 1}, {1, 1, 1}}},
		{[][]int{{1, 0, 0}, {0, 2, 0}, {0, 0, 3}}, [][]int{{1, 0, 0}, {0, 1, 0}, {2, 1, 0}, {0, 0, 1}, {3, 0, 1}, {0, 3, 2}, {6, 3, 2}}},
		{[][]int{{0, 1, 1}, {1, 0, 1}, {1, 1, 0}}, [][]int{{1, 1, 1}}},
		{[][]int{{0, 2, 0}, {2, 0, 0}, {0, 0, 0}}, [][]int{{1, 1, 0}, {0, 0, 1}}},
		// The pair has as much, but the third one more: it is left out.
		{[][]int{{1, 0, 0}, {0, 1, 0}, {2, 2, 0}}, [][]int{{0, 0, 1}}},
	} {
		if got := impl.RestsOn(c.a); !sameRows(got, c.want) {
			t.Errorf("RestsOn(%v) = %v, not %v", c.a, got, c.want)
		}
	}
}

// levelOf returns the only shares of some strategies alone at which these have as much, from how they differ from the first one of them.
func levelOf(a [][]int, acts []int) []int {
	square := part(a, acts, acts)
	for _, row := range square[1:] {
		for j := range row {
			row[j] -= square[0][j]
		}
	}
	w := []int{1}
	switch len(acts) {
	case 2:
		w = []int{-square[1][1], square[1][0]}
	case 3:
		w = cross(square[1], square[2])
	}
	if slices.Min(w) <= 0 && slices.Max(w) >= 0 {
		return nil
	}
	return laidOut(w, acts, len(a))
}

// wantedRests are the shares of RestsOn, each by the formula for how many strategies have one.
func wantedRests(a [][]int) [][]int {
	var all [][]int
	for _, acts := range sets()[:1<<len(a)-1] {
		if w := levelOf(a, acts); w != nil && rests(a, w) {
			all = append(all, w)
		}
	}
	return all
}

func TestRestsOnAreTheOnlyOnesByTheFormula(t *testing.T) {
	bySize := map[int]int{}
	for _, a := range squareTables() {
		want := wantedRests(a)
		if got := impl.RestsOn(a); !sameRows(got, want) {
			t.Fatalf("RestsOn(%v) = %v, not %v", a, got, want)
		}
		for _, w := range want {
			bySize[len(slices.DeleteFunc(w, func(share int) bool { return share == 0 }))]++
		}
	}
	for size := 1; size <= impl.MaxActs; size++ {
		if bySize[size] < 100 {
			t.Errorf("only %d rests are of %d strategies", bySize[size], size)
		}
	}
}

// triedLevels are all shares up to a number, without a common factor, of some of n strategies alone, at which these have as much.
func triedLevels(a [][]int, acts []int, most int) [][]int {
	choices := [][]int{make([]int, len(a))}
	for _, i := range acts {
		var more [][]int
		for _, w := range choices {
			for share := 1; share <= most; share++ {
				next := slices.Clone(w)
				next[i] = share
				more = append(more, next)
			}
		}
		choices = more
	}
	isNone := func(w []int) bool {
		return !areLevel(a, w) || !slices.Equal(w, laidOut(w, []int{0, 1, 2}[:len(a)], len(a)))
	}
	return slices.DeleteFunc(choices, isNone)
}

// areLevel reports whether all strategies with a share have as much against the shares.
func areLevel(a [][]int, w []int) bool {
	var pays []int
	for i, row := range a {
		pay := 0
		for j := range row {
			pay += row[j] * w[j]
		}
		if w[i] > 0 {
			pays = append(pays, pay)
		}
	}
	return slices.Min(pays) == slices.Max(pays)
}

func TestRestsOnAreTheOnlyOnesOfAllThatAreTried(t *testing.T) {
	tables := append(smallTables(1, 1), smallTables(2, 2)...)
	for k, a := range smallTables(3, 3) {
		if k%7 == 0 {
			tables = append(tables, a)
		}
	}
	for _, a := range tables {
		var want [][]int
		for _, acts := range sets()[:1<<len(a)-1] {
			// Of numbers in -1..1 no share that is the only one is more than 8, and if there are more of them some are no more than it.
			if level := triedLevels(a, acts, 8); len(level) == 1 && rests(a, level[0]) {
				want = append(want, level[0])
			}
		}
		if got := impl.RestsOn(a); !sameRows(got, want) {
			t.Fatalf("RestsOn(%v) = %v, not %v", a, got, want)
		}
	}
}

func TestStableStrategiesOfTablesThatAreNotSquares(t *testing.T) {
	for _, a := range badSquares() {
		kept := cloned(a)
		if got := impl.StableOf(a); len(got) != 0 {
			t.Errorf("StableOf(%v) = %v", a, got)
		}
		for _, pair := range [][2]int{{0, 1}, {1, 0}, {0, 0}, {0, 2}, {-1, 0}} {
			if b, ok := impl.BarrierOf(a, pair[0], pair[1]); ok || b != (impl.Frac{}) {
				t.Errorf("BarrierOf(%v, %d, %d) = %v, %v", a, pair[0], pair[1], b, ok)
			}
		}
		widths := []int{len(a), 1, 2, 3}
		if len(a) > 0 {
			widths = append(widths, len(a[0]))
		}
		for _, n := range widths {
			if w := fitting(n); impl.IsRest(a, w) {
				t.Errorf("IsRest(%v, %v) = true", a, w)
			}
		}
		if got := impl.RestsOn(a); len(got) != 0 {
			t.Errorf("RestsOn(%v) = %v", a, got)
		}
		if !sameRows(a, kept) {
			t.Errorf("the table %v is changed to %v", kept, a)
		}
	}
}

func TestBarrierOfStrategiesThatAreNotThere(t *testing.T) {
	for size := 1; size <= impl.MaxActs; size++ {
		a := sameSquare(0, size)
		for i := range size {
			a[i][i] = 1
		}
		others := []int{math.MinInt, -size, -2, -1, size, size + 1, impl.MaxActs, impl.MaxActs + 1, math.MaxInt}
		for i := range size {
			checkNoBarrier(t, a, i, i)
			for _, j := range others {
				checkNoBarrier(t, a, i, j)
				checkNoBarrier(t, a, j, i)
			}
		}
		for _, i := range others {
			for _, j := range others {
				checkNoBarrier(t, a, i, j)
			}
		}
	}
}

// checkNoBarrier fails if there is a barrier of a strategy against another one.
func checkNoBarrier(t *testing.T, a [][]int, i, j int) {
	t.Helper()
	if b, ok := impl.BarrierOf(a, i, j); ok || b != (impl.Frac{}) {
		t.Errorf("BarrierOf(%v, %d, %d) = %v, %v", a, i, j, b, ok)
	}
}

func TestIsRestOfSharesThatAreNotValid(t *testing.T) {
	for size := 1; size <= impl.MaxActs; size++ {
		a := sameSquare(3, size)
		for _, w := range badShares(size) {
			kept := slices.Clone(w)
			if impl.IsRest(a, w) {
				t.Errorf("IsRest(%v, %v) = true", a, w)
			}
			if !slices.Equal(w, kept) {
				t.Errorf("the shares %v are changed to %v", kept, w)
			}
		}
	}
}

func TestSquaresAreNotChanged(t *testing.T) {
	d := draw(18)
	for _, square := range squareTables() {
		all := append(wantedRests(square), drawnShares(&d, len(square))...)
		a, shares := guarded(square), guarded(all[:1])
		impl.ValidSquare(a.table)
		impl.IsRest(a.table, shares.table[0])
		for i := range square {
			impl.BarrierOf(a.table, i, d.below(len(square)))
		}
		stable, level := impl.StableOf(a.table), impl.RestsOn(a.table)
		checkApart(t, "RestsOn", level...)
		scribble(stable)
		clear(level[:cap(level)])
		if !a.unchanged() || !shares.unchanged() {
			t.Fatalf("the table %v, or shares of it, are changed", square)
		}
	}
}

func TestStableStrategiesKeepNoState(t *testing.T) {
	for _, a := range squareTables() {
		stable, level := impl.StableOf(a), impl.RestsOn(a)
		keptStable, keptLevel := slices.Clone(stable), cloned(level)
		for _, list := range append(level, stable) {
			scribble(list)
		}
		if !slices.Equal(impl.StableOf(a), keptStable) || !sameRows(impl.RestsOn(a), keptLevel) {
			t.Fatalf("the results for %v are others when the first ones are written over", a)
		}
	}
}

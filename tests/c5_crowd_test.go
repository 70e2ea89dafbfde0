package tests

import (
	"math"
	"math/big"
	"testing"

	"loop.example/strategiesthatspread/impl"
)

// few is the least number of players of a crowd.
const few = 2

// forCrowds calls a function with each number of players that a crowd may have.
func forCrowds(try func(n int)) {
	for n := few; n <= impl.MaxCrowd; n++ {
		try(n)
	}
}

// crowdOf are the strategies of n players of whom i play the strategy 0.
func crowdOf(n, i int) []int {
	players := make([]int, n)
	for p := i; p < n; p++ {
		players[p] = 1
	}
	return players
}

// hasAgainstOthers returns what a player of a crowd has against each of the others together.
func hasAgainstOthers(a [][]int, players []int, p int) int {
	all := 0
	for q := range players {
		if q != p {
			all += a[players[p]][players[q]]
		}
	}
	return all
}

// wantedPays are what the first player and the last one of a crowd have, who play the strategies 0 and 1.
func wantedPays(a [][]int, n, i int) (int, int) {
	players := crowdOf(n, i)
	return hasAgainstOthers(a, players, 0), hasAgainstOthers(a, players, n-1)
}

// wantedNumbers are the n numbers of FixedFrom, as it defines them.
func wantedNumbers(a [][]int, n int) []*big.Rat {
	numbers := []*big.Rat{whole(1)}
	for k := 1; k < n; k++ {
		first, second := wantedPays(a, n, k)
		step := big.NewRat(int64(second), int64(first))
		numbers = append(numbers, step.Mul(step, numbers[k-1]))
	}
	return numbers
}

// sumOfAll returns the sum of numbers.
func sumOfAll(numbers []*big.Rat) *big.Rat {
	all := new(big.Rat)
	for _, n := range numbers {
		all.Add(all, n)
	}
	return all
}

// wantedChance returns the sum of the first i numbers of FixedFrom divided by that of all.
func wantedChance(numbers []*big.Rat, i int) *big.Rat {
	return new(big.Rat).Quo(sumOfAll(numbers[:i]), sumOfAll(numbers))
}

func TestValidPair(t *testing.T) {
	for _, a := range pairTables() {
		if !impl.ValidPair(a) {
			t.Fatalf("ValidPair(%v) = false", a)
		}
	}
	for _, a := range badPairs() {
		if impl.ValidPair(a) {
			t.Errorf("ValidPair(%v) = true", a)
		}
	}
	var counts tally
	for _, a := range squareTables() {
		want := len(a) == 2 && min(a[0][0], a[0][1], a[1][0], a[1][1]) > 0
		if impl.ValidPair(a) != want {
			t.Fatalf("ValidPair(%v) = %v", a, !want)
		}
		counts.add(want)
	}
	counts.check(t, 1)
}

func TestPaysAt(t *testing.T) {
	a, b := [][]int{{1, 3}, {2, 1}}, [][]int{{7, 4}, {6, 2}}
	for _, c := range []struct {
		a                   [][]int
		n, i, first, second int
	}{
		// Two players: each one has what it has against the other one alone.
		{a, 2, 1, 3, 2},
		{b, 2, 1, 4, 6},
		{[][]int{{9, 1}, {5, 9}}, 2, 1, 1, 5},
		{a, 3, 1, 6, 3},
		{a, 3, 2, 4, 4},
		{b, 4, 1, 12, 10},
		{b, 4, 2, 15, 14},
		{b, 4, 3, 18, 18},
		{b, 5, 2, 19, 16},
		{a, 6, 1, 15, 6},
		{a, 6, 3, 11, 8},
		{a, 6, 5, 7, 10},
		// All the same.
		{sameSquare(1, 2), 2, 1, 1, 1},
		{sameSquare(1, 2), 6, 4, 5, 5},
		{sameSquare(9, 2), 6, 1, 45, 45},
	} {
		if first, second := impl.PaysAt(c.a, c.n, c.i); first != c.first || second != c.second {
			t.Errorf("PaysAt(%v, %d, %d) = %d, %d, not %d, %d", c.a, c.n, c.i, first, second, c.first, c.second)
		}
	}
}

func TestPaysAtAreSumsOverTheOthers(t *testing.T) {
	for _, a := range pairTables() {
		forCrowds(func(n int) {
			for i := 1; i < n; i++ {
				first, second := impl.PaysAt(a, n, i)
				if wantFirst, wantSecond := wantedPays(a, n, i); first != wantFirst || second != wantSecond {
					t.Fatalf("PaysAt(%v, %d, %d) = %d, %d, not %d, %d", a, n, i, first, second, wantFirst, wantSecond)
				}
			}
		})
	}
}

func TestFixedFrom(t *testing.T) {
	a, own, other := [][]int{{1, 3}, {2, 1}}, [][]int{{5, 1}, {1, 3}}, [][]int{{7, 4}, {6, 2}}
	for _, c := range []struct {
		a              [][]int
		n, i, up, down int
	}{
		// Two players.
		{a, 2, 1, 3, 5},
		{[][]int{{3, 1}, {4, 2}}, 2, 1, 1, 5},
		{own, 2, 1, 1, 2},
		{[][]int{{1, 9}, {1, 1}}, 2, 1, 9, 10},
		// More players.
		{a, 3, 1, 1, 2},
		{a, 3, 2, 3, 4},
		{a, 4, 1, 7, 15},
		{a, 4, 2, 91, 135},
		{a, 4, 3, 37, 45},
		{a, 6, 3, 385, 513},
		{own, 4, 1, 11, 60},
		{own, 4, 2, 11, 18},
		{own, 4, 3, 11, 12},
		{own, 6, 5, 7561, 7726},
		{other, 5, 2, 7315, 14659},
		{other, 6, 1, 346840, 1219691},
		{[][]int{{9, 9}, {9, 8}}, 6, 1, 1366875, 7057306},
		// The greatest chance of one, and the least.
		{[][]int{{9, 9}, {1, 1}}, 6, 1, 59049, 66430},
		{[][]int{{1, 1}, {9, 9}}, 6, 1, 1, 66430},
		{[][]int{{9, 9}, {1, 1}}, 6, 5, 66429, 66430},
		// None, and all.
		{a, 2, 0, 0, 1},
		{a, 2, 2, 1, 1},
		{a, 3, 0, 0, 1},
		{a, 3, 3, 1, 1},
		{[][]int{{9, 9}, {1, 1}}, 6, 0, 0, 1},
		{[][]int{{1, 1}, {9, 9}}, 6, 6, 1, 1},
		{sameSquare(1, 2), 2, 0, 0, 1},
		{sameSquare(9, 2), 6, 6, 1, 1},
		// All the same.
		{sameSquare(1, 2), 2, 1, 1, 2},
		{sameSquare(4, 2), 4, 2, 1, 2},
		{sameSquare(9, 2), 6, 1, 1, 6},
		{sameSquare(9, 2), 6, 4, 2, 3},
	} {
		if x, ok := impl.FixedFrom(c.a, c.n, c.i); !ok || x != (impl.Frac{Up: c.up, Down: c.down}) {
			t.Errorf("FixedFrom(%v, %d, %d) = %v, %v, not %d/%d", c.a, c.n, c.i, x, ok, c.up, c.down)
		}
	}
}

func TestFixedFromIsTheSumOfTheFirstNumbers(t *testing.T) {
	for _, a := range pairTables() {
		forCrowds(func(n int) {
			numbers := wantedNumbers(a, n)
			for i := range n + 1 {
				if x, ok := impl.FixedFrom(a, n, i); !ok || !isFrac(x, wantedChance(numbers, i)) {
					t.Fatalf("FixedFrom(%v, %d, %d) = %v, %v, not %v", a, n, i, x, ok, wantedChance(numbers, i))
				}
			}
		})
	}
}

// ledTo counts, of a crowd in which i of n play the strategy 0, to how many each step leads: each player puts the own strategy in place of each one, as often as it has pay.
func ledTo(a [][]int, n, i int) map[int]int {
	players, counts := crowdOf(n, i), map[int]int{}
	for p := range players {
		weight := hasAgainstOthers(a, players, p)
		for q := range players {
			// With the strategy of q away, and that of p once more, there are so many.
			counts[i+players[q]-players[p]] += weight
		}
	}
	return counts
}

func TestFixedFromIsTheMeanBehindAStep(t *testing.T) {
	for _, a := range pairTables() {
		forCrowds(func(n int) {
			for i := 1; i < n; i++ {
				mean, all := new(big.Rat), 0
				for next, weight := range ledTo(a, n, i) {
					mean.Add(mean, times(weight, fixedFrom(t, a, n, next)))
					all += weight
				}
				if x := fixedFrom(t, a, n, i); mean.Cmp(times(all, x)) != 0 {
					t.Fatalf("FixedFrom(%v, %d, %d) = %v, but behind a step it is %v", a, n, i, x, mean.Quo(mean, whole(all)))
				}
			}
		})
	}
}

func TestFixedOnes(t *testing.T) {
	frac := func(up, down int) impl.Frac { return impl.Frac{Up: up, Down: down} }
	a := [][]int{{1, 3}, {2, 1}}
	for _, c := range []struct {
		a             [][]int
		n             int
		first, second impl.Frac
	}{
		{a, 2, frac(3, 5), frac(2, 5)},
		{a, 3, frac(1, 2), frac(1, 4)},
		{a, 4, frac(7, 15), frac(8, 45)},
		{a, 6, frac(715, 1539), frac(160, 1539)},
		{[][]int{{5, 1}, {1, 3}}, 4, frac(11, 60), frac(1, 12)},
		{[][]int{{7, 4}, {6, 2}}, 3, frac(11, 34), frac(6, 17)},
		// Both with less chance than any one, and both with more.
		{[][]int{{9, 1}, {1, 9}}, 5, frac(3, 83), frac(3, 83)},
		{[][]int{{1, 9}, {9, 1}}, 5, frac(21, 61), frac(21, 61)},
		{[][]int{{9, 9}, {1, 1}}, 6, frac(59049, 66430), frac(1, 66430)},
		{[][]int{{1, 1}, {9, 9}}, 6, frac(1, 66430), frac(59049, 66430)},
		{sameSquare(1, 2), 2, frac(1, 2), frac(1, 2)},
		{sameSquare(9, 2), 6, frac(1, 6), frac(1, 6)},
	} {
		if x, y, ok := impl.FixedOnes(c.a, c.n); !ok || x != c.first || y != c.second {
			t.Errorf("FixedOnes(%v, %d) = %v, %v, %v, not %v, %v", c.a, c.n, x, y, ok, c.first, c.second)
		}
	}
}

func TestFixedOnesAreTheChancesOfOne(t *testing.T) {
	for _, a := range pairTables() {
		forCrowds(func(n int) {
			x, y, ok := impl.FixedOnes(a, n)
			first := fixedFrom(t, a, n, 1)
			second := fixedFrom(t, a, n, n-1)
			second.Sub(whole(1), second)
			if !ok || !isFrac(x, first) || !isFrac(y, second) {
				t.Fatalf("FixedOnes(%v, %d) = %v, %v, %v, not %v, %v", a, n, x, y, ok, first, second)
			}
			// One of the strategy 1 is one of the strategy 0 with both exchanged.
			if other := fixedFrom(t, bothExchanged(a), n, 1); other.Cmp(second) != 0 {
				t.Fatalf("FixedOnes(%v, %d) = %v, %v, but with both exchanged one has the chance %v", a, n, x, y, other)
			}
		})
	}
}

func TestFavourOf(t *testing.T) {
	a, mixed := [][]int{{1, 3}, {2, 1}}, [][]int{{7, 4}, {6, 2}}
	for _, c := range []struct {
		a       [][]int
		n, want int
	}{
		// Two players: what both have against each other decides.
		{a, 2, 1},
		{[][]int{{9, 1}, {2, 1}}, 2, -1},
		{[][]int{{9, 4}, {4, 1}}, 2, 0},
		{a, 3, 1},
		{a, 6, 1},
		{[][]int{{3, 1}, {4, 2}}, 6, -1},
		// More favour in greater crowds, and less.
		{mixed, 2, -1},
		{mixed, 3, -1},
		{mixed, 4, 1},
		{mixed, 6, 1},
		{[][]int{{9, 1}, {1, 9}}, 2, 0},
		{[][]int{{9, 1}, {1, 9}}, 3, -1},
		{[][]int{{1, 9}, {9, 1}}, 3, 1},
		// No favour, though not all are the same.
		{[][]int{{4, 2}, {3, 1}}, 3, 0},
		{[][]int{{5, 1}, {1, 2}}, 3, 0},
		{[][]int{{1, 6}, {7, 1}}, 3, 0},
		// All the same.
		{sameSquare(1, 2), 2, 0},
		{sameSquare(5, 2), 3, 0},
		{sameSquare(9, 2), 6, 0},
		// All but one.
		{[][]int{{9, 9}, {9, 8}}, 2, 0},
		{[][]int{{9, 9}, {9, 8}}, 6, 1},
		{[][]int{{1, 1}, {1, 2}}, 6, -1},
	} {
		if got, ok := impl.FavourOf(c.a, c.n); !ok || got != c.want {
			t.Errorf("FavourOf(%v, %d) = %d, %v, not %d", c.a, c.n, got, ok, c.want)
		}
	}
}

func TestFavourOfComparesTheSumOfAllNumbers(t *testing.T) {
	counts := map[int]int{}
	for _, a := range pairTables() {
		forCrowds(func(n int) {
			// The chance of one is the first number, 1, divided by the sum of all.
			want := whole(n).Cmp(sumOfAll(wantedNumbers(a, n)))
			if got, ok := impl.FavourOf(a, n); !ok || got != want {
				t.Fatalf("FavourOf(%v, %d) = %d, %v, not %d", a, n, got, ok, want)
			}
			counts[want]++
		})
	}
	for _, want := range []int{1, 0, -1} {
		if counts[want] < 100 {
			t.Errorf("only %d favours are %d", counts[want], want)
		}
	}
}

func TestOddsOf(t *testing.T) {
	a := [][]int{{1, 3}, {2, 1}}
	for _, c := range []struct {
		a           [][]int
		n, up, down int
	}{
		// Two players.
		{a, 2, 3, 2},
		{[][]int{{9, 2}, {6, 9}}, 2, 1, 3},
		{a, 3, 2, 1},
		{a, 4, 21, 8},
		{a, 5, 24, 7},
		{a, 6, 143, 32},
		{[][]int{{7, 4}, {6, 2}}, 6, 5336, 2079},
		{[][]int{{3, 1}, {4, 2}}, 6, 143, 3072},
		{[][]int{{9, 9}, {9, 8}}, 6, 1366875, 1086008},
		{[][]int{{9, 1}, {1, 9}}, 6, 1, 1},
		{[][]int{{9, 9}, {1, 1}}, 6, 59049, 1},
		{[][]int{{1, 1}, {9, 9}}, 6, 1, 59049},
		// All the same.
		{sameSquare(1, 2), 2, 1, 1},
		{sameSquare(9, 2), 6, 1, 1},
	} {
		if x, ok := impl.OddsOf(c.a, c.n); !ok || x != (impl.Frac{Up: c.up, Down: c.down}) {
			t.Errorf("OddsOf(%v, %d) = %v, %v, not %d/%d", c.a, c.n, x, ok, c.up, c.down)
		}
	}
}

func TestOddsOfAreTheProductOfWhatBothHave(t *testing.T) {
	for _, a := range pairTables() {
		forCrowds(func(n int) {
			want := whole(1)
			for i := 1; i < n; i++ {
				first, second := wantedPays(a, n, i)
				want.Mul(want, big.NewRat(int64(first), int64(second)))
			}
			if x, ok := impl.OddsOf(a, n); !ok || !isFrac(x, want) {
				t.Fatalf("OddsOf(%v, %d) = %v, %v, not %v", a, n, x, ok, want)
			}
		})
	}
}

// checkNoPays fails if PaysAt tells pays.
func checkNoPays(t *testing.T, a [][]int, n, i int) {
	t.Helper()
	if first, second := impl.PaysAt(a, n, i); first != -1 || second != -1 {
		t.Errorf("PaysAt(%v, %d, %d) = %d, %d", a, n, i, first, second)
	}
}

// checkNoChance fails if FixedFrom tells a chance.
func checkNoChance(t *testing.T, a [][]int, n, i int) {
	t.Helper()
	if x, ok := impl.FixedFrom(a, n, i); ok || x != (impl.Frac{}) {
		t.Errorf("FixedFrom(%v, %d, %d) = %v, %v", a, n, i, x, ok)
	}
}

// checkNoCrowd fails if a function of the chapter has a result for a table and n players that are no crowd.
func checkNoCrowd(t *testing.T, a [][]int, n int) {
	t.Helper()
	for _, i := range []int{0, 1, 2, n - 1, n, -1} {
		checkNoPays(t, a, n, i)
		checkNoChance(t, a, n, i)
	}
	if x, y, ok := impl.FixedOnes(a, n); ok || x != (impl.Frac{}) || y != (impl.Frac{}) {
		t.Errorf("FixedOnes(%v, %d) = %v, %v, %v", a, n, x, y, ok)
	}
	if favour, ok := impl.FavourOf(a, n); ok || favour != 0 {
		t.Errorf("FavourOf(%v, %d) = %d, %v", a, n, favour, ok)
	}
	if x, ok := impl.OddsOf(a, n); ok || x != (impl.Frac{}) {
		t.Errorf("OddsOf(%v, %d) = %v, %v", a, n, x, ok)
	}
}

// noCrowds are numbers of players that no crowd has.
func noCrowds() []int {
	return []int{math.MinInt, -impl.MaxCrowd, -few, -1, 0, few - 1, impl.MaxCrowd + 1, impl.MaxCrowd + 2, 1000, math.MaxInt}
}

func TestCrowdsOfTablesThatAreNotPairs(t *testing.T) {
	for _, a := range badPairs() {
		kept := cloned(a)
		forCrowds(func(n int) { checkNoCrowd(t, a, n) })
		for _, n := range noCrowds() {
			checkNoCrowd(t, a, n)
		}
		if !sameRows(a, kept) {
			t.Errorf("the table %v is changed to %v", kept, a)
		}
	}
}

func TestCrowdsOfTooFewOrTooManyPlayers(t *testing.T) {
	for _, a := range [][][]int{{{1, 3}, {2, 1}}, sameSquare(1, 2), sameSquare(impl.MaxPay, 2)} {
		for _, n := range noCrowds() {
			checkNoCrowd(t, a, n)
		}
	}
}

func TestCrowdsOfWhomTooFewOrTooManyPlay(t *testing.T) {
	for _, a := range [][][]int{{{1, 3}, {2, 1}}, sameSquare(1, 2), sameSquare(impl.MaxPay, 2)} {
		forCrowds(func(n int) {
			for _, i := range []int{math.MinInt, -n, -1, n + 1, 2 * n, math.MaxInt} {
				checkNoPays(t, a, n, i)
				checkNoChance(t, a, n, i)
			}
			// None and all have a chance, but not both strategies have pays.
			for _, i := range []int{0, n} {
				checkNoPays(t, a, n, i)
			}
		})
	}
}

func TestPairsAreNotChanged(t *testing.T) {
	for _, pair := range pairTables() {
		a := guarded(pair)
		impl.ValidPair(a.table)
		forCrowds(func(n int) {
			for i := range n + 1 {
				impl.PaysAt(a.table, n, i)
				impl.FixedFrom(a.table, n, i)
			}
			impl.FixedOnes(a.table, n)
			impl.FavourOf(a.table, n)
			impl.OddsOf(a.table, n)
		})
		if !a.unchanged() {
			t.Fatalf("the pair %v is changed", pair)
		}
	}
}

// answers are all that the chapter tells about a table and a number of players.
type answers struct {
	pays                [impl.MaxCrowd + 1][2]int
	chances             [impl.MaxCrowd + 1]impl.Frac
	first, second, odds impl.Frac
	favour              int
}

// answersFor returns all that the chapter tells about a table and n players.
func answersFor(a [][]int, n int) answers {
	var all answers
	for i := range n + 1 {
		all.pays[i][0], all.pays[i][1] = impl.PaysAt(a, n, i)
		all.chances[i], _ = impl.FixedFrom(a, n, i)
	}
	all.first, all.second, _ = impl.FixedOnes(a, n)
	all.favour, _ = impl.FavourOf(a, n)
	all.odds, _ = impl.OddsOf(a, n)
	return all
}

func TestCrowdsKeepNoState(t *testing.T) {
	tables := pairTables()
	for k, a := range tables {
		forCrowds(func(n int) {
			kept := answersFor(a, n)
			answersFor(tables[len(tables)-1-k], n)
			if again := answersFor(a, n); again != kept {
				t.Fatalf("of %v and %d players all is %v at first, and then %v", a, n, kept, again)
			}
		})
	}
}

package tests

import (
	"math"
	"runtime"
	"slices"
	"sync"
	"testing"

	"loop.example/strategiesthatspread/impl"
)

// stairs is a game in which replies come to all four pairs, one after the other, and end.
func stairs() impl.Game {
	return impl.Game{A: [][]int{{0, 3}, {1, 0}}, B: [][]int{{0, 1}, {0, 1}}}
}

func TestReplyMoves(t *testing.T) {
	zero := make3by3()
	lead := impl.Game{A: [][]int{{0, 5, 2}, {4, 5, 3}, {4, 5, 1}}, B: [][]int{{7, 6, 7}, {1, 1, 1}, {-9, -8, -8}}}
	for _, c := range []struct {
		g    impl.Game
		i, j int
		want [][]int
	}{
		// One row, one column, or both.
		{impl.Game{A: [][]int{{-9}}, B: [][]int{{-9}}}, 0, 0, nil},
		{impl.Game{A: [][]int{{0, 9, 1}}, B: [][]int{{1, 0, 2}}}, 0, 0, [][]int{{0, 2}}},
		{impl.Game{A: [][]int{{0, 9, 1}}, B: [][]int{{1, 0, 2}}}, 0, 2, nil},
		{impl.Game{A: [][]int{{-2}, {-1}, {-3}}, B: [][]int{{9}, {-9}, {0}}}, 2, 0, [][]int{{1, 0}}},
		{impl.Game{A: [][]int{{-2}, {-1}, {-3}}, B: [][]int{{9}, {-9}, {0}}}, 1, 0, nil},
		// What gives as much is no more.
		{impl.Game{A: zero, B: zero}, 0, 0, nil},
		{impl.Game{A: zero, B: zero}, 2, 1, nil},
		{lead, 1, 1, nil},
		{lead, 1, 0, nil},
		// Only the most counts, and all who have it.
		{lead, 0, 0, [][]int{{1, 0}, {2, 0}}},
		{lead, 0, 1, [][]int{{0, 0}, {0, 2}}},
		{lead, 2, 0, [][]int{{2, 1}, {2, 2}}},
		{lead, 0, 2, [][]int{{1, 2}}},
		{lead, 2, 2, [][]int{{1, 2}}},
		{impl.Game{A: [][]int{{0, 0, 0}, {1, 0, 0}, {1, 0, 0}}, B: [][]int{{0, 1, 1}, {0, 0, 0}, {0, 0, 0}}}, 0, 0, [][]int{{1, 0}, {2, 0}, {0, 1}, {0, 2}}},
		// Players who play the same table.
		{ofBoth(dilemma()), 0, 0, [][]int{{1, 0}, {0, 1}}},
		{ofBoth(dilemma()), 0, 1, [][]int{{1, 1}}},
		{ofBoth(dilemma()), 1, 0, [][]int{{1, 1}}},
		{ofBoth(dilemma()), 1, 1, nil},
		// Rounds.
		{pennies(), 0, 0, [][]int{{0, 1}}},
		{pennies(), 0, 1, [][]int{{1, 1}}},
		{pennies(), 1, 1, [][]int{{1, 0}}},
		{pennies(), 1, 0, [][]int{{0, 0}}},
		{roundAndRest(), 2, 2, nil},
		{roundAndRest(), 0, 2, [][]int{{2, 2}, {0, 1}}},
	} {
		if got := impl.ReplyMoves(c.g, c.i, c.j); !sameRows(got, c.want) {
			t.Errorf("ReplyMoves(%v, %d, %d) = %v, not %v", c.g, c.i, c.j, got, c.want)
		}
	}
}

// forPairs calls a function with each pair of a row and a column of a game.
func forPairs(g impl.Game, try func(i, j int)) {
	for i := range g.A {
		for j := range g.A[i] {
			try(i, j)
		}
	}
}

// wantedMoves are the pairs to which a pair leads, as ReplyMoves defines them, each one tried against all others.
func wantedMoves(g impl.Game, i, j int) [][]int {
	var moves [][]int
	for k := range g.A {
		best := g.A[k][j] > g.A[i][j]
		for l := range g.A {
			best = best && g.A[k][j] >= g.A[l][j]
		}
		if best {
			moves = append(moves, []int{k, j})
		}
	}
	for k := range g.B[i] {
		best := g.B[i][k] > g.B[i][j]
		for l := range g.B[i] {
			best = best && g.B[i][k] >= g.B[i][l]
		}
		if best {
			moves = append(moves, []int{i, k})
		}
	}
	return moves
}

func TestReplyMovesAreAllBestRepliesThatGiveMore(t *testing.T) {
	many := map[int]int{}
	for _, g := range moveGames() {
		forPairs(g, func(i, j int) {
			want := wantedMoves(g, i, j)
			if got := impl.ReplyMoves(g, i, j); !sameRows(got, want) {
				t.Fatalf("ReplyMoves(%v, %d, %d) = %v, not %v", g, i, j, got, want)
			}
			many[len(want)]++
		})
	}
	for moves := range 5 {
		if many[moves] < 20 {
			t.Errorf("only %d pairs lead to %d others", many[moves], moves)
		}
	}
}

func TestEndsAlways(t *testing.T) {
	zero := make3by3()
	for _, g := range []impl.Game{
		{A: [][]int{{-9}}, B: [][]int{{9}}},
		{A: [][]int{{3, 2, 1}}, B: [][]int{{1, 2, 3}}},
		{A: [][]int{{3}, {2}, {4}}, B: [][]int{{1}, {2}, {3}}},
		{A: zero, B: zero},
		ofBoth(dilemma()),
		ofBoth([][]int{{2, 0}, {0, 1}}),
		stairs(),
		exchanged(stairs()),
		// What is only as much is not moved to, so that these do not go round.
		{A: [][]int{{1, 0}, {0, 0}}, B: [][]int{{0, 1}, {1, 0}}},
		{A: [][]int{{1, 0}, {0, 1}}, B: [][]int{{0, 0}, {1, 0}}},
	} {
		if !impl.EndsAlways(g) {
			t.Errorf("EndsAlways(%v) = false", g)
		}
	}
	for _, g := range append(noRestGames(), roundAndRest(), exchanged(roundAndRest())) {
		if impl.EndsAlways(g) {
			t.Errorf("EndsAlways(%v) = true", g)
		}
	}
}

func TestNoReplyEndsWhereThereIsNoRest(t *testing.T) {
	for _, g := range noRestGames() {
		forPairs(g, func(i, j int) {
			if got := impl.ReplyMoves(g, i, j); len(got) == 0 {
				t.Errorf("ReplyMoves(%v, %d, %d) = %v", g, i, j, got)
			}
		})
		if rests := impl.PureRests(g); len(rests) != 0 {
			t.Errorf("PureRests(%v) = %v", g, rests)
		}
	}
}

// comesAgain reports whether moves from a pair on, behind those of a path, come to a pair of the path again.
func comesAgain(g impl.Game, path [][]int) bool {
	last := path[len(path)-1]
	for _, move := range wantedMoves(g, last[0], last[1]) {
		if has(path, move...) || comesAgain(g, append(slices.Clone(path), move)) {
			return true
		}
	}
	return false
}

// wantedEnd reports whether no row of replies comes to a pair again, each one played out.
func wantedEnd(g impl.Game) bool {
	again := false
	forPairs(g, func(i, j int) {
		again = again || comesAgain(g, [][]int{{i, j}})
	})
	return !again
}

func TestEndsAlwaysHoldsIfNoRowOfRepliesComesAgain(t *testing.T) {
	var ends, rest tally
	for _, g := range moveGames() {
		want := wantedEnd(g)
		if got := impl.EndsAlways(g); got != want {
			t.Fatalf("EndsAlways(%v) = %v", g, got)
		}
		ends.add(want)
		if !want {
			rest.add(len(impl.PureRests(g)) > 0)
		}
	}
	ends.check(t, 500)
	rest.check(t, 30)
}

func TestLearnCounts(t *testing.T) {
	zero := make3by3()
	beaten := impl.Game{A: beats(), B: otherSign(beats())}
	for _, c := range []struct {
		g          impl.Game
		n          int
		rows, cols []int
	}{
		// No round, one, and all.
		{impl.Game{A: [][]int{{-9}}, B: [][]int{{9}}}, 0, []int{0}, []int{0}},
		{impl.Game{A: [][]int{{-9}}, B: [][]int{{9}}}, 1, []int{1}, []int{1}},
		{impl.Game{A: [][]int{{-9}}, B: [][]int{{9}}}, impl.MaxRounds, []int{40}, []int{40}},
		{impl.Game{A: [][]int{{0, 0, 0}}, B: [][]int{{0, 1, 1}}}, 0, []int{0}, []int{0, 0, 0}},
		{impl.Game{A: [][]int{{0, 0, 0}}, B: [][]int{{0, 1, 1}}}, 5, []int{5}, []int{1, 4, 0}},
		{impl.Game{A: [][]int{{-3}, {-2}, {-1}}, B: [][]int{{9}, {0}, {0}}}, 5, []int{1, 0, 4}, []int{5}},
		{impl.Game{A: zero, B: zero}, impl.MaxRounds, []int{40, 0, 0}, []int{40, 0, 0}},
		{ofBoth(dilemma()), 1, []int{1, 0}, []int{1, 0}},
		{ofBoth(dilemma()), impl.MaxRounds, []int{1, 39}, []int{1, 39}},
		// The act of the other one that was played most is not all that counts.
		{impl.Game{A: [][]int{{1, -1}, {0, 0}}, B: [][]int{{0, 1}, {0, 1}}}, 2, []int{2, 0}, []int{1, 1}},
		{impl.Game{A: [][]int{{1, -1}, {0, 0}}, B: [][]int{{0, 1}, {0, 1}}}, 4, []int{3, 1}, []int{1, 3}},
		{impl.Game{A: [][]int{{9, -1}, {0, 0}}, B: [][]int{{0, 1}, {0, 1}}}, 11, []int{11, 0}, []int{1, 10}},
		{impl.Game{A: [][]int{{9, -1}, {0, 0}}, B: [][]int{{0, 1}, {0, 1}}}, 12, []int{11, 1}, []int{1, 11}},
		// Both learn at once: one who saw the act of this round would do otherwise.
		{ofBoth([][]int{{0, 1}, {1, 0}}), impl.MaxRounds, []int{20, 20}, []int{20, 20}},
		{pennies(), 1, []int{1, 0}, []int{1, 0}},
		{pennies(), 2, []int{2, 0}, []int{1, 1}},
		{pennies(), 3, []int{3, 0}, []int{1, 2}},
		{pennies(), 4, []int{3, 1}, []int{1, 3}},
		{pennies(), 7, []int{3, 4}, []int{2, 5}},
		{pennies(), 8, []int{3, 5}, []int{3, 5}},
		{beaten, 2, []int{1, 1, 0}, []int{1, 1, 0}},
		{beaten, 4, []int{1, 3, 0}, []int{1, 3, 0}},
		{beaten, 7, []int{1, 3, 3}, []int{1, 3, 3}},
	} {
		rows, cols := impl.LearnCounts(c.g, c.n)
		if !slices.Equal(rows, c.rows) || !slices.Equal(cols, c.cols) {
			t.Errorf("LearnCounts(%v, %d) = %v, %v, not %v, %v", c.g, c.n, rows, cols, c.rows, c.cols)
		}
	}
}

// replyTo returns the first act by which a player has most against all acts of the other one, by a table with own acts as rows.
func replyTo(a [][]int, others []int) int {
	best, most := 0, math.MinInt
	for act, row := range a {
		has := 0
		for _, other := range others {
			has += row[other]
		}
		if has > most {
			best, most = act, has
		}
	}
	return best
}

// wantedLearning are the acts of both players in n rounds of learning, each one found from all rounds ahead of it.
func wantedLearning(g impl.Game, n int) (rows, cols []int) {
	for range n {
		i, j := replyTo(g.A, cols), replyTo(turned(g.B), rows)
		rows, cols = append(rows, i), append(cols, j)
	}
	return rows, cols
}

// countsOf tells how often each one of n acts was played.
func countsOf(acts []int, n int) []int {
	counts := make([]int, n)
	for _, act := range acts {
		counts[act]++
	}
	return counts
}

func TestLearnCountsAreOfTheRoundsThatArePlayed(t *testing.T) {
	var moved tally
	for _, g := range moveGames() {
		playedRows, playedCols := wantedLearning(g, impl.MaxRounds)
		for _, n := range []int{0, 1, 2, 3, 4, 9, 17, impl.MaxRounds - 1, impl.MaxRounds} {
			wantRows, wantCols := countsOf(playedRows[:n], len(g.A)), countsOf(playedCols[:n], len(g.A[0]))
			rows, cols := impl.LearnCounts(g, n)
			if !slices.Equal(rows, wantRows) || !slices.Equal(cols, wantCols) {
				t.Fatalf("LearnCounts(%v, %d) = %v, %v, not %v, %v", g, n, rows, cols, wantRows, wantCols)
			}
			moved.add(slices.Max(rows) < n && slices.Max(cols) < n)
		}
	}
	moved.check(t, 1000)
}

func TestLearnCountsLeaveNothingRunning(t *testing.T) {
	ahead := runtime.NumGoroutine()
	for n := range impl.MaxRounds + 1 {
		for range 50 {
			impl.LearnCounts(pennies(), n)
		}
		impl.LearnCounts(pennies(), -1-n)
		impl.LearnCounts(impl.Game{}, n)
	}
	// What has closed its channel may need a moment to end.
	for range 100000 {
		if runtime.NumGoroutine() <= ahead {
			return
		}
		runtime.Gosched()
	}
	t.Errorf("%d run behind all calls, and %d did ahead of them", runtime.NumGoroutine(), ahead)
}

func TestLearnCountsAreTheSameForManyAtOnce(t *testing.T) {
	var group sync.WaitGroup
	for range 8 {
		group.Go(func() {
			for n := range impl.MaxRounds + 1 {
				g := pennies()
				wantRows, wantCols := wantedLearning(g, n)
				rows, cols := impl.LearnCounts(g, n)
				if !slices.Equal(rows, countsOf(wantRows, 2)) || !slices.Equal(cols, countsOf(wantCols, 2)) {
					t.Errorf("LearnCounts(%v, %d) = %v, %v", g, n, rows, cols)
				}
				// Behind the call the game is the caller's alone.
				g.A[0][0], g.B[1][1] = 7, 7
			}
		})
	}
	group.Wait()
}

func TestValidCosts(t *testing.T) {
	for _, c := range allCosts() {
		if !impl.ValidCosts(c) {
			t.Fatalf("ValidCosts(%v) = false", c)
		}
	}
	for _, c := range badCosts() {
		if impl.ValidCosts(c) {
			t.Errorf("ValidCosts(%v) = true", c)
		}
	}
}

// knownTree is the least cost of a tree to each state.
type knownTree struct {
	c    [][]int
	want []int
}

// knownTrees are told by hand.
func knownTrees() []knownTree {
	return []knownTree{
		// One state, and ways from a state to itself, which no tree has.
		{[][]int{{0}}, []int{0}},
		{[][]int{{7}}, []int{0}},
		{[][]int{{impl.MaxCost}}, []int{0}},
		{[][]int{{0, 4}, {1, 0}}, []int{1, 4}},
		{[][]int{{9, 4}, {1, 9}}, []int{1, 4}},
		{[][]int{{0, 20}, {20, 0}}, []int{20, 20}},
		// Ways that cost nothing.
		{filledCosts(2, 0), []int{0, 0}},
		{filledCosts(3, 0), []int{0, 0, 0}},
		{filledCosts(4, 0), []int{0, 0, 0, 0}},
		{[][]int{{0, 0}, {3, 0}}, []int{3, 0}},
		{[][]int{{0, 0, 5}, {5, 0, 0}, {0, 5, 0}}, []int{0, 0, 0}},
		{[][]int{{0, 0, 9}, {0, 0, 8}, {7, 6, 0}}, []int{6, 6, 8}},
		{[][]int{{1, 0, 9, 9}, {0, 1, 8, 9}, {9, 9, 1, 0}, {9, 7, 0, 1}}, []int{7, 7, 8, 8}},
		// All the same.
		{filledCosts(3, 4), []int{8, 8, 8}},
		{filledCosts(4, impl.MaxCost), []int{60, 60, 60, 60}},
		// The cheapest ways lead to the root.
		{[][]int{{0, 1, 5}, {2, 0, 1}, {1, 3, 0}}, []int{2, 2, 2}},
		{[][]int{{0, 9, 9, 9}, {1, 0, 9, 9}, {9, 1, 0, 9}, {9, 9, 1, 0}}, []int{3, 11, 11, 11}},
		// A round of two, and one of three.
		{[][]int{{0, 9, 9}, {5, 0, 1}, {4, 1, 0}}, []int{5, 10, 10}},
		{[][]int{{0, 1, 20, 10}, {20, 0, 1, 9}, {1, 20, 0, 8}, {20, 20, 20, 0}}, []int{22, 22, 22, 10}},
		{[][]int{{0, 1, 20, 7}, {20, 0, 1, 9}, {1, 20, 0, 8}, {3, 20, 20, 0}}, []int{5, 5, 5, 9}},
		// A round of which a round is a part.
		{[][]int{{0, 0, 5, 12}, {0, 0, 1, 13}, {1, 20, 0, 9}, {20, 20, 20, 0}}, []int{21, 21, 21, 10}},
		// It is not the cheapest way out of a round that counts, but by how much it costs more.
		{[][]int{{0, 9, 20}, {6, 0, 5}, {5, 1, 0}}, []int{7, 10, 14}},
	}
}

func TestTreeTried(t *testing.T) {
	for _, k := range knownTrees() {
		for root, want := range k.want {
			if got := impl.TreeTried(k.c, root); got != want {
				t.Errorf("TreeTried(%v, %d) = %d, not %d", k.c, root, got, want)
			}
		}
	}
}

func TestTreeByRounds(t *testing.T) {
	for _, k := range knownTrees() {
		for root, want := range k.want {
			if got := impl.TreeByRounds(k.c, root); got != want {
				t.Errorf("TreeByRounds(%v, %d) = %d, not %d", k.c, root, got, want)
			}
		}
	}
}

// leastGrown returns the least cost of ways of all states of a set but the root that lead to it within the set: one state, to which none of the others leads, has the cheapest way to another one of them.
func leastGrown(c [][]int, root, set int) int {
	if set == 1<<root {
		return 0
	}
	least := math.MaxInt
	for _, last := range membersOf(set) {
		if last == root {
			continue
		}
		rest := set - 1<<last
		cheapest := math.MaxInt
		for _, to := range membersOf(rest) {
			cheapest = min(cheapest, c[last][to])
		}
		least = min(least, cheapest+leastGrown(c, root, rest))
	}
	return least
}

// wantedTree is the least cost of a tree to a root, grown state by state.
func wantedTree(c [][]int, root int) int {
	return leastGrown(c, root, 1<<len(c)-1)
}

// cheapestOut returns what the cheapest way out of a state to another one costs.
func cheapestOut(c [][]int, from int) int {
	return slices.Min(slices.Delete(slices.Clone(c[from]), from, from+1))
}

// leastOut is the sum of the cheapest ways out of all states but the root.
func leastOut(c [][]int, root int) int {
	all := 0
	for from := range c {
		if from != root {
			all += cheapestOut(c, from)
		}
	}
	return all
}

func TestTreesAreTheLeastThatGrow(t *testing.T) {
	var round tally
	for _, c := range allCosts() {
		for root := range c {
			want := wantedTree(c, root)
			if got := impl.TreeTried(c, root); got != want {
				t.Fatalf("TreeTried(%v, %d) = %d, not %d", c, root, got, want)
			}
			if got := impl.TreeByRounds(c, root); got != want {
				t.Fatalf("TreeByRounds(%v, %d) = %d, not %d", c, root, got, want)
			}
			round.add(want > leastOut(c, root))
		}
	}
	round.check(t, 1000)
}

func TestLastingOf(t *testing.T) {
	for _, c := range []struct {
		c    [][]int
		want []int
	}{
		{[][]int{{0}}, []int{0}},
		{[][]int{{impl.MaxCost}}, []int{0}},
		{[][]int{{0, 4}, {1, 0}}, []int{0}},
		{[][]int{{0, 1}, {4, 0}}, []int{1}},
		{[][]int{{0, 3}, {3, 9}}, []int{0, 1}},
		{filledCosts(4, 0), []int{0, 1, 2, 3}},
		{filledCosts(3, impl.MaxCost), []int{0, 1, 2}},
		{[][]int{{0, 0, 9}, {0, 0, 8}, {7, 6, 0}}, []int{0, 1}},
		{[][]int{{0, 0}, {0, 0}}, []int{0, 1}},
		{[][]int{{0, 9, 9}, {5, 0, 1}, {4, 1, 0}}, []int{0}},
		{[][]int{{0, 1, 20, 10}, {20, 0, 1, 9}, {1, 20, 0, 8}, {20, 20, 20, 0}}, []int{3}},
		{[][]int{{0, 1, 20, 7}, {20, 0, 1, 9}, {1, 20, 0, 8}, {3, 20, 20, 0}}, []int{0, 1, 2}},
		{[][]int{{0, 9, 5}, {9, 0, 3}, {5, 3, 0}}, []int{0, 1, 2}},
		{[][]int{{0, 9, 2}, {9, 0, 3}, {2, 4, 0}}, []int{0, 2}},
	} {
		if got := impl.LastingOf(c.c); !slices.Equal(got, c.want) {
			t.Errorf("LastingOf(%v) = %v, not %v", c.c, got, c.want)
		}
	}
}

// wantedLasting are the states with the least trees.
func wantedLasting(c [][]int) []int {
	var states []int
	least := math.MaxInt
	for root := range c {
		cost := wantedTree(c, root)
		if cost < least {
			states, least = nil, cost
		}
		if cost == least {
			states = append(states, root)
		}
	}
	return states
}

func TestLastingOfAreTheStatesWithTheLeastTrees(t *testing.T) {
	many := map[int]int{}
	for _, c := range allCosts() {
		want := wantedLasting(c)
		if got := impl.LastingOf(c); !slices.Equal(got, want) {
			t.Fatalf("LastingOf(%v) = %v, not %v", c, got, want)
		}
		many[len(want)]++
	}
	for states := 1; states <= impl.MaxStates; states++ {
		if many[states] < 50 {
			t.Errorf("only %d times %d states last", many[states], states)
		}
	}
}

// clonedGame returns a copy of a game that shares nothing with it.
func clonedGame(g impl.Game) impl.Game {
	return impl.Game{A: cloned(g.A), B: cloned(g.B)}
}

// checkNoMoves fails if ReplyMoves has a result.
func checkNoMoves(t *testing.T, g impl.Game, i, j int) {
	t.Helper()
	kept := clonedGame(g)
	if got := impl.ReplyMoves(g, i, j); len(got) != 0 {
		t.Errorf("ReplyMoves(%v, %d, %d) = %v", g, i, j, got)
	}
	if !sameRows(g.A, kept.A) || !sameRows(g.B, kept.B) {
		t.Errorf("the game %v is changed to %v", kept, g)
	}
}

// checkNoLearning fails if LearnCounts has a result.
func checkNoLearning(t *testing.T, g impl.Game, n int) {
	t.Helper()
	kept := clonedGame(g)
	if rows, cols := impl.LearnCounts(g, n); len(rows) != 0 || len(cols) != 0 {
		t.Errorf("LearnCounts(%v, %d) = %v, %v", g, n, rows, cols)
	}
	if !sameRows(g.A, kept.A) || !sameRows(g.B, kept.B) {
		t.Errorf("the game %v is changed to %v", kept, g)
	}
}

func TestRepliesAndLearningOfGamesThatAreNotValid(t *testing.T) {
	for _, g := range badGames() {
		kept := clonedGame(g)
		for _, at := range []int{-1, 0, 1, 3} {
			checkNoMoves(t, g, at, 0)
			checkNoMoves(t, g, 0, at)
			checkNoMoves(t, g, at, at)
		}
		for _, n := range []int{-1, 0, 1, impl.MaxRounds, impl.MaxRounds + 1} {
			checkNoLearning(t, g, n)
		}
		if impl.EndsAlways(g) {
			t.Errorf("EndsAlways(%v) = true", g)
		}
		if !sameRows(g.A, kept.A) || !sameRows(g.B, kept.B) {
			t.Errorf("the game %v is changed to %v", kept, g)
		}
	}
}

func TestReplyMovesOfRowsAndColumnsThatAreNotThere(t *testing.T) {
	d := draw(47)
	for _, shape := range shapes() {
		rows, cols := shape[0], shape[1]
		g := impl.Game{A: d.table(rows, cols, 3), B: d.table(rows, cols, 3)}
		for _, i := range notBelow(rows) {
			for j := range cols {
				checkNoMoves(t, g, i, j)
			}
			for _, j := range notBelow(cols) {
				checkNoMoves(t, g, i, j)
			}
		}
		for _, j := range notBelow(cols) {
			for i := range rows {
				checkNoMoves(t, g, i, j)
			}
		}
	}
}

func TestLearnCountsOfTooFewOrTooManyRounds(t *testing.T) {
	for _, g := range slices.Concat(noRestGames(), potentialGames()) {
		for _, n := range []int{math.MinInt, -impl.MaxRounds, -1, impl.MaxRounds + 1, impl.MaxRounds + 2, math.MaxInt} {
			checkNoLearning(t, g, n)
		}
	}
}

// checkNoTree fails if TreeTried or TreeByRounds has a result.
func checkNoTree(t *testing.T, c [][]int, root int) {
	t.Helper()
	kept := cloned(c)
	if got := impl.TreeTried(c, root); got != -1 {
		t.Errorf("TreeTried(%v, %d) = %d", c, root, got)
	}
	if got := impl.TreeByRounds(c, root); got != -1 {
		t.Errorf("TreeByRounds(%v, %d) = %d", c, root, got)
	}
	if !sameRows(c, kept) {
		t.Errorf("the costs %v are changed to %v", kept, c)
	}
}

func TestTreesOfRowsThatAreNoCosts(t *testing.T) {
	for _, c := range badCosts() {
		for root := -1; root <= impl.MaxStates+1; root++ {
			checkNoTree(t, c, root)
		}
		kept := cloned(c)
		impl.ValidCosts(c)
		if got := impl.LastingOf(c); len(got) != 0 {
			t.Errorf("LastingOf(%v) = %v", c, got)
		}
		if !sameRows(c, kept) {
			t.Errorf("the costs %v are changed to %v", kept, c)
		}
	}
}

func TestTreesToRootsThatAreNoStates(t *testing.T) {
	d := draw(48)
	for n := 1; n <= impl.MaxStates; n++ {
		for _, root := range notBelow(n) {
			checkNoTree(t, filledCosts(n, 0), root)
			checkNoTree(t, d.costs(n, impl.MaxCost), root)
		}
	}
}

func TestGamesOfRepliesAreNotChanged(t *testing.T) {
	for _, g := range slices.Concat(drawnGames(), noRestGames()) {
		a, b := guarded(g.A), guarded(g.B)
		game := impl.Game{A: a.table, B: b.table}
		impl.EndsAlways(game)
		var lists, rows [][]int
		forPairs(g, func(i, j int) {
			moves := impl.ReplyMoves(game, i, j)
			checkApart(t, "ReplyMoves", moves...)
			lists = append(lists, moves...)
			clear(moves[:cap(moves)])
		})
		for _, n := range []int{0, 1, 7, impl.MaxRounds} {
			byRow, byColumn := impl.LearnCounts(game, n)
			rows = append(rows, byRow, byColumn)
		}
		checkApart(t, "LearnCounts", rows...)
		for _, list := range slices.Concat(lists, rows) {
			scribble(list)
		}
		if !a.unchanged() || !b.unchanged() {
			t.Fatalf("the game %v is changed", g)
		}
	}
}

func TestCostsAreNotChanged(t *testing.T) {
	for _, c := range allCosts() {
		costs := guarded(c)
		impl.ValidCosts(costs.table)
		for root := range c {
			impl.TreeTried(costs.table, root)
			impl.TreeByRounds(costs.table, root)
		}
		scribble(impl.LastingOf(costs.table))
		if !costs.unchanged() {
			t.Fatalf("the costs %v are changed", c)
		}
	}
}

func TestRepliesAndLearningKeepNoState(t *testing.T) {
	for _, g := range append(potentialGames(), noRestGames()...) {
		moves, ends := impl.ReplyMoves(g, 0, 0), impl.EndsAlways(g)
		rows, cols := impl.LearnCounts(g, 9)
		kept, keptRows, keptCols := cloned(moves), slices.Clone(rows), slices.Clone(cols)
		impl.ReplyMoves(pennies(), 1, 1)
		impl.EndsAlways(pennies())
		impl.LearnCounts(pennies(), 20)
		if !sameRows(moves, kept) || !slices.Equal(rows, keptRows) || !slices.Equal(cols, keptCols) {
			t.Fatalf("ReplyMoves or LearnCounts of %v are changed by another call", g)
		}
		for _, list := range append(moves, rows, cols) {
			scribble(list)
		}
		againRows, againCols := impl.LearnCounts(g, 9)
		if !sameRows(impl.ReplyMoves(g, 0, 0), kept) || impl.EndsAlways(g) != ends || !slices.Equal(againRows, keptRows) || !slices.Equal(againCols, keptCols) {
			t.Fatalf("the results for %v are others when the first ones are written over", g)
		}
	}
}

func TestTreesKeepNoState(t *testing.T) {
	d := draw(49)
	for _, c := range allCosts() {
		root := d.below(len(c))
		tried, lasting := impl.TreeTried(c, root), impl.LastingOf(c)
		kept := slices.Clone(lasting)
		other := d.costs(1+d.below(impl.MaxStates), impl.MaxCost)
		impl.TreeTried(other, 0)
		impl.TreeByRounds(other, 0)
		scribble(impl.LastingOf(other))
		if !slices.Equal(lasting, kept) {
			t.Fatalf("LastingOf(%v) is changed by another call", c)
		}
		scribble(lasting)
		if impl.TreeTried(c, root) != tried || impl.TreeByRounds(c, root) != tried || !slices.Equal(impl.LastingOf(c), kept) {
			t.Fatalf("the results for %v are others when the first ones are written over", c)
		}
	}
}

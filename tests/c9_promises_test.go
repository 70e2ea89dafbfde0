package tests

import (
	"slices"
	"testing"

	"loop.example/strategiesthatspread/impl"
)

// treeTried returns the least cost of a tree, by trying.
func treeTried(t *testing.T, c [][]int, root int) int {
	t.Helper()
	cost := impl.TreeTried(c, root)
	if cost < 0 {
		t.Fatalf("TreeTried(%v, %d) = %d", c, root, cost)
	}
	return cost
}

// treeByRounds returns the least cost of a tree, by rounds.
func treeByRounds(t *testing.T, c [][]int, root int) int {
	t.Helper()
	cost := impl.TreeByRounds(c, root)
	if cost < 0 {
		t.Fatalf("TreeByRounds(%v, %d) = %d", c, root, cost)
	}
	return cost
}

// learnCounts returns how often acts are played by learning.
func learnCounts(t *testing.T, g impl.Game, n int) (rows, cols []int) {
	t.Helper()
	rows, cols = impl.LearnCounts(g, n)
	if len(rows) != len(g.A) || len(cols) != len(g.A[0]) {
		t.Fatalf("LearnCounts(%v, %d) = %v, %v", g, n, rows, cols)
	}
	return rows, cols
}

// pairsTurned returns pairs of a row and a column with the column first, ascending.
func pairsTurned(pairs [][]int) [][]int {
	all := cloned(pairs)
	for _, pair := range all {
		slices.Reverse(pair)
	}
	slices.SortFunc(all, slices.Compare)
	return all
}

func TestPromise3WhereNoOneMovesBothRest(t *testing.T) {
	var rest tally
	for _, g := range moveGames() {
		rests := impl.PureRests(g)
		var still [][]int
		forPairs(g, func(i, j int) {
			if len(impl.ReplyMoves(g, i, j)) == 0 {
				still = append(still, []int{i, j})
			}
			rest.add(has(rests, i, j))
		})
		if !sameRows(rests, still) {
			t.Fatalf("PureRests(%v) = %v, but no one moves at %v", g, rests, still)
		}
		if other := impl.PureRests(exchanged(g)); !sameRows(other, pairsTurned(rests)) {
			t.Fatalf("PureRests(%v) = %v, but exchanged they are %v", g, rests, other)
		}
	}
	rest.check(t, 1000)
}

func TestPromise6PotentialsAreThereIfRoundsAre0(t *testing.T) {
	var there, ends tally
	for _, g := range slices.Concat(moveGames(), roundGames()) {
		p, ok := impl.PotentialOf(g)
		if ok != impl.NoRounds(g) {
			t.Fatalf("of %v PotentialOf tells %v, NoRounds %v", g, ok, !ok)
		}
		there.add(ok)
		end, rests := impl.EndsAlways(g), impl.PureRests(g)
		if !ok {
			ends.add(end)
			continue
		}
		if len(p) != len(g.A) || !stepsAgree(g, p) {
			t.Fatalf("PotentialOf(%v) = %v", g, p)
		}
		if !end || len(rests) == 0 {
			t.Fatalf("PotentialOf(%v) = %v, but EndsAlways is %v, and PureRests are %v", g, p, end, rests)
		}
	}
	there.check(t, 500)
	ends.check(t, 500)
}

func TestPromise48MovesPay(t *testing.T) {
	var first tally
	for _, g := range moveGames() {
		forPairs(g, func(i, j int) {
			for _, move := range impl.ReplyMoves(g, i, j) {
				if len(move) != 2 {
					t.Fatalf("ReplyMoves(%v, %d, %d) has %v", g, i, j, move)
				}
				row, col := move[0], move[1]
				byFirst := col == j && row != i && g.A[row][col] > g.A[i][j]
				bySecond := row == i && col != j && g.B[row][col] > g.B[i][j]
				if !byFirst && !bySecond {
					t.Fatalf("ReplyMoves(%v, %d, %d) has %v", g, i, j, move)
				}
				first.add(byFirst)
			}
		})
	}
	first.check(t, 1000)
}

func TestPromise49WhereRepliesEndThereIsARest(t *testing.T) {
	var ends tally
	for _, g := range moveGames() {
		end := impl.EndsAlways(g)
		if rests := impl.PureRests(g); end && len(rests) == 0 {
			t.Fatalf("EndsAlways(%v) = true, but PureRests are %v", g, rests)
		}
		if other := impl.EndsAlways(exchanged(g)); other != end {
			t.Fatalf("EndsAlways(%v) = %v, but exchanged it is %v", g, end, other)
		}
		ends.add(end)
	}
	ends.check(t, 500)
}

// oneMore reports whether counts are others with one of them 1 more.
func oneMore(counts, others []int) bool {
	grown := 0
	for i, n := range counts {
		if n != others[i] && n != others[i]+1 {
			return false
		}
		grown += n - others[i]
	}
	return grown == 1
}

func TestPromise50CountsGrowByOne(t *testing.T) {
	var changed tally
	for k, g := range moveGames() {
		if k%7 > 0 && len(g.A) < impl.MaxActs {
			continue
		}
		rows, cols := learnCounts(t, g, 0)
		if sum(rows) != 0 || sum(cols) != 0 {
			t.Fatalf("LearnCounts(%v, 0) = %v, %v", g, rows, cols)
		}
		for n := 1; n <= impl.MaxRounds; n++ {
			moreRows, moreCols := learnCounts(t, g, n)
			if !oneMore(moreRows, rows) || !oneMore(moreCols, cols) || sum(moreRows) != n || sum(moreCols) != n {
				t.Fatalf("LearnCounts(%v, %d) = %v, %v, and with one round more %v, %v", g, n-1, rows, cols, moreRows, moreCols)
			}
			rows, cols = moreRows, moreCols
		}
		changed.add(slices.Max(rows) < impl.MaxRounds && slices.Max(cols) < impl.MaxRounds)
	}
	changed.check(t, 100)
}

func TestPromise51CostsMayBeTurned(t *testing.T) {
	var uneven tally
	for _, c := range allCosts() {
		if !impl.ValidCosts(c) || !impl.ValidCosts(turned(c)) {
			t.Fatalf("%v or it turned are no costs", c)
		}
		uneven.add(!sameRows(c, turned(c)))
	}
	uneven.check(t, 30)
	for _, c := range [][][]int{{{0, 1}}, {{0, 1}, {2, impl.MaxCost + 1}}, {{0, -1}, {0, 0}}, filledCosts(impl.MaxStates+1, 1)} {
		if impl.ValidCosts(c) || impl.ValidCosts(turned(c)) {
			t.Errorf("%v or it turned are costs", c)
		}
	}
}

func TestPromise52TreesThatAreTriedAreTreesByRounds(t *testing.T) {
	var round, great tally
	for _, c := range allCosts() {
		for root := range c {
			cost := treeTried(t, c, root)
			if got := treeByRounds(t, c, root); got != cost {
				t.Fatalf("TreeTried(%v, %d) = %d, but TreeByRounds is %d", c, root, cost, got)
			}
			round.add(cost > leastOut(c, root))
			more := raised(c, 1)
			great.add(impl.ValidCosts(more))
			if !impl.ValidCosts(more) {
				continue
			}
			if got := treeTried(t, more, root); got != cost+len(c)-1 {
				t.Fatalf("TreeTried(%v, %d) = %d, but with all costs 1 more it is %d", c, root, cost, got)
			}
		}
	}
	round.check(t, 1000)
	great.check(t, 100)
}

// allTo is the sum of all ways to a root from the other states.
func allTo(c [][]int, root int) int {
	return sum(turned(c)[root]) - c[root][root]
}

func TestPromise53TreesCostAtLeastTheCheapestWays(t *testing.T) {
	var more, less tally
	for _, c := range allCosts() {
		for root := range c {
			cost, least, most := treeByRounds(t, c, root), leastOut(c, root), allTo(c, root)
			if cost < least || cost > most {
				t.Fatalf("TreeByRounds(%v, %d) = %d, not %d to %d", c, root, cost, least, most)
			}
			more.add(cost > least)
			less.add(cost < most)
		}
	}
	more.check(t, 1000)
	less.check(t, 1000)
}

// triedTo returns the least costs of trees to all states.
func triedTo(t *testing.T, c [][]int) []int {
	t.Helper()
	var all []int
	for root := range c {
		all = append(all, treeTried(t, c, root))
	}
	return all
}

func TestPromise54WhatLastsHasTheLeastTree(t *testing.T) {
	var lasts tally
	for _, c := range allCosts() {
		lasting, trees := impl.LastingOf(c), triedTo(t, c)
		if len(lasting) == 0 || !slices.IsSorted(lasting) || len(slices.Compact(slices.Clone(lasting))) != len(lasting) {
			t.Fatalf("LastingOf(%v) = %v", c, lasting)
		}
		for state, cost := range trees {
			least := cost == slices.Min(trees)
			if least != slices.Contains(lasting, state) {
				t.Fatalf("LastingOf(%v) = %v, but the trees cost %v", c, lasting, trees)
			}
			lasts.add(least)
		}
	}
	lasts.check(t, 1000)
}

func TestPromise82LearningComesFromBothSides(t *testing.T) {
	var less, more tally
	for _, a := range mixTables() {
		value, g := valueOf(t, a), impl.Game{A: a, B: otherSign(a)}
		for _, n := range []int{1, 2, 3, 11, impl.MaxRounds} {
			rows, cols := learnCounts(t, g, n)
			sure, lost := worstOf(t, a, rows), minus(worstOf(t, otherSide(a), cols))
			if sure.Cmp(value) > 0 || lost.Cmp(value) < 0 {
				t.Fatalf("of %v the value is %v, but the counts %v and %v make sure %v and %v", a, value, rows, cols, sure, lost)
			}
			less.add(sure.Cmp(value) < 0)
			more.add(lost.Cmp(value) > 0)
		}
	}
	less.check(t, 1000)
	more.check(t, 1000)
}

// strongGames are games of which the first row and the first column give both players more than all others do.
func strongGames() []impl.Game {
	d := draw(50)
	var all []impl.Game
	for _, shape := range shapes() {
		for _, size := range []int{0, 1, 3, impl.MaxPay - 1} {
			for range 30 {
				g := impl.Game{A: d.table(shape[0], shape[1], size), B: d.table(shape[0], shape[1], size)}
				g.A[0][0], g.B[0][0] = size+1, size+1
				all = append(all, g)
			}
		}
	}
	return all
}

// strictGames are games of which the first row is better than all others against the first column, and this better than all others against the first row.
func strictGames() []impl.Game {
	strict := func(g impl.Game) bool {
		first := func(row []int) bool { return len(row) == 1 || row[0] > slices.Max(row[1:]) }
		return first(turned(g.A)[0]) && first(g.B[0])
	}
	return slices.DeleteFunc(moveGames(), func(g impl.Game) bool { return !strict(g) })
}

// checkStays fails if learning leaves the first row and the first column of a game.
func checkStays(t *testing.T, g impl.Game) {
	t.Helper()
	for n := range impl.MaxRounds + 1 {
		rows, cols := learnCounts(t, g, n)
		if rows[0] != n || sum(rows) != n || cols[0] != n || sum(cols) != n {
			t.Fatalf("LearnCounts(%v, %d) = %v, %v", g, n, rows, cols)
		}
	}
}

func TestPromise83WhoBeginsAtAStrongRestStays(t *testing.T) {
	for _, g := range strongGames() {
		checkStays(t, g)
	}
	weak, stay := 0, 0
	for _, g := range strictGames() {
		checkStays(t, g)
		if g.A[0][0] < slices.Max(slices.Concat(g.A...)) && g.B[0][0] < slices.Max(slices.Concat(g.B...)) {
			weak++
		}
	}
	for _, g := range noRestGames() {
		if rows, cols := learnCounts(t, g, impl.MaxRounds); rows[0] == impl.MaxRounds && cols[0] == impl.MaxRounds {
			stay++
		}
	}
	if weak < 50 || stay > 0 {
		t.Errorf("only %d strict rests are not the best of all, and %d times learning stays where no rest is", weak, stay)
	}
}

func TestPromise84StatesThatAreEasyToReachAndHardToLeaveLast(t *testing.T) {
	d := draw(51)
	for n := 1; n <= impl.MaxStates; n++ {
		for state := range n {
			for _, most := range []int{1, 2, impl.MaxCost} {
				for range 60 {
					c := d.costs(n, most)
					for i := range n {
						c[state][i], c[i][state] = 1+d.below(most), 0
					}
					// The way from a state to itself may cost anything.
					c[state][state] = d.below(most + 1)
					if got := impl.LastingOf(c); !slices.Equal(got, []int{state}) {
						t.Fatalf("LastingOf(%v) = %v, not %d alone", c, got, state)
					}
				}
			}
		}
	}
}

// halved returns costs with those of all ways out of a state halved, and with as much added to each of these ahead.
func halved(c [][]int, state, more int) [][]int {
	half := cloned(c)
	for j := range half[state] {
		half[state][j] = (half[state][j] + more) / 2
	}
	return half
}

func TestPromise85CheaperWaysMakeNoTreeDearer(t *testing.T) {
	var cheaper tally
	for _, c := range allCosts() {
		trees := triedTo(t, c)
		for state := range c {
			// Halves of 1, 3 and so on are taken both ways.
			for more := range 2 {
				less := halved(c, state, more)
				for root, now := range triedTo(t, less) {
					if now > trees[root] {
						t.Fatalf("TreeTried(%v, %d) = %d, but with the ways out of %d halved it is %d", c, root, trees[root], state, now)
					}
					if root == state && now != trees[root] {
						t.Fatalf("TreeTried(%v, %d) = %d, but with its own ways halved it is %d", c, root, trees[root], now)
					}
					cheaper.add(now < trees[root])
				}
			}
		}
	}
	cheaper.check(t, 1000)
}

package tests

import (
	"slices"
	"testing"

	"loop.example/strategiesthatspread/impl"
)

func TestPromise1TablesMayBeTurned(t *testing.T) {
	for _, a := range drawnTables() {
		if !impl.ValidTable(a) || !impl.ValidTable(turned(a)) {
			t.Fatalf("%v or it turned is not a table", a)
		}
	}
	for _, a := range [][][]int{{{1, 2, 3, 4}}, {{1, 10}}, {{-10}, {0}}} {
		if impl.ValidTable(a) || impl.ValidTable(turned(a)) {
			t.Errorf("%v or it turned is a table", a)
		}
	}
}

func TestPromise2PlayersMayBeExchanged(t *testing.T) {
	for _, g := range allGames() {
		if !impl.ValidGame(g) || !impl.ValidGame(exchanged(g)) {
			t.Fatalf("%v or it exchanged is not a game", g)
		}
	}
	for _, g := range []impl.Game{
		{A: [][]int{{1, 2}}, B: [][]int{{1}, {2}}},
		{A: [][]int{{1, 2}, {1, 2}}, B: [][]int{{1, 2, 3}, {1, 2, 3}}},
		{A: [][]int{{1, 2}, {1, 2}}, B: [][]int{{1, 2}}},
		{A: [][]int{{1, 2}}, B: [][]int{{1, 10}}},
	} {
		if impl.ValidGame(g) || impl.ValidGame(exchanged(g)) {
			t.Errorf("%v or it exchanged is a game", g)
		}
	}
}

func TestPromise4ExchangedPlayersHaveLeftOverExchanged(t *testing.T) {
	for _, g := range allGames() {
		rows, cols := impl.LeftOver(g)
		otherRows, otherCols := impl.LeftOver(exchanged(g))
		if !slices.Equal(rows, otherCols) || !slices.Equal(cols, otherRows) {
			t.Fatalf("LeftOver(%v) = %v, %v, and exchanged %v, %v", g, rows, cols, otherRows, otherCols)
		}
	}
}

func TestPromise4LeftOverIsTheSameInAnyOrder(t *testing.T) {
	for _, g := range allGames() {
		rows, cols := impl.LeftOver(g)
		wantRows, wantCols := leftOneByOne(g)
		if !slices.Equal(rows, wantRows) || !slices.Equal(cols, wantCols) {
			t.Fatalf("LeftOver(%v) = %v, %v, but one by one %v, %v", g, rows, cols, wantRows, wantCols)
		}
	}
}

func TestPromise4AllRestsAreLeftOver(t *testing.T) {
	for _, g := range allGames() {
		rows, cols := impl.LeftOver(g)
		for _, rest := range impl.PureRests(g) {
			if !slices.Contains(rows, rest[0]) || !slices.Contains(cols, rest[1]) {
				t.Fatalf("LeftOver(%v) = %v, %v, without the rest %v", g, rows, cols, rest)
			}
		}
	}
}

func TestPromise4NothingIsLeftOutAgain(t *testing.T) {
	for _, g := range allGames() {
		rows, cols := impl.LeftOver(g)
		rest := impl.Game{A: part(g.A, rows, cols), B: part(g.B, rows, cols)}
		againRows, againCols := impl.LeftOver(rest)
		if len(againRows) != len(rows) || len(againCols) != len(cols) || len(rows) == 0 || len(cols) == 0 {
			t.Fatalf("LeftOver(%v) = %v, %v, and of these again %v, %v", g, rows, cols, againRows, againCols)
		}
	}
}

func TestPromise7GamesOfOneRowHaveNoRounds(t *testing.T) {
	for _, g := range drawnGames() {
		if (len(g.A) == 1 || len(g.A[0]) == 1) && !impl.NoRounds(g) {
			t.Fatalf("NoRounds(%v) = false", g)
		}
	}
}

func TestPromise7ExchangedPlayersHaveTheSameRounds(t *testing.T) {
	var counts tally
	for _, g := range slices.Concat(allGames(), roundGames()) {
		is := impl.NoRounds(g)
		if is != impl.NoRounds(exchanged(g)) {
			t.Fatalf("NoRounds(%v) = %v, and exchanged it is not", g, is)
		}
		counts.add(is)
	}
	counts.check(t, 1)
}

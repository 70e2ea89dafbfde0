package tests

import (
	"slices"
	"testing"

	"loop.example/strategiesthatspread/impl"
)

func TestValidTable(t *testing.T) {
	good := [][][]int{
		{{0}},
		{{impl.MaxPay}},
		{{-impl.MaxPay}},
		{{1, 2, 3}},
		{{1}, {2}, {3}},
		{{9, -9, 0}, {-9, 9, 1}, {0, 0, -1}},
	}
	for _, a := range append(good, drawnTables()...) {
		if !impl.ValidTable(a) {
			t.Errorf("ValidTable(%v) = false", a)
		}
	}
	for _, a := range badTables() {
		if impl.ValidTable(a) {
			t.Errorf("ValidTable(%v) = true", a)
		}
	}
}

func TestValidGame(t *testing.T) {
	for _, g := range allGames() {
		if !impl.ValidGame(g) {
			t.Fatalf("ValidGame(%v) = false", g)
		}
	}
	for _, g := range badGames() {
		if impl.ValidGame(g) {
			t.Errorf("ValidGame(%v) = true", g)
		}
	}
}

func TestPureRests(t *testing.T) {
	same := [][]int{{4, 4}, {4, 4}}
	for _, c := range []struct {
		g    impl.Game
		want [][]int
	}{
		{impl.Game{A: [][]int{{-3}}, B: [][]int{{5}}}, [][]int{{0, 0}}},
		{impl.Game{A: [][]int{{1, 2, 3}}, B: [][]int{{7, -1, 7}}}, [][]int{{0, 0}, {0, 2}}},
		{impl.Game{A: [][]int{{1}, {3}, {3}}, B: [][]int{{9}, {0}, {-9}}}, [][]int{{1, 0}, {2, 0}}},
		{impl.Game{A: same, B: same}, [][]int{{0, 0}, {0, 1}, {1, 0}, {1, 1}}},
		{impl.Game{A: [][]int{{3, 0}, {5, 1}}, B: [][]int{{3, 5}, {0, 1}}}, [][]int{{1, 1}}},
		{impl.Game{A: [][]int{{1, -1}, {-1, 1}}, B: [][]int{{-1, 1}, {1, -1}}}, nil},
		{impl.Game{A: [][]int{{0, 0, 5}, {0, 2, 0}}, B: [][]int{{0, 0, 5}, {0, 2, 0}}}, [][]int{{0, 2}, {1, 1}}},
		{impl.Game{A: [][]int{{0, 0, 9}, {0, 9, 0}, {9, 0, 0}}, B: [][]int{{1, 1, 2}, {1, 2, 1}, {2, 1, 1}}}, [][]int{{0, 2}, {1, 1}, {2, 0}}},
	} {
		if got := impl.PureRests(c.g); !sameRows(got, c.want) {
			t.Errorf("PureRests(%v) = %v, not %v", c.g, got, c.want)
		}
	}
}

// isRest tries each other row and each other column.
func isRest(g impl.Game, i, j int) bool {
	for k := range g.A {
		if g.A[k][j] > g.A[i][j] {
			return false
		}
	}
	for l := range g.B[i] {
		if g.B[i][l] > g.B[i][j] {
			return false
		}
	}
	return true
}

func TestPureRestsAreThosePairsThatNoOneLeaves(t *testing.T) {
	for _, g := range allGames() {
		var want [][]int
		for i := range g.A {
			for j := range g.A[i] {
				if isRest(g, i, j) {
					want = append(want, []int{i, j})
				}
			}
		}
		if got := impl.PureRests(g); !sameRows(got, want) {
			t.Fatalf("PureRests(%v) = %v, not %v", g, got, want)
		}
	}
}

func TestLeftOver(t *testing.T) {
	same := [][]int{{1, 1, 1}, {1, 1, 1}, {1, 1, 1}}
	for _, c := range []struct {
		g          impl.Game
		rows, cols []int
	}{
		{impl.Game{A: [][]int{{-3}}, B: [][]int{{5}}}, []int{0}, []int{0}},
		{impl.Game{A: [][]int{{9, -9, 0}}, B: [][]int{{1, 3, 2}}}, []int{0}, []int{1}},
		{impl.Game{A: [][]int{{9, -9, 0}}, B: [][]int{{3, 1, 3}}}, []int{0}, []int{0, 2}},
		{impl.Game{A: [][]int{{1}, {2}, {0}}, B: [][]int{{9}, {0}, {9}}}, []int{1}, []int{0}},
		{impl.Game{A: same, B: same}, []int{0, 1, 2}, []int{0, 1, 2}},
		// As much in one column is not less.
		{impl.Game{A: [][]int{{1, 1}, {2, 1}}, B: [][]int{{0, 0}, {0, 0}}}, []int{0, 1}, []int{0, 1}},
		{impl.Game{A: [][]int{{0, 0}, {0, 0}}, B: [][]int{{1, 2}, {1, 1}}}, []int{0, 1}, []int{0, 1}},
		// Less than one row here and than another one there is not less than one of them.
		{impl.Game{A: [][]int{{9, 0}, {0, 9}, {1, 1}}, B: [][]int{{0, 0}, {0, 0}, {0, 0}}}, []int{0, 1, 2}, []int{0, 1}},
		// Two rows are beaten at once, one of them by a row that is beaten itself.
		{impl.Game{A: [][]int{{2, 2}, {1, 1}, {3, 3}}, B: [][]int{{0, 0}, {0, 0}, {0, 0}}}, []int{2}, []int{0, 1}},
		// One after the other: row 2, column 0, row 0, column 1.
		{impl.Game{A: [][]int{{1, 1, 1}, {0, 2, 2}, {0, 0, 0}}, B: [][]int{{0, 1, 1}, {0, 1, 2}, {9, 0, 0}}}, []int{1}, []int{2}},
		// One after the other: column 2, row 2, column 1, row 1.
		{impl.Game{A: [][]int{{2, 0, 0}, {1, 5, 0}, {0, 1, 9}}, B: [][]int{{2, 1, 0}, {1, 0, -1}, {0, 3, -2}}}, []int{0}, []int{0}},
		// No row is beaten at first, but one is behind the first column.
		{impl.Game{A: [][]int{{1, 1, 0}, {0, 0, 2}}, B: [][]int{{0, 2, 1}, {3, 1, 0}}}, []int{0}, []int{1}},
		{impl.Game{A: [][]int{{1, -1}, {-1, 1}}, B: [][]int{{-1, 1}, {1, -1}}}, []int{0, 1}, []int{0, 1}},
	} {
		if rows, cols := impl.LeftOver(c.g); !slices.Equal(rows, c.rows) || !slices.Equal(cols, c.cols) {
			t.Errorf("LeftOver(%v) = %v, %v, not %v, %v", c.g, rows, cols, c.rows, c.cols)
		}
	}
}

// part returns the part of a table that has some rows and columns.
func part(a [][]int, rows, cols []int) [][]int {
	var b [][]int
	for _, i := range rows {
		var row []int
		for _, j := range cols {
			row = append(row, a[i][j])
		}
		b = append(b, row)
	}
	return b
}

// beatenRow returns the last row of a table that is less than another one everywhere, or -1.
func beatenRow(a [][]int) int {
	for i := len(a) - 1; i >= 0; i-- {
		for k := range a {
			less := true
			for j := range a[i] {
				less = less && a[i][j] < a[k][j]
			}
			if less {
				return i
			}
		}
	}
	return -1
}

// leftOneByOne leaves out one act at a time, a column wherever there is one.
func leftOneByOne(g impl.Game) ([]int, []int) {
	rows, cols := []int{0, 1, 2}[:len(g.A)], []int{0, 1, 2}[:len(g.A[0])]
	for {
		if j := beatenRow(turned(part(g.B, rows, cols))); j >= 0 {
			cols = slices.Delete(cols, j, j+1)
		} else if i := beatenRow(part(g.A, rows, cols)); i >= 0 {
			rows = slices.Delete(rows, i, i+1)
		} else {
			return rows, cols
		}
	}
}

func TestSafeRow(t *testing.T) {
	for _, c := range []struct {
		a    [][]int
		i, n int
	}{
		{[][]int{{-9}}, 0, -9},
		{[][]int{{3, -2, 9}}, 0, -2},
		{[][]int{{-5}, {-4}, {-6}}, 1, -4},
		{[][]int{{7, 7, 7}, {7, 7, 7}, {7, 7, 7}}, 0, 7},
		{[][]int{{0, 9}, {1, 1}, {1, 8}}, 1, 1},
		{[][]int{{3, 0}, {5, 1}}, 1, 1},
		{[][]int{{9, 9, -9}, {-8, 0, 0}, {0, -7, 0}}, 2, -7},
	} {
		if i, n, ok := impl.SafeRow(c.a); !ok || i != c.i || n != c.n {
			t.Errorf("SafeRow(%v) = %d, %d, %v, not %d, %d", c.a, i, n, ok, c.i, c.n)
		}
	}
}

func TestSafeRowIsTheFirstOneThatMakesMostSure(t *testing.T) {
	for _, a := range drawnTables() {
		i, n, ok := impl.SafeRow(a)
		if !ok || slices.Min(a[i]) != n {
			t.Fatalf("SafeRow(%v) = %d, %d, %v", a, i, n, ok)
		}
		for k, row := range a {
			if least := slices.Min(row); least > n || k < i && least == n {
				t.Fatalf("SafeRow(%v) = %d, %d, but there is row %d", a, i, n, k)
			}
		}
	}
}

func TestPotentialOf(t *testing.T) {
	same := [][]int{{4, 4}, {4, 4}}
	for _, c := range []struct {
		g    impl.Game
		want [][]int
	}{
		{impl.Game{A: [][]int{{-3}}, B: [][]int{{5}}}, [][]int{{0}}},
		{impl.Game{A: [][]int{{9, -9, 0}}, B: [][]int{{2, 5, -9}}}, [][]int{{0, 3, -11}}},
		{impl.Game{A: [][]int{{2}, {5}, {-9}}, B: [][]int{{9}, {-9}, {0}}}, [][]int{{0}, {3}, {-11}}},
		{impl.Game{A: same, B: same}, [][]int{{0, 0}, {0, 0}}},
		{impl.Game{A: [][]int{{3, 0}, {5, 1}}, B: [][]int{{3, 5}, {0, 1}}}, [][]int{{0, 2}, {2, 3}}},
		{impl.Game{A: [][]int{{1, 4, 3}, {2, 3, 3}}, B: [][]int{{0, 2, 5}, {1, 1, 5}}}, [][]int{{0, 2, 5}, {1, 1, 5}}},
	} {
		if p, ok := impl.PotentialOf(c.g); !ok || !sameRows(p, c.want) {
			t.Errorf("PotentialOf(%v) = %v, %v, not %v", c.g, p, ok, c.want)
		}
	}
	for _, g := range roundGames() {
		if p, ok := impl.PotentialOf(g); ok || len(p) != 0 {
			t.Errorf("PotentialOf(%v) = %v, %v", g, p, ok)
		}
	}
}

// roundGames are games with rounds that are not 0, each one elsewhere.
func roundGames() []impl.Game {
	games := []impl.Game{{A: [][]int{{1, -1}, {-1, 1}}, B: [][]int{{-1, 1}, {1, -1}}}}
	for i := range 3 {
		for j := range 3 {
			first := impl.Game{A: make3by3(), B: make3by3()}
			first.A[i][j] = 1
			second := impl.Game{A: make3by3(), B: make3by3()}
			second.B[i][j] = 1
			games = append(games, first, second)
		}
	}
	return games
}

// make3by3 returns a table of three rows and three columns, all 0.
func make3by3() [][]int {
	return [][]int{{0, 0, 0}, {0, 0, 0}, {0, 0, 0}}
}

// stepsAgree reports whether each change of a table is that of the player who changes.
func stepsAgree(g impl.Game, p [][]int) bool {
	for i := range p {
		for j := range p[i] {
			for k := range p {
				if p[k][j]-p[i][j] != g.A[k][j]-g.A[i][j] {
					return false
				}
			}
			for l := range p[i] {
				if p[i][l]-p[i][j] != g.B[i][l]-g.B[i][j] {
					return false
				}
			}
		}
	}
	return true
}

func TestPotentialOfHasTheStepsOfBothPlayers(t *testing.T) {
	for _, g := range allGames() {
		p, ok := impl.PotentialOf(g)
		if !ok && len(p) == 0 {
			continue
		}
		if !ok || len(p) != len(g.A) || len(p[0]) != len(g.A[0]) || p[0][0] != 0 || !stepsAgree(g, p) {
			t.Fatalf("PotentialOf(%v) = %v, %v", g, p, ok)
		}
	}
}

func TestPotentialOfIsThereWhereItIsPutIn(t *testing.T) {
	d := draw(6)
	for _, shape := range shapes() {
		for range 40 {
			g, want := potentialGame(&d, shape[0], shape[1])
			if p, ok := impl.PotentialOf(g); !ok || !sameRows(p, want) {
				t.Fatalf("PotentialOf(%v) = %v, %v, not %v", g, p, ok, want)
			}
			if !impl.NoRounds(g) {
				t.Fatalf("NoRounds(%v) = false", g)
			}
		}
	}
}

func TestNoRounds(t *testing.T) {
	same := [][]int{{4, 4}, {4, 4}}
	for _, g := range []impl.Game{
		{A: [][]int{{-3}}, B: [][]int{{5}}},
		{A: same, B: same},
		{A: [][]int{{3, 0}, {5, 1}}, B: [][]int{{3, 5}, {0, 1}}},
		{A: [][]int{{1, 4, 3}, {2, 3, 3}}, B: [][]int{{0, 2, 5}, {1, 1, 5}}},
	} {
		if !impl.NoRounds(g) {
			t.Errorf("NoRounds(%v) = false", g)
		}
	}
	for _, g := range roundGames() {
		if impl.NoRounds(g) {
			t.Errorf("NoRounds(%v) = true", g)
		}
	}
}

func TestPotentialOfIsThereJustIfNoRoundsHolds(t *testing.T) {
	for _, g := range allGames() {
		if _, ok := impl.PotentialOf(g); ok != impl.NoRounds(g) {
			t.Fatalf("of %v PotentialOf tells %v, NoRounds %v", g, ok, !ok)
		}
	}
}

func TestGamesThatAreNotValid(t *testing.T) {
	for _, g := range badGames() {
		if got := impl.PureRests(g); len(got) != 0 {
			t.Errorf("PureRests(%v) = %v", g, got)
		}
		if rows, cols := impl.LeftOver(g); len(rows) != 0 || len(cols) != 0 {
			t.Errorf("LeftOver(%v) = %v, %v", g, rows, cols)
		}
		if p, ok := impl.PotentialOf(g); ok || len(p) != 0 {
			t.Errorf("PotentialOf(%v) = %v, %v", g, p, ok)
		}
		if impl.NoRounds(g) {
			t.Errorf("NoRounds(%v) = true", g)
		}
	}
	for _, a := range badTables() {
		if i, n, ok := impl.SafeRow(a); ok || i != 0 || n != 0 {
			t.Errorf("SafeRow(%v) = %d, %d, %v", a, i, n, ok)
		}
	}
}

func TestGamesAreNotChanged(t *testing.T) {
	for _, g := range slices.Concat(drawnGames(), potentialGames()) {
		a, b := guarded(g.A), guarded(g.B)
		game := impl.Game{A: a.table, B: b.table}
		impl.ValidTable(game.A)
		impl.ValidGame(game)
		impl.SafeRow(game.A)
		impl.NoRounds(game)
		rests := impl.PureRests(game)
		rows, cols := impl.LeftOver(game)
		p, _ := impl.PotentialOf(game)
		if !a.unchanged() || !b.unchanged() {
			t.Fatalf("the game %v is changed", g)
		}
		checkApart(t, "PureRests", rests...)
		checkApart(t, "LeftOver", rows, cols)
		checkApart(t, "PotentialOf", p...)
		clear(rests[:cap(rests)])
		clear(p[:cap(p)])
		if !a.unchanged() || !b.unchanged() {
			t.Fatalf("a result shares memory with the game %v", g)
		}
	}
}

func TestGamesKeepNoState(t *testing.T) {
	for _, g := range potentialGames() {
		rests, p := impl.PureRests(g), potentialRows(g)
		rows, cols := impl.LeftOver(g)
		keptRests, keptP := cloned(rests), cloned(p)
		keptRows, keptCols := slices.Clone(rows), slices.Clone(cols)
		for _, list := range slices.Concat(rests, p, [][]int{rows, cols}) {
			scribble(list)
		}
		againRows, againCols := impl.LeftOver(g)
		if !sameRows(impl.PureRests(g), keptRests) || !sameRows(potentialRows(g), keptP) || !slices.Equal(againRows, keptRows) || !slices.Equal(againCols, keptCols) {
			t.Fatalf("the results for %v are others when the first ones are written over", g)
		}
	}
}

// potentialRows returns the table of PotentialOf alone.
func potentialRows(g impl.Game) [][]int {
	p, _ := impl.PotentialOf(g)
	return p
}

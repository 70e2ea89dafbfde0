package impl

import "slices"

// MaxPay is the greatest payoff.
const MaxPay = 9

// MaxActs is the largest number of rows and of columns.
const MaxActs = 3

// Game is what two players have.
type Game struct {
	A [][]int
	B [][]int
}

// cells is a table as an array, so that == holds two whole tables against
// each other. What lies outside of the table is 0.
type cells [MaxActs][MaxActs]int

// marks tells which acts of a player are left.
type marks [MaxActs]bool

// ValidTable reports whether rows are a table.
func ValidTable(a [][]int) bool {
	if len(a) < 1 || len(a) > MaxActs {
		return false
	}
	for _, row := range a {
		if len(row) != len(a[0]) || !validRow(row) {
			return false
		}
	}
	return true
}

// validRow reports whether numbers may be a row of a table.
func validRow(row []int) bool {
	if len(row) < 1 || len(row) > MaxActs {
		return false
	}
	for _, n := range row {
		if !isPay(n) {
			return false
		}
	}
	return true
}

// isPay reports whether a number may be one of a table.
func isPay(n int) bool {
	return n >= -MaxPay && n <= MaxPay
}

// ValidGame reports whether tables are a game.
func ValidGame(g Game) bool {
	return ValidTable(g.A) && ValidTable(g.B) &&
		len(g.A) == len(g.B) && len(g.A[0]) == len(g.B[0])
}

// PureRests returns where neither player has more by another act.
func PureRests(g Game) [][]int {
	if !ValidGame(g) {
		return nil
	}
	columns := turned(g.A)
	var rests [][]int
	for i, row := range g.B {
		for j, second := range row {
			if g.A[i][j] == slices.Max(columns[j]) && second == slices.Max(row) {
				rests = append(rests, []int{i, j})
			}
		}
	}
	return rests
}

// turned returns a valid table with rows as columns.
func turned(a [][]int) [][]int {
	t := make([][]int, len(a[0]))
	for j := range t {
		t[j] = make([]int, len(a))
		for i := range a {
			t[j][i] = a[i][j]
		}
	}
	return t
}

// LeftOver returns the rows and columns that are not beaten.
func LeftOver(g Game) ([]int, []int) {
	if !ValidGame(g) {
		return nil, nil
	}
	// With its table turned the second player, too, has its own acts as rows.
	first, second := cellsOf(g.A), cellsOf(turned(g.B))
	rows, cols := allMarks(len(g.A)), allMarks(len(g.A[0]))
	for {
		fewerRows := unbeaten(first, rows, cols)
		fewerCols := unbeaten(second, cols, fewerRows)
		if fewerRows == rows && fewerCols == cols {
			return marked(rows), marked(cols)
		}
		rows, cols = fewerRows, fewerCols
	}
}

// cellsOf returns a valid table as an array.
func cellsOf(a [][]int) cells {
	var c cells
	for i, row := range a {
		for j, n := range row {
			c[i][j] = n
		}
	}
	return c
}

// allMarks returns marks of the first n acts.
func allMarks(n int) marks {
	var m marks
	for i := range n {
		m[i] = true
	}
	return m
}

// marked returns the marked acts, ascending.
func marked(m marks) []int {
	var acts []int
	for i, here := range m {
		if here {
			acts = append(acts, i)
		}
	}
	return acts
}

// unbeaten returns the own acts, the rows of the table, that stay against the
// acts of the other player. All are tried against the same acts, so that those
// beaten at once are left out at once.
func unbeaten(c cells, own, other marks) marks {
	var stay marks
	for i := range own {
		stay[i] = own[i] && !isBeaten(c, i, own, other)
	}
	return stay
}

// isBeaten reports whether one of the own acts gives more than act i against
// all acts of the other player.
func isBeaten(c cells, i int, own, other marks) bool {
	for k := range own {
		if own[k] && lessAgainst(c[i], c[k], other) {
			return true
		}
	}
	return false
}

// lessAgainst reports whether a row is less than another one at all marks.
func lessAgainst(row, than [MaxActs]int, at marks) bool {
	for j := range at {
		if at[j] && row[j] >= than[j] {
			return false
		}
	}
	return true
}

// SafeRow returns the row with the greatest least number.
func SafeRow(a [][]int) (int, int, bool) {
	if !ValidTable(a) {
		return 0, 0, false
	}
	best, sure := 0, slices.Min(a[0])
	for i, row := range a {
		if least := slices.Min(row); least > sure {
			best, sure = i, least
		}
	}
	return best, sure, true
}

// PotentialOf returns the table whose steps are those of both players.
func PotentialOf(g Game) ([][]int, bool) {
	if !ValidGame(g) {
		return nil, false
	}
	// Steps along columns are those of B in the one table, steps along rows
	// are those of A in the other one: both are right just if they are the same.
	p := rowThenColumn(g)
	if p != columnThenRow(g) {
		return nil, false
	}
	return tableOf(p, len(g.A), len(g.A[0])), true
}

// rowThenColumn sums the steps from the first row and column to each place,
// the row changed first.
func rowThenColumn(g Game) cells {
	var p cells
	for i, row := range g.B {
		for j := range row {
			p[i][j] = g.A[i][0] - g.A[0][0] + row[j] - row[0]
		}
	}
	return p
}

// columnThenRow sums the steps from the first row and column to each place,
// the column changed first.
func columnThenRow(g Game) cells {
	var p cells
	for i, row := range g.A {
		for j := range row {
			p[i][j] = g.B[0][j] - g.B[0][0] + row[j] - g.A[0][j]
		}
	}
	return p
}

// tableOf returns the first rows and columns of an array as a table.
func tableOf(c cells, rows, cols int) [][]int {
	a := make([][]int, rows)
	for i := range a {
		a[i] = make([]int, cols)
		for j := range a[i] {
			a[i][j] = c[i][j]
		}
	}
	return a
}

// NoRounds reports whether all rounds of four changes are 0.
func NoRounds(g Game) bool {
	if !ValidGame(g) {
		return false
	}
	for i := range g.A {
		for k := range g.A {
			if !noRoundsBetween(g, i, k) {
				return false
			}
		}
	}
	return true
}

// noRoundsBetween reports whether all rounds over two rows are 0.
func noRoundsBetween(g Game, i, k int) bool {
	for j := range g.A[i] {
		for l := range g.A[i] {
			if roundOf(g, i, k, j, l) != 0 {
				return false
			}
		}
	}
	return true
}

// roundOf sums the changes from row i and column j to row k, to column l, back
// to row i and back to column j.
func roundOf(g Game, i, k, j, l int) int {
	toRow := g.A[k][j] - g.A[i][j]
	toColumn := g.B[k][l] - g.B[k][j]
	rowBack := g.A[i][l] - g.A[k][l]
	columnBack := g.B[i][j] - g.B[i][l]
	return toRow + toColumn + rowBack + columnBack
}

package tests

import (
	"fmt"
	"math"
	"slices"
	"strings"
	"testing"

	"loop.example/strategiesthatspread/impl"
)

// sameRows reports whether two tables have the same rows.
func sameRows(a, b [][]int) bool {
	return slices.EqualFunc(a, b, slices.Equal)
}

// cloned returns a copy of a table that shares nothing with it.
func cloned(a [][]int) [][]int {
	var b [][]int
	for _, row := range a {
		b = append(b, slices.Clone(row))
	}
	return b
}

// turned returns a table with rows as columns.
func turned(a [][]int) [][]int {
	b := make([][]int, len(a[0]))
	for _, row := range a {
		for j, n := range row {
			b[j] = append(b[j], n)
		}
	}
	return b
}

// exchanged returns a game with the first player as the second one.
func exchanged(g impl.Game) impl.Game {
	return impl.Game{A: turned(g.B), B: turned(g.A)}
}

// draw gives the same row of numbers at each run.
type draw uint64

// below returns the next number of 0 up to less than n.
func (d *draw) below(n int) int {
	*d = *d*6364136223846793005 + 1442695040888963407
	return int(uint64(*d)>>33) % n
}

// table returns a table with numbers in -size..size.
func (d *draw) table(rows, cols, size int) [][]int {
	a := make([][]int, rows)
	for i := range a {
		for range cols {
			a[i] = append(a[i], d.below(2*size+1)-size)
		}
	}
	return a
}

// shapes are all numbers of rows and columns that a table may have.
func shapes() [][2]int {
	var all [][2]int
	for rows := 1; rows <= impl.MaxActs; rows++ {
		for cols := 1; cols <= impl.MaxActs; cols++ {
			all = append(all, [2]int{rows, cols})
		}
	}
	return all
}

// drawnTables are tables of each shape, with many numbers that are the same and with few.
func drawnTables() [][][]int {
	d := draw(1)
	var all [][][]int
	for _, shape := range shapes() {
		for _, size := range []int{0, 1, 2, impl.MaxPay} {
			for range 40 {
				all = append(all, d.table(shape[0], shape[1], size))
			}
		}
	}
	return all
}

// drawnGames are games of each shape, with many numbers that are the same and with few.
func drawnGames() []impl.Game {
	d := draw(2)
	var all []impl.Game
	for _, shape := range shapes() {
		for _, size := range []int{0, 1, 2, impl.MaxPay} {
			for range 120 {
				a, b := d.table(shape[0], shape[1], size), d.table(shape[0], shape[1], size)
				all = append(all, impl.Game{A: a, B: b})
			}
		}
	}
	return all
}

// smallGames are all games of two rows and two columns with numbers in -1..1.
func smallGames() []impl.Game {
	var all []impl.Game
	for k := range 3 * 3 * 3 * 3 * 3 * 3 * 3 * 3 {
		var n [8]int
		for i := range n {
			n[i] = k%3 - 1
			k /= 3
		}
		all = append(all, impl.Game{A: [][]int{{n[0], n[1]}, {n[2], n[3]}}, B: [][]int{{n[4], n[5]}, {n[6], n[7]}}})
	}
	return all
}

// potentialGame returns a game of a shape that has a potential, and this potential.
func potentialGame(d *draw, rows, cols int) (impl.Game, [][]int) {
	p := d.table(rows, cols, 3)
	byColumn, byRow := d.table(1, cols, 3)[0], d.table(1, rows, 3)[0]
	first := p[0][0]
	g := impl.Game{A: cloned(p), B: cloned(p)}
	for i := range p {
		for j := range p[i] {
			g.A[i][j] += byColumn[j]
			g.B[i][j] += byRow[i]
			p[i][j] -= first
		}
	}
	return g, p
}

// potentialGames are games of each shape that have a potential.
func potentialGames() []impl.Game {
	d := draw(3)
	var all []impl.Game
	for _, shape := range shapes() {
		for range 40 {
			g, _ := potentialGame(&d, shape[0], shape[1])
			all = append(all, g)
		}
	}
	return all
}

// allGames are all games with which the tests try what holds of each one.
func allGames() []impl.Game {
	return slices.Concat(smallGames(), drawnGames(), potentialGames())
}

// badTables are tables that are not valid.
func badTables() [][][]int {
	return [][][]int{
		nil,
		{},
		{nil},
		{{}},
		{{}, {}},
		{{}, {1}},
		{{1}, {}},
		{{1}, nil, {1}},
		{{1}, {1}, {1}, {1}},
		{{1, 2, 3}, {1, 2, 3}, {1, 2, 3}, {1, 2, 3}},
		{{1, 2, 3, 4}},
		{{1, 2, 3, 4}, {1, 2, 3, 4}, {1, 2, 3, 4}},
		make([][]int, 1000),
		{make([]int, 1000)},
		{{1}, {1, 2}},
		{{1, 2}, {1}},
		{{1, 2, 3}, {1, 2, 3}, {1, 2}},
		{{1, 2, 3}, {1, 2, 3}, {1, 2, 3, 4}},
		{{1, 2}, {1, 2, 3}, {1, 2}},
		{{impl.MaxPay + 1}},
		{{-impl.MaxPay - 1}},
		{{0, impl.MaxPay + 1}, {0, 0}},
		{{0, 0}, {-impl.MaxPay - 1, 0}},
		{{0, 0, 0}, {0, 0, 0}, {0, 0, impl.MaxPay + 1}},
		{{0, 0, 0}, {0, 0, 0}, {0, 0, -impl.MaxPay - 1}},
		{{math.MaxInt}},
		{{0, math.MinInt}},
	}
}

// badGames are games that are not valid.
func badGames() []impl.Game {
	var all []impl.Game
	for _, bad := range badTables() {
		good := [][]int{{1}}
		if len(bad) >= 1 && len(bad) <= impl.MaxActs && len(bad[0]) >= 1 && len(bad[0]) <= impl.MaxActs {
			d := draw(4)
			good = d.table(len(bad), len(bad[0]), 2)
		}
		all = append(all, impl.Game{A: bad, B: good}, impl.Game{A: good, B: bad}, impl.Game{A: bad, B: bad})
	}
	d := draw(5)
	for _, one := range shapes() {
		for _, other := range shapes() {
			if one != other {
				all = append(all, impl.Game{A: d.table(one[0], one[1], 2), B: d.table(other[0], other[1], 2)})
			}
		}
	}
	return all
}

// guard is a table whose rows lie in one array, with spare numbers behind each one.
type guard struct {
	table [][]int
	array []int
	kept  []int
}

// guarded returns a table laid out so that each change around it can be seen.
func guarded(a [][]int) guard {
	const spare = 55
	var array []int
	for _, row := range a {
		array = append(append(array, row...), spare, spare)
	}
	table := make([][]int, 0, len(a)+1)
	at := 0
	for _, row := range a {
		table = append(table, array[at:at+len(row)])
		at += len(row) + 2
	}
	return guard{table: table, array: array, kept: slices.Clone(array)}
}

// unchanged reports whether the table, its rows and the numbers around them are as they were.
func (g guard) unchanged() bool {
	at := 0
	for _, row := range g.table {
		if len(row) == 0 || &row[0] != &g.array[at] {
			return false
		}
		at += len(row) + 2
	}
	return at == len(g.array) && g.table[:cap(g.table)][len(g.table)] == nil && slices.Equal(g.array, g.kept)
}

// scribble writes over a list and over its spare capacity.
func scribble(list []int) {
	list = list[:cap(list)]
	for i := range list {
		list[i] = -777
	}
}

// checkApart writes over each of the lists, and fails if this changes another one.
func checkApart(t *testing.T, name string, lists ...[]int) {
	t.Helper()
	for i := range lists {
		scribble(lists[i])
		for j := i + 1; j < len(lists); j++ {
			if slices.Contains(lists[j], -777) {
				t.Fatalf("%s: the lists %d and %d of its result share memory", name, i, j)
			}
		}
	}
}

// otherSign returns a table with each number with the other sign.
func otherSign(a [][]int) [][]int {
	b := cloned(a)
	for _, row := range b {
		for j := range row {
			row[j] = -row[j]
		}
	}
	return b
}

// otherSide returns a table as the second player has it, with columns as rows.
func otherSide(a [][]int) [][]int {
	return otherSign(turned(a))
}

// mixTables are all tables with which the tests of mixes try what holds of each one.
func mixTables() [][][]int {
	all := drawnTables()
	for _, shape := range [][2]int{{2, 2}, {2, 3}, {3, 2}} {
		all = append(all, smallTables(shape[0], shape[1])...)
	}
	d := draw(7)
	for _, size := range []int{1, 2, 3, impl.MaxPay} {
		for range 300 {
			all = append(all, d.table(3, 3, size))
		}
	}
	return all
}

// smallTables are all tables of a shape with numbers in -1..1.
func smallTables(rows, cols int) [][][]int {
	all := [][][]int{nil}
	for range rows {
		var more [][][]int
		for _, a := range all {
			for _, row := range smallRows(cols) {
				more = append(more, append(cloned(a), row))
			}
		}
		all = more
	}
	return all
}

// smallRows are all rows of some numbers in -1..1.
func smallRows(cols int) [][]int {
	all := [][]int{nil}
	for range cols {
		var more [][]int
		for _, row := range all {
			for n := -1; n <= 1; n++ {
				more = append(more, append(slices.Clone(row), n))
			}
		}
		all = more
	}
	return all
}

// alone returns shares of n things of which only thing i has one.
func alone(i, n, share int) []int {
	w := make([]int, n)
	w[i] = share
	return w
}

// drawnShares are shares of n things: each one alone, and some with small and some with great numbers.
func drawnShares(d *draw, n int) [][]int {
	var all [][]int
	for i := range n {
		all = append(all, alone(i, n, 1+d.below(impl.MaxShare)))
	}
	for _, most := range []int{1, 3, impl.MaxShare} {
		w := make([]int, n)
		for i := range w {
			w[i] = d.below(most + 1)
		}
		w[d.below(n)] = most
		all = append(all, w)
	}
	return all
}

// badShares are rows of numbers that are not shares of n things.
func badShares(n int) [][]int {
	all := [][]int{nil, {}, make([]int, n), make([]int, 1000)}
	for length := 1; length <= impl.MaxActs+1; length++ {
		if length != n {
			all = append(all, alone(0, length, 1), alone(length-1, length, 1))
		}
	}
	for i := range n {
		for _, share := range []int{-1, impl.MaxShare + 1, math.MinInt, math.MaxInt, -impl.MaxShare} {
			all = append(all, alone(i, n, share))
			w := slices.Repeat([]int{1}, n)
			w[i] = share
			all = append(all, w)
		}
	}
	return all
}

// squareTables are all tables with as many rows as columns with which the tests try what holds of each one.
func squareTables() [][][]int {
	isNoSquare := func(a [][]int) bool { return len(a) != len(a[0]) }
	return slices.DeleteFunc(mixTables(), isNoSquare)
}

// badSquares are tables that are not valid, and tables with more rows than columns, or fewer.
func badSquares() [][][]int {
	all := badTables()
	d := draw(16)
	for _, shape := range shapes() {
		if shape[0] != shape[1] {
			all = append(all, d.table(shape[0], shape[1], 0), d.table(shape[0], shape[1], 2))
		}
	}
	return all
}

// raised returns a table with as much added to all numbers.
func raised(a [][]int, more int) [][]int {
	b := cloned(a)
	for _, row := range b {
		for j := range row {
			row[j] += more
		}
	}
	return b
}

// mirrored returns a square in which the numbers below those of a row and a column that are the same are those above them.
func mirrored(a [][]int) [][]int {
	b := cloned(a)
	for i := range b {
		for j := range i {
			b[i][j] = b[j][i]
		}
	}
	return b
}

// fieldTables are all fields with which the tests try what holds of each one: with few numbers, with all, and tables of ones and of the greatest number.
func fieldTables() [][][]int {
	var all [][][]int
	for n := 1; n <= impl.MaxPay; n++ {
		all = append(all, [][]int{{n}})
	}
	for size := 1; size <= impl.MaxActs; size++ {
		all = append(all, sameSquare(1, size), sameSquare(impl.MaxPay, size))
	}
	for _, a := range smallTables(2, 2) {
		all = append(all, raised(a, 2))
	}
	for k, a := range smallTables(3, 3) {
		if k%29 == 0 {
			all = append(all, raised(a, 2))
		}
	}
	d := draw(19)
	for range 300 {
		all = append(all, raised(d.table(2, 2, 4), 5), raised(d.table(3, 3, 4), 5))
	}
	return all
}

// badFields are tables that are no squares, and squares in which one number or each one is less than 1.
func badFields() [][][]int {
	all := badSquares()
	d := draw(31)
	for _, shape := range shapes() {
		if shape[0] != shape[1] {
			all = append(all, raised(d.table(shape[0], shape[1], 0), 1), raised(d.table(shape[0], shape[1], 4), 5))
		}
	}
	for size := 1; size <= impl.MaxActs; size++ {
		for _, n := range []int{0, -1, -impl.MaxPay} {
			all = append(all, sameSquare(n, size))
			for place := range size * size {
				a := cloned(sameSquare(impl.MaxPay, size))
				a[place/size][place%size] = n
				all = append(all, a)
			}
		}
	}
	return all
}

// pairTables are all fields of two strategies.
func pairTables() [][][]int {
	var all [][][]int
	for k := range impl.MaxPay * impl.MaxPay * impl.MaxPay * impl.MaxPay {
		var n [4]int
		for i := range n {
			n[i] = 1 + k%impl.MaxPay
			k /= impl.MaxPay
		}
		all = append(all, [][]int{{n[0], n[1]}, {n[2], n[3]}})
	}
	return all
}

// badPairs are tables that are no fields, and fields of one strategy and of three.
func badPairs() [][][]int {
	all := badFields()
	for _, a := range fieldTables() {
		if len(a) != 2 {
			all = append(all, a)
		}
	}
	for place := range 4 {
		for _, n := range []int{impl.MaxPay + 1, math.MaxInt, math.MinInt} {
			a := [][]int{{1, 1}, {1, 1}}
			a[place/2][place%2] = n
			all = append(all, a)
		}
	}
	return append(all, [][]int{{1, 2}, {3}}, [][]int{{1}, {2, 3}}, [][]int{{1, 2}}, [][]int{{1}, {2}}, [][]int{{1, 2}, {3, 4}, {5, 6}})
}

// bothExchanged returns a table of two strategies with the first one as the second.
func bothExchanged(a [][]int) [][]int {
	return [][]int{{a[1][1], a[1][0]}, {a[0][1], a[0][0]}}
}

// compositions are all rows of numbers of at least 1 with the sum n.
func compositions(n int) [][]int {
	if n == 0 {
		return [][]int{nil}
	}
	var all [][]int
	for last := 1; last <= n; last++ {
		for _, row := range compositions(n - last) {
			all = append(all, append(slices.Clone(row), last))
		}
	}
	return all
}

// grows reports whether a number of a row is greater than the one ahead of it.
func grows(row []int) bool {
	for i := 1; i < len(row); i++ {
		if row[i] > row[i-1] {
			return true
		}
	}
	return false
}

// sizeRows are all sizes of kinds of n things, that with the greater number at the first place where two differ first.
func sizeRows(n int) [][]int {
	all := slices.DeleteFunc(compositions(n), grows)
	slices.SortFunc(all, func(a, b []int) int { return slices.Compare(b, a) })
	return all
}

// allSizeRows are all sizes of kinds that are valid.
func allSizeRows() [][]int {
	var all [][]int
	for n := 1; n <= impl.MaxUrn; n++ {
		all = append(all, sizeRows(n)...)
	}
	return all
}

// badParts are rows of numbers that are no sizes of kinds.
func badParts() [][]int {
	all := [][]int{
		nil,
		{},
		{0},
		{-1},
		{0, 0},
		{1, 0},
		{0, 1},
		{3, -1},
		{2, 0, 1},
		{5, 2, 0},
		{impl.MaxUrn, 0},
		{impl.MaxUrn, -1},
		{2, 1, 0, -1},
		{4, 4, -1},
		{impl.MaxUrn + 1},
		{impl.MaxUrn + 1, -1},
		{impl.MaxUrn, 1},
		{4, 4},
		{6, 1, 1},
		slices.Repeat([]int{1}, impl.MaxUrn+1),
		slices.Repeat([]int{1}, 1000),
		make([]int, 1000),
		{1, 2},
		{1, 1, 2},
		{3, 1, 2},
		{2, 3, 1},
		{1, 6},
		{math.MinInt},
		{math.MaxInt},
		{1, math.MaxInt},
		{1, math.MinInt},
		// All together these are few again, as sums of an int go round.
		{math.MaxInt, math.MaxInt, 3},
		{math.MaxInt, math.MaxInt, 2, 2},
		{math.MaxInt, math.MinInt, 4},
		{math.MaxInt/2 + 1, math.MaxInt/2 + 1, math.MaxInt/2 + 1, math.MaxInt/2 + 1, 3},
	}
	// Those of one thing too many, and all that are valid but for their order.
	all = append(all, sizeRows(impl.MaxUrn+1)...)
	for n := 1; n <= impl.MaxUrn; n++ {
		for _, row := range compositions(n) {
			if grows(row) {
				all = append(all, row)
			}
		}
	}
	return all
}

// membersOf are the members of a set, a sum of 2 to each of them, ascending.
func membersOf(set int) []int {
	var all []int
	for i := 0; set > 0; i++ {
		if set%2 == 1 {
			all = append(all, i)
		}
		set /= 2
	}
	return all
}

// allReached reports whether sets of neighbours lead from the place 0 to all places.
func allReached(g []int) bool {
	reached := 1
	for range g {
		for _, i := range membersOf(reached) {
			reached |= g[i]
		}
	}
	return reached == 1<<len(g)-1
}

// graphsOf are all graphs of n places.
func graphsOf(n int) [][]int {
	all := [][]int{make([]int, n)}
	for j := range n {
		for i := range j {
			for _, g := range all {
				more := slices.Clone(g)
				more[i] |= 1 << j
				more[j] |= 1 << i
				all = append(all, more)
			}
		}
	}
	return slices.DeleteFunc(all, func(g []int) bool { return !allReached(g) })
}

// allGraphs are all graphs that are valid.
func allGraphs() [][]int {
	var all [][]int
	for n := 2; n <= impl.MaxPlaces; n++ {
		all = append(all, graphsOf(n)...)
	}
	return all
}

// fullGraph returns the graph in which all of n places are neighbours of each other.
func fullGraph(n int) []int {
	g := make([]int, n)
	for i := range g {
		g[i] = 1<<n - 1 - 1<<i
	}
	return g
}

// starOf returns the graph of n places in which one place is the only neighbour of all others.
func starOf(n, middle int) []int {
	g := slices.Repeat([]int{1 << middle}, n)
	g[middle] = 1<<n - 1 - 1<<middle
	return g
}

// badGraphs are rows of numbers that are no graphs.
func badGraphs() [][]int {
	all := [][]int{
		nil,
		{},
		// Fewer than 2 places, or more than MaxPlaces.
		{0},
		{1},
		{2},
		{2, 5, 10, 20, 40, 16},
		{34, 5, 10, 20, 40, 17},
		fullGraph(impl.MaxPlaces + 1),
		starOf(impl.MaxPlaces+1, 0),
		starOf(63, 5),
		make([]int, 1000),
		slices.Repeat([]int{2}, 1000),
		// A place that is its own neighbour.
		{3, 1},
		{2, 3},
		{3, 3},
		{1, 2},
		{2, 7, 2},
		{15, 1, 1, 1},
		{2, 5, 10, 20, 24},
		// A neighbour that is not one in turn.
		{2, 0},
		{0, 1},
		{2, 4, 1},
		{4, 1, 2},
		{6, 1, 3},
		{6, 5, 1},
		{14, 1, 1, 0},
		{0, 1, 1, 1},
		{2, 5, 10, 20, 0},
		{2, 5, 10, 4, 8},
		// Places that are not there.
		{4, 1},
		{6, 1},
		{2, 5},
		{2, 9},
		{2, 5, 10},
		{2, 13, 2},
		{14, 1, 1, 17},
		{2, 5, 10, 20, 40},
		{2 + 1<<62, 1},
		// Numbers below 0.
		{-1, 1},
		{2, -1},
		{-2, 1},
		{-2, -3},
		{-2, -3, -5},
		{math.MinInt + 2, 1},
		{math.MinInt, 0},
		{math.MaxInt, math.MaxInt},
		{math.MaxInt - 1, 1},
		// Places that are not reached.
		{0, 0},
		{0, 0, 0},
		{2, 1, 0},
		{0, 4, 2},
		{4, 0, 1},
		{2, 1, 8, 4},
		{8, 4, 2, 1},
		{6, 5, 3, 0},
		{0, 0, 0, 0, 0},
		{2, 1, 24, 20, 12},
		{6, 5, 3, 16, 8},
		{0, 28, 26, 22, 14},
		{14, 13, 11, 7, 0},
	}
	return all
}

// weightRows are weights of n places: none at all, the greatest, that of one place alone, and drawn ones.
func weightRows(d *draw, n int) [][]int {
	drawn := make([]int, n)
	for i := range drawn {
		drawn[i] = d.below(impl.MaxShare + 1)
	}
	return [][]int{make([]int, n), slices.Repeat([]int{impl.MaxShare}, n), alone(d.below(n), n, 1), drawn}
}

// badWeights are rows of numbers that are no weights of n places.
func badWeights(n int) [][]int {
	all := [][]int{nil, {}, slices.Repeat([]int{1}, n-1), slices.Repeat([]int{1}, n+1), make([]int, 1000)}
	for i := range n {
		for _, weight := range []int{math.MinInt, -impl.MaxShare, -1, impl.MaxShare + 1, math.MaxInt} {
			w := slices.Repeat([]int{1}, n)
			w[i] = weight
			all = append(all, w, alone(i, n, weight))
		}
	}
	return all
}

// badSets are numbers that are no sets of n places.
func badSets(n int) []int {
	return []int{math.MinInt, -1 << n, -2, -1, 1 << n, 1<<n + 1, 1<<(n+1) - 1, 1 << 62, math.MaxInt}
}

// fewSeats is the least number of places of a ring.
const fewSeats = 3

// ringsOf are all rings of n places with some strategies.
func ringsOf(n, strategies int) [][]int {
	all := [][]int{nil}
	for range n {
		var more [][]int
		for _, ring := range all {
			for i := range strategies {
				more = append(more, append(slices.Clone(ring), i))
			}
		}
		all = more
	}
	return all
}

// ring returns a ring of n places with some strategies.
func (d *draw) ring(n, strategies int) []int {
	ring := make([]int, n)
	for i := range ring {
		ring[i] = d.below(strategies)
	}
	return ring
}

// beats is a table in which each of three strategies beats one of the others.
func beats() [][]int {
	return [][]int{{0, -1, 1}, {1, 0, -1}, {-1, 1, 0}}
}

// dilemma is a table in which the strategy 1 always has more, and two of the strategy 0 have more than two of the strategy 1.
func dilemma() [][]int {
	return [][]int{{3, 0}, {5, 1}}
}

// forRings calls a function with tables and rings with which the tests try what holds of each one: all rings with some tables, and some rings with all.
func forRings(try func(a [][]int, ring []int)) {
	d := draw(34)
	tables := [][][]int{{{-1}}, dilemma(), beats(), sameSquare(0, 2), sameSquare(-4, 3), {{-2, 3, -8}, {4, 9, -9}, {6, -3, -8}}}
	for range 30 {
		tables = append(tables, d.table(2, 2, 1), d.table(2, 2, impl.MaxPay))
	}
	tables = append(tables, d.table(3, 3, 2), d.table(3, 3, impl.MaxPay))
	for _, a := range tables {
		for n := fewSeats; n <= impl.MaxRing; n++ {
			for _, ring := range ringsOf(n, len(a)) {
				try(a, ring)
			}
		}
	}
	for _, a := range squareTables() {
		for n := fewSeats; n <= impl.MaxRing; n++ {
			try(a, slices.Repeat([]int{d.below(len(a))}, n))
			try(a, d.ring(n, len(a)))
		}
	}
}

// badRings are rows of numbers that are no rings of some strategies.
func badRings(strategies int) [][]int {
	all := [][]int{nil, {}, {0}, {0, 0}, {0, strategies - 1}, make([]int, impl.MaxRing+1), make([]int, 1000)}
	for n := fewSeats; n <= impl.MaxRing; n++ {
		for i := range n {
			for _, strategy := range []int{math.MinInt, -1, strategies, strategies + 1, math.MaxInt} {
				ring := make([]int, n)
				ring[i] = strategy
				all = append(all, ring)
			}
		}
	}
	return all
}

// tally counts of how many things something holds, and of how many it does not.
type tally struct{ held, failed int }

// add counts one thing more.
func (c *tally) add(holds bool) {
	if holds {
		c.held++
	} else {
		c.failed++
	}
}

// check fails if something holds of too few things, or fails of too few, to be tried well.
func (c *tally) check(t *testing.T, least int) {
	t.Helper()
	if c.held < least || c.failed < least {
		t.Errorf("it holds of %d things, and of %d not", c.held, c.failed)
	}
}

// echo is a machine that begins with 0 and then does what the other one did.
func echo() impl.Moore {
	return impl.Moore{Acts: []int{0, 1}, Next: [][]int{{0, 1}, {0, 1}}}
}

// always is a machine of one state, which does the same for ever.
func always(act int) impl.Moore {
	return impl.Moore{Acts: []int{act}, Next: [][]int{{0, 0}}}
}

// flip is a machine that does 1 and 0 by turns, whatever the other one does.
func flip() impl.Moore {
	return impl.Moore{Acts: []int{1, 0}, Next: [][]int{{1, 1}, {0, 0}}}
}

// grim is a machine that does 0 until the other one does 1, and then 1 for ever.
func grim() impl.Moore {
	return impl.Moore{Acts: []int{0, 1}, Next: [][]int{{0, 1}, {1, 1}}}
}

// clonedMoore returns a copy of a machine that shares nothing with it.
func clonedMoore(m impl.Moore) impl.Moore {
	return impl.Moore{Acts: slices.Clone(m.Acts), Next: cloned(m.Next)}
}

// sameMoore reports whether two machines have the same states.
func sameMoore(m, o impl.Moore) bool {
	return slices.Equal(m.Acts, o.Acts) && sameRows(m.Next, o.Next)
}

// mooreOf returns the machine of n states that a number tells, digit by digit.
func mooreOf(n, number int) impl.Moore {
	var m impl.Moore
	digit := func(size int) int {
		last := number % size
		number /= size
		return last
	}
	for range n {
		m.Acts = append(m.Acts, digit(2))
		m.Next = append(m.Next, []int{digit(n), digit(n)})
	}
	return m
}

// manyMoores tells how many machines of n states there are.
func manyMoores(n int) int {
	many := 1
	for range n {
		many *= 2 * n * n
	}
	return many
}

// mooresOf are all machines of n states.
func mooresOf(n int) []impl.Moore {
	all := make([]impl.Moore, manyMoores(n))
	for number := range all {
		all[number] = mooreOf(n, number)
	}
	return all
}

// moore returns one of the machines of n states.
func (d *draw) moore(n int) impl.Moore {
	return mooreOf(n, d.below(manyMoores(n)))
}

// smallMoores are all machines of one state and of two.
func smallMoores() []impl.Moore {
	return slices.Concat(mooresOf(1), mooresOf(2))
}

// allMoores are the machines with which the tests try what holds of each one: all of up to three states, and some of four.
func allMoores() []impl.Moore {
	all := slices.Concat(smallMoores(), mooresOf(3))
	d := draw(40)
	for range 3000 {
		all = append(all, d.moore(impl.MaxStates))
	}
	return all
}

// twoActTables are tables of two acts: all with numbers in -1..1, and some with greater ones.
func twoActTables() [][][]int {
	all := append(smallTables(2, 2), dilemma(), sameSquare(impl.MaxPay, 2), sameSquare(-impl.MaxPay, 2))
	d := draw(41)
	for range 60 {
		all = append(all, d.table(2, 2, 3), d.table(2, 2, impl.MaxPay))
	}
	return all
}

// forMeetings calls a function with two machines with which the tests try what holds of each two: all of up to two states, and some of up to four.
func forMeetings(try func(m, o impl.Moore)) {
	for _, m := range smallMoores() {
		for _, o := range smallMoores() {
			try(m, o)
		}
	}
	d := draw(42)
	for range 6000 {
		try(d.moore(1+d.below(impl.MaxStates)), d.moore(1+d.below(impl.MaxStates)))
	}
	for range 2000 {
		try(d.moore(impl.MaxStates), d.moore(impl.MaxStates))
	}
}

// badMoores are machines that are not valid.
func badMoores() []impl.Moore {
	stay := []int{0, 0}
	all := []impl.Moore{
		// No states, and more than MaxStates.
		{},
		{Acts: []int{}, Next: [][]int{}},
		{Acts: make([]int, impl.MaxStates+1), Next: slices.Repeat([][]int{stay}, impl.MaxStates+1)},
		{Acts: make([]int, 1000), Next: slices.Repeat([][]int{stay}, 1000)},
		// More acts than states, or fewer.
		{Acts: []int{0}},
		{Next: [][]int{stay}},
		{Acts: []int{0, 1}, Next: [][]int{stay}},
		{Acts: []int{0}, Next: [][]int{stay, stay}},
		{Acts: []int{0, 1, 0, 1}, Next: [][]int{stay, stay, stay}},
		{Acts: []int{0, 1, 0}, Next: [][]int{stay, stay, stay, stay}},
		{Acts: make([]int, impl.MaxStates), Next: slices.Repeat([][]int{stay}, impl.MaxStates+1)},
		{Acts: make([]int, impl.MaxStates+1), Next: slices.Repeat([][]int{stay}, impl.MaxStates)},
		{Acts: make([]int, 1000), Next: [][]int{stay}},
	}
	d := draw(43)
	for n := 1; n <= impl.MaxStates; n++ {
		for state := range n {
			for _, act := range []int{math.MinInt, -1, 2, 3, math.MaxInt} {
				m := d.moore(n)
				m.Acts[state] = act
				all = append(all, m)
			}
			for _, to := range []int{math.MinInt, -1, n, n + 1, math.MaxInt} {
				for act := range 2 {
					m := d.moore(n)
					m.Next[state][act] = to
					all = append(all, m)
				}
			}
			for _, next := range [][]int{nil, {}, {0}, {n - 1}, {0, 0, 0}, {0, n - 1, 0, 0}, make([]int, 1000)} {
				m := d.moore(n)
				m.Next[state] = next
				all = append(all, m)
			}
		}
	}
	return all
}

// notOfTwoActs are tables that are no squares, and squares that are not of two acts.
func notOfTwoActs() [][][]int {
	d := draw(44)
	return append(badSquares(), [][]int{{0}}, [][]int{{impl.MaxPay}}, sameSquare(0, 3), sameSquare(1, 3), dilemma()[:1], d.table(3, 3, impl.MaxPay), beats())
}

// guardedMoore is a machine laid out so that each change around it can be seen.
type guardedMoore struct {
	machine    impl.Moore
	acts, next guard
}

// guardMoore returns a copy of a machine laid out so.
func guardMoore(m impl.Moore) guardedMoore {
	acts, next := guarded([][]int{m.Acts}), guarded(m.Next)
	return guardedMoore{machine: impl.Moore{Acts: acts.table[0], Next: next.table}, acts: acts, next: next}
}

// unchanged reports whether the machine is as it was.
func (g guardedMoore) unchanged() bool {
	return g.acts.unchanged() && g.next.unchanged()
}

// pennies is a game in which the first player wants both acts to be the same, and the second one does not.
func pennies() impl.Game {
	a := [][]int{{1, -1}, {-1, 1}}
	return impl.Game{A: a, B: otherSign(a)}
}

// clockwise is a game of two rows and two columns in which each player in turn has more by the other act, from each pair on.
func clockwise() impl.Game {
	return impl.Game{A: [][]int{{1, 0}, {0, 1}}, B: [][]int{{0, 2}, {2, 0}}}
}

// noRestGames are games of which no reply ends: from each pair on someone has more by another act.
func noRestGames() []impl.Game {
	beaten := impl.Game{A: beats(), B: otherSign(beats())}
	wide := impl.Game{A: [][]int{{2, 0, 0}, {0, 2, 1}}, B: [][]int{{0, 2, 2}, {2, 0, 0}}}
	return []impl.Game{pennies(), exchanged(pennies()), clockwise(), beaten, exchanged(beaten), wide, exchanged(wide)}
}

// roundAndRest is a game with a pair at which both rest, and with others from which replies do not come to it.
func roundAndRest() impl.Game {
	return impl.Game{A: [][]int{{1, -1, -9}, {-1, 1, -9}, {-9, -9, 9}}, B: [][]int{{-1, 1, -9}, {1, -1, -9}, {-9, -9, 9}}}
}

// moveGames are games with which the tests try what holds of replies and of learning: also those of which no reply ends, and tables against the same with the other signs.
func moveGames() []impl.Game {
	all := append(slices.Concat(allGames(), noRestGames()), roundAndRest(), ofBoth(dilemma()), exchanged(roundAndRest()))
	for _, a := range drawnTables() {
		all = append(all, impl.Game{A: a, B: otherSign(a)})
	}
	return all
}

// costs returns costs of n states in 0..most.
func (d *draw) costs(n, most int) [][]int {
	c := make([][]int, n)
	for i := range c {
		for range n {
			c[i] = append(c[i], d.below(most+1))
		}
	}
	return c
}

// costsLike are all costs of n states with ways to other ones in 0..most, and with any ways from a state to itself.
func costsLike(d *draw, n, most int) [][][]int {
	var all [][][]int
	forRowsOf(n*(n-1), 0, most, func(row []int) {
		c, at := d.costs(n, impl.MaxCost), 0
		for i := range c {
			for j := range c[i] {
				if j != i {
					c[i][j] = row[at]
					at++
				}
			}
		}
		all = append(all, c)
	})
	return all
}

// allCosts are all costs with which the tests try what holds of each one: all of one state and of two, all with small numbers, and some with great ones.
func allCosts() [][][]int {
	d := draw(45)
	var all [][][]int
	for cost := range impl.MaxCost + 1 {
		all = append(all, [][]int{{cost}})
	}
	all = append(all, costsLike(&d, 2, impl.MaxCost)...)
	all = append(all, costsLike(&d, 3, 2)...)
	all = append(all, costsLike(&d, 4, 1)...)
	for n := 1; n <= impl.MaxStates; n++ {
		all = append(all, d.costs(n, 0), filledCosts(n, 1), filledCosts(n, impl.MaxCost))
		for _, most := range []int{2, 3, 5, impl.MaxCost} {
			for range 200 * n {
				all = append(all, d.costs(n, most))
			}
		}
	}
	return all
}

// filledCosts returns costs of n states that are all the same.
func filledCosts(n, cost int) [][]int {
	c := make([][]int, n)
	for i := range c {
		c[i] = slices.Repeat([]int{cost}, n)
	}
	return c
}

// badCosts are rows that are no costs.
func badCosts() [][][]int {
	all := [][][]int{
		nil,
		{},
		{nil},
		{{}},
		{{}, {}},
		filledCosts(impl.MaxStates+1, 0),
		filledCosts(impl.MaxStates+1, 1),
		make([][]int, 1000),
		{make([]int, 1000)},
	}
	d := draw(46)
	for n := 1; n <= impl.MaxStates; n++ {
		all = append(all, make([][]int, n))
		if n > 1 {
			all = append(all, d.costs(n, 3)[:n-1], d.costs(n, 3)[1:])
		}
		all = append(all, append(d.costs(n, 3), make([]int, n)))
		for i := range n {
			for _, row := range [][]int{nil, {}, make([]int, n-1), make([]int, n+1), make([]int, 1000)} {
				c := d.costs(n, 3)
				c[i] = row
				all = append(all, c)
			}
			for j := range n {
				for _, cost := range []int{math.MinInt, -impl.MaxCost, -1, impl.MaxCost + 1, math.MaxInt} {
					c := d.costs(n, 3)
					c[i][j] = cost
					all = append(all, c)
				}
			}
		}
	}
	return all
}

// notBelow are numbers that are none of the n numbers from 0 on.
func notBelow(n int) []int {
	return []int{math.MinInt, -n, -1, n, n + 1, math.MaxInt}
}

// parentsFor are all rows of parents that person i may have.
func parentsFor(i int) [][]int {
	all := [][]int{{-1, -1}}
	for first := range i {
		for second := range i {
			if first != second {
				all = append(all, []int{first, second})
			}
		}
	}
	return all
}

// folkOf are all n people, with any parents.
func folkOf(n int) [][][]int {
	all := [][][]int{nil}
	for i := range n {
		var more [][][]int
		for _, folk := range all {
			for _, parents := range parentsFor(i) {
				more = append(more, append(cloned(folk), slices.Clone(parents)))
			}
		}
		all = more
	}
	return all
}

// allFolk are all people that are valid, of any number.
func allFolk() [][][]int {
	var all [][][]int
	for n := 1; n <= impl.MaxFolk; n++ {
		all = append(all, folkOf(n)...)
	}
	return all
}

// folk returns n people with drawn parents.
func (d *draw) folk(n int) [][]int {
	var folk [][]int
	for i := range n {
		parents := parentsFor(i)
		folk = append(folk, parents[d.below(len(parents))])
	}
	return folk
}

// badParents are rows that are no parents of person i of n.
func badParents(i, n int) [][]int {
	all := [][]int{
		nil,
		{},
		{-1},
		{0},
		{-1, -1, -1},
		{0, 1, 2},
		make([]int, 1000),
		slices.Repeat([]int{-1}, 1000),
		{-2, -2},
		{-2, -1},
		{-1, -2},
		{-i - 1, -i - 2},
		{math.MinInt, math.MaxInt},
		{math.MaxInt, math.MinInt},
		// Those who are not ahead.
		{i, i},
		{i, n - 1},
		{i, i + 1},
		{i + 1, i},
		{n, n + 1},
		// One parent alone, who is not ahead.
		{-1, i},
		{i, -1},
	}
	for first := range i {
		// One parent alone, and the same one twice.
		all = append(all, []int{first}, []int{first, -1}, []int{-1, first}, []int{first, first})
		for _, other := range []int{math.MinInt, -n, -2, i, i + 1, n, math.MaxInt} {
			all = append(all, []int{first, other}, []int{other, first})
		}
		all = append(all, []int{first, (first + 1) % i, -1}, []int{-1, first, (first + 1) % i})
	}
	return all
}

// badFolk are rows that are no people.
func badFolk() [][][]int {
	unknown := []int{-1, -1}
	all := [][][]int{
		// No people, or more than MaxFolk.
		nil,
		{},
		slices.Repeat([][]int{unknown}, impl.MaxFolk+1),
		append(slices.Repeat([][]int{unknown}, impl.MaxFolk), []int{0, 1}),
		slices.Repeat([][]int{unknown}, 1000),
		make([][]int, 1000),
	}
	d := draw(52)
	for n := 1; n <= impl.MaxFolk; n++ {
		all = append(all, make([][]int, n), slices.Repeat([][]int{{0, 0}}, n), slices.Repeat([][]int{{0, 1}}, n))
		for i := range n {
			for _, parents := range badParents(i, n) {
				strangers, kin := slices.Repeat([][]int{unknown}, n), d.folk(n)
				strangers[i], kin[i] = parents, parents
				all = append(all, strangers, kin)
			}
		}
	}
	return all
}

// traits returns rows of traits in -most..most, with some children.
func (d *draw) traits(rows, most int) [][]int {
	var all [][]int
	born := 0
	for range rows {
		children := d.below(most + 1)
		all = append(all, []int{d.below(2*most+1) - most, children, d.below(2*most+1) - most})
		born += children
	}
	if born == 0 {
		all[d.below(rows)][1] = most
	}
	return all
}

// traitRows are rows of traits with which the tests try what holds of each one: all of one row, all of two with small numbers, and some of each number of rows.
func traitRows() [][][]int {
	var all [][][]int
	for trait := -impl.MaxPay; trait <= impl.MaxPay; trait++ {
		for theirs := -impl.MaxPay; theirs <= impl.MaxPay; theirs++ {
			for children := 1; children <= impl.MaxPay; children++ {
				all = append(all, [][]int{{trait, children, theirs}})
			}
		}
	}
	forRowsOf(6, 0, 2, func(row []int) {
		if row[1]+row[4] > 0 {
			all = append(all, [][]int{{row[0] - 1, row[1], row[2] - 1}, {row[3] - 1, row[4], row[5] - 1}})
		}
	})
	d := draw(53)
	for rows := 1; rows <= impl.MaxFolk; rows++ {
		for _, most := range []int{1, 2, 4, impl.MaxPay} {
			for range 300 {
				all = append(all, d.traits(rows, most))
			}
		}
	}
	return all
}

// badTraits are rows that are no rows of traits with some children.
func badTraits() [][][]int {
	all := [][][]int{
		// No rows, or more than MaxFolk.
		nil,
		{},
		slices.Repeat([][]int{{1, 1, 1}}, impl.MaxFolk+1),
		slices.Repeat([][]int{{0, 0, 0}}, impl.MaxFolk+1),
		slices.Repeat([][]int{{1, 1, 1}}, 1000),
		make([][]int, 1000),
	}
	d := draw(54)
	for rows := 1; rows <= impl.MaxFolk; rows++ {
		// No children.
		all = append(all, make([][]int, rows), slices.Repeat([][]int{{0, 0, 0}}, rows), slices.Repeat([][]int{{3, 0, -4}}, rows))
		for i := range rows {
			for _, row := range [][]int{nil, {}, {1}, {1, 1}, {1, 1, 1, 1}, make([]int, 1000)} {
				a := d.traits(rows, 3)
				a[i] = row
				all = append(all, a)
			}
			for at, least := range []int{-impl.MaxPay, 0, -impl.MaxPay} {
				for _, n := range []int{math.MinInt, least - 2, least - 1, impl.MaxPay + 1, impl.MaxPay + 2, math.MaxInt} {
					a := d.traits(rows, 3)
					a[i][at] = n
					all = append(all, a)
				}
			}
		}
	}
	// Traits count also in a row without children, if others have some.
	return append(all,
		[][]int{{1, 2, 3}, {impl.MaxPay + 1, 0, 0}}, [][]int{{-impl.MaxPay - 1, 0, 0}, {1, 2, 3}},
		[][]int{{1, 2, 3}, {0, 0, impl.MaxPay + 1}}, [][]int{{0, 0, -impl.MaxPay - 1}, {1, 2, 3}},
		// More children in one row make no fewer than 0 in another one.
		[][]int{{1, 5, 1}, {1, -1, 1}}, [][]int{{1, -1, 1}, {1, 1, 1}},
	)
}

// plainTalk is a talk in which who speaks, of either type, and who hears want the same act, another one for each type, and talk is free.
func plainTalk() impl.Talk {
	return impl.Talk{Weights: []int{1, 1}, Speaks: [][]int{{1, 0}, {0, 1}}, Hears: [][]int{{1, 0}, {0, 1}}, Costs: [][]int{{0, 0}, {0, 0}}}
}

// sameWish is a talk in which both types want the act 1, who hears wants it for the type 1 only, and talk is free.
func sameWish() impl.Talk {
	return impl.Talk{Weights: []int{1, 1}, Speaks: [][]int{{0, 1}, {0, 1}}, Hears: [][]int{{1, 0}, {0, 1}}, Costs: [][]int{{0, 0}, {0, 0}}}
}

// disguise is a talk without rests: each type wants to be taken for the other one, and a signal of its own costs it nothing.
func disguise() impl.Talk {
	return impl.Talk{Weights: []int{1, 2}, Speaks: [][]int{{0, 3}, {3, 0}}, Hears: [][]int{{1, 0}, {0, 1}}, Costs: [][]int{{0, 1}, {1, 0}}}
}

// withCosts returns a talk with other costs.
func withCosts(talk impl.Talk, costs [][]int) impl.Talk {
	talk.Costs = costs
	return talk
}

// freeOf returns a talk with no costs.
func freeOf(talk impl.Talk) impl.Talk {
	return withCosts(talk, [][]int{{0, 0}, {0, 0}})
}

// clonedTalk returns a copy of a talk that shares nothing with it.
func clonedTalk(talk impl.Talk) impl.Talk {
	return impl.Talk{Weights: slices.Clone(talk.Weights), Speaks: cloned(talk.Speaks), Hears: cloned(talk.Hears), Costs: cloned(talk.Costs)}
}

// sameTalk reports whether two talks have the same numbers.
func sameTalk(talk, other impl.Talk) bool {
	return slices.Equal(talk.Weights, other.Weights) && sameRows(talk.Speaks, other.Speaks) && sameRows(talk.Hears, other.Hears) && sameRows(talk.Costs, other.Costs)
}

// talk returns a talk with numbers up to a size.
func (d *draw) talk(size int) impl.Talk {
	return impl.Talk{Weights: []int{1 + d.below(size), 1 + d.below(size)}, Speaks: d.table(2, 2, size), Hears: d.table(2, 2, size), Costs: d.costs(2, size)}
}

// alikeTalks returns a talk, and it with no costs, with signals that cost the same, with types that want the same, with who hears who does not care, and with all of these.
func alikeTalks(talk impl.Talk) []impl.Talk {
	evenly, wish, careless := clonedTalk(talk), clonedTalk(talk), clonedTalk(talk)
	for kind := range 2 {
		evenly.Costs[kind][1] = evenly.Costs[kind][0]
		careless.Hears[kind][1] = careless.Hears[kind][0]
	}
	wish.Speaks[1] = slices.Clone(wish.Speaks[0])
	wishEvenly := withCosts(clonedTalk(wish), cloned(evenly.Costs))
	all := impl.Talk{Weights: []int{1, 1}, Speaks: cloned(wish.Speaks), Hears: cloned(careless.Hears), Costs: cloned(evenly.Costs)}
	return []impl.Talk{talk, freeOf(talk), evenly, wish, freeOf(wish), wishEvenly, careless, freeOf(careless), all, freeOf(all)}
}

// smallTalks are all talks with the numbers 0 and 1, and with some weights.
func smallTalks() []impl.Talk {
	var all []impl.Talk
	forRowsOf(12, 0, 1, func(row []int) {
		table := func(at int) [][]int {
			return [][]int{slices.Clone(row[at : at+2]), slices.Clone(row[at+2 : at+4])}
		}
		for _, weights := range [][]int{{1, 1}, {1, 2}, {impl.MaxPay, 1}} {
			all = append(all, impl.Talk{Weights: slices.Clone(weights), Speaks: table(0), Hears: table(4), Costs: table(8)})
		}
	})
	return all
}

// allTalks are all talks with which the tests try what holds of each one: all with the numbers 0 and 1, and some with greater ones.
func allTalks() []impl.Talk {
	all := append(smallTalks(), plainTalk(), sameWish(), disguise())
	d := draw(61)
	for _, size := range []int{1, 2, 4, impl.MaxPay} {
		for range 400 {
			all = append(all, alikeTalks(d.talk(size))...)
		}
	}
	return all
}

// badPairsOf are rows that are not two numbers in least..MaxPay.
func badPairsOf(d *draw, least int) [][]int {
	all := [][]int{nil, {}, {1}, {impl.MaxPay}, {1, 1, 1}, {1, 2, 3, 4}, slices.Repeat([]int{1}, 1000)}
	for _, n := range []int{math.MinInt, least - impl.MaxPay, least - 1, impl.MaxPay + 1, 2 * impl.MaxPay, math.MaxInt} {
		good := least + d.below(impl.MaxPay+1-least)
		all = append(all, []int{n, good}, []int{good, n}, []int{n, n})
	}
	return all
}

// badTwoRows are rows that are not two, of two numbers in least..MaxPay each.
func badTwoRows(d *draw, least int) [][][]int {
	all := [][][]int{nil, {}, {nil}, {{}, {}}, {{1, 1}}, {nil, {1, 1}}, {{1, 1, 1, 1}}, {{1, 1}, {1, 1}, {1, 1}}, {{1, 1}, {1, 1}, nil}, {{1, 1}, {1, 1}, {}}, slices.Repeat([][]int{{1, 1}}, 1000), make([][]int, 2), make([][]int, 1000)}
	for _, row := range badPairsOf(d, least) {
		all = append(all, [][]int{row, {1, 1}}, [][]int{{1, 1}, row}, [][]int{slices.Clone(row), row})
	}
	return all
}

// badTalks are talks that are not valid.
func badTalks() []impl.Talk {
	d := draw(62)
	all := []impl.Talk{{}, {Weights: []int{}, Speaks: [][]int{}, Hears: [][]int{}, Costs: [][]int{}}}
	for _, good := range []impl.Talk{plainTalk(), sameWish(), d.talk(1), d.talk(impl.MaxPay)} {
		change := func(put func(talk *impl.Talk)) {
			talk := clonedTalk(good)
			put(&talk)
			all = append(all, talk)
		}
		for _, weights := range badPairsOf(&d, 1) {
			change(func(talk *impl.Talk) { talk.Weights = weights })
		}
		for _, rows := range badTwoRows(&d, -impl.MaxPay) {
			change(func(talk *impl.Talk) { talk.Speaks = rows })
			change(func(talk *impl.Talk) { talk.Hears = cloned(rows) })
		}
		for _, rows := range badTwoRows(&d, 0) {
			change(func(talk *impl.Talk) { talk.Costs = rows })
		}
	}
	return all
}

// guardedTalk is a talk laid out so that each change around it can be seen.
type guardedTalk struct {
	talk  impl.Talk
	parts []guard
}

// guardTalk returns a copy of a talk laid out so.
func guardTalk(talk impl.Talk) guardedTalk {
	weights, speaks, hears, costs := guarded([][]int{talk.Weights}), guarded(talk.Speaks), guarded(talk.Hears), guarded(talk.Costs)
	return guardedTalk{
		talk:  impl.Talk{Weights: weights.table[0], Speaks: speaks.table, Hears: hears.table, Costs: costs.table},
		parts: []guard{weights, speaks, hears, costs},
	}
}

// unchanged reports whether the talk is as it was.
func (g guardedTalk) unchanged() bool {
	return !slices.ContainsFunc(g.parts, func(part guard) bool { return !part.unchanged() })
}

// deskWords are all words of the desk.
func deskWords() []string {
	return []string{"value", "stable", "rests", "fixed", "lasting"}
}

// rowsText returns rows of numbers with commas between two numbers, and a / between two rows.
func rowsText(rows [][]int) string {
	var text strings.Builder
	for i, row := range rows {
		if i > 0 {
			text.WriteString("/")
		}
		for j, n := range row {
			if j > 0 {
				text.WriteString(",")
			}
			fmt.Fprint(&text, n)
		}
	}
	return text.String()
}

// deskLine returns the line of a word and rows.
func deskLine(word string, rows [][]int) string {
	return word + " " + rowsText(rows)
}

// rowsFor are, for each word of the desk, rows with which it is asked.
func rowsFor() map[string][][][]int {
	return map[string][][][]int{"value": mixTables(), "stable": squareTables(), "rests": squareTables(), "fixed": pairTables(), "lasting": allCosts()}
}

// rightLines are lines that are answered otherwise than by wrong or by what, with all words and shapes.
func rightLines() []string {
	return []string{
		"value 0", "value -9", "value 3,1/0,2", "value -3,-1/0,-2", "value 3,-2,-2", "value -4/-1/-1", "value 1,3,9/8,5,2", "value 0,-1,2/1,0,-3/-2,3,0",
		"stable 4", "stable 2,0/0,1", "stable -1,4/0,2", "stable 1,0,0/0,2,0/0,0,3",
		"rests -5", "rests 2,0/0,1", "rests -1,4/0,2", "rests 0,-1,1/1,0,-1/-1,1,0",
		"fixed 2,2/2,2", "fixed 1,3/2,1", "fixed 9,1/1,9",
		"lasting 0", "lasting 20", "lasting 0,4/1,0", "lasting 0,9,2/9,0,13/2,4,0", "lasting 0,1,20,10/20,0,1,9/1,20,0,8/20,20,20,0",
	}
}

// linesNear are all lines that come from a line by one byte more, less or other, or by two bytes exchanged.
func linesNear(line string) []string {
	const bytes = "0123456789-+,/ .xva_\n\t\r\x00\xff"
	near := []string{line}
	for at := range len(line) + 1 {
		for k := range len(bytes) {
			near = append(near, line[:at]+bytes[k:k+1]+line[at:])
			if at < len(line) {
				near = append(near, line[:at]+bytes[k:k+1]+line[at+1:])
			}
		}
		if at < len(line) {
			near = append(near, line[:at]+line[at+1:], line[:at], line[at:])
		}
		if at+1 < len(line) {
			near = append(near, line[:at]+line[at+1:at+2]+line[at:at+1]+line[at+2:])
		}
	}
	return near
}

// wrongTexts are texts without spaces that are no rows of numbers in decimal, or of numbers that none has.
func wrongTexts() []string {
	return []string{
		"", ",", "/", ",,", "//", "/,", ",/", "-", "--", "-,-", "-/-", "+", ".",
		"1,", ",1", "1,,1", "1/", "/1", "1//1", "1,/1", "1/,1", "1,1/1,1/", "/1,1/1,1", "1,1/1,1,", ",1,1/1,1", "1,1//1,1", "1,1,/1,1", "1,1/,1,1",
		"+1", "+0", "-0", "--1", "-+1", "+-1", "1-", "1-1", "01", "00", "-01", "007", "1,-0", "1,1/1,01", "1,1/1,+1", "0x1", "0b1", "0o1", "1e0", "1.", "1.0", ".5", "1_0", "1/1/",
		"1;1", "1:1", "1|1", "1\\1", "[1]", "{{1}}", "(1)", "\"1\"", "'1'", "x", "one", "1x", "x1", "a,b/c,d", "nil", "true", "1,x/1,1", "Inf", "NaN", "-Inf", "%d",
		"1\n", "\n1", "1,\n1", "1/\n1", "1\t", "\t1", "1\r", "1\r\n", "\n", "\t", "\x00", "1\x00", "\x00" + "1", "\xff", "1\xff", "\u00a01", "1\u00a0", "1,\u20031", "\ufeff1", "\u22121", "1\uff0c1", "\u0661", "\uff11", "\u00bd",
		"99", "-99", "1,1/1,99", "9223372036854775807", "-9223372036854775808", "9223372036854775808", "-9223372036854775809",
		"18446744073709551616", "18446744073709551617", "-18446744073709551615", "4294967297", "340282366920938463463374607431768211457", "00000000000000000000000000000001",
		"value", "value1", "wrong", "what",
	}
}

// whatLines are lines that are of no word of the desk.
func whatLines() []string {
	return []string{
		"", " ", "  ", "\n", "\t", "\x00", "\xff", "1", "1,2/3,4", " 1", "1 2", "-", "/", ",", "walk 1", "walk", "x", "x y", "x 1,1/1,1",
		"values 1", "rest 1", "fix 1,1/1,1", "last 0", "best 1", "mix 1", "what", "what 1", "wrong", "wrong 1", "value,stable 1", "value/stable 1",
		"value\n1", "value\t1", "\nvalue 1", "\tvalue 1", "\ufeffvalue 1", "value 1 ", "value  1", " value 1", "value 1\n value 2", "value 1 # one", "value -1 -1", "value - 1", "value 1 , 2", "value 1 / 2",
	}
}

// desks are rows of lines of all kinds, of up to as many as there may be.
func desks() [][]string {
	kinds := [][]string{rightLines(), rightLines(), whatLines(), nil}
	for _, word := range deskWords() {
		for _, text := range wrongTexts() {
			kinds[3] = append(kinds[3], word+" "+text)
		}
	}
	d := draw(66)
	var all [][]string
	for n := range impl.MaxDesk + 1 {
		for range 10 {
			desk := make([]string, n)
			for i := range desk {
				kind := kinds[d.below(len(kinds))]
				desk[i] = kind[d.below(len(kind))]
			}
			all = append(all, desk)
		}
	}
	return all
}

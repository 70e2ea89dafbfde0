package tests

import (
	"math/big"
	"slices"
	"testing"

	"loop.example/strategiesthatspread/impl"
)

// sibs are two strangers, two of their children, and the child of these.
func sibs() [][]int {
	return [][]int{{-1, -1}, {-1, -1}, {0, 1}, {1, 0}, {2, 3}}
}

// line are two strangers, their child, and each one more the child of the last one and the person 0.
func line() [][]int {
	return [][]int{{-1, -1}, {-1, -1}, {0, 1}, {2, 0}, {0, 3}, {4, 0}}
}

// marriages are three strangers, a child of the first two, one of the last two, and the child of these.
func marriages() [][]int {
	return [][]int{{-1, -1}, {-1, -1}, {-1, -1}, {0, 1}, {1, 2}, {3, 4}}
}

// households are two pairs of sisters and brothers, who are kin by both parents.
func households() [][]int {
	return [][]int{{-1, -1}, {-1, -1}, {0, 1}, {0, 1}, {2, 3}, {3, 2}}
}

// aunts are two strangers with two children, another stranger, and a child with one of these.
func aunts() [][]int {
	return [][]int{{-1, -1}, {-1, -1}, {0, 1}, {0, 1}, {-1, -1}, {3, 4}}
}

// strangers are n people without parents who are known.
func strangers(n int) [][]int {
	return slices.Repeat([][]int{{-1, -1}}, n)
}

func TestValidFolk(t *testing.T) {
	// Each one has parents who are not known, or two of those ahead, in both orders.
	for n, many := range []int{1, 1, 1, 3, 21, 273, 5733} {
		if got := len(folkOf(n)); got != many {
			t.Fatalf("%d people are tried in %d ways, not in %d", n, got, many)
		}
	}
	for _, folk := range allFolk() {
		if !impl.ValidFolk(folk) {
			t.Fatalf("ValidFolk(%v) = false", folk)
		}
	}
	for _, folk := range badFolk() {
		if impl.ValidFolk(folk) {
			t.Errorf("ValidFolk(%v) = true", folk)
		}
	}
}

func TestValidFolkOfAllRowsOfNumbers(t *testing.T) {
	for n := 1; n <= 3; n++ {
		valid, found := folkOf(n), 0
		forRowsOf(2*n, -2, n, func(row []int) {
			folk := make([][]int, n)
			for i := range folk {
				folk[i] = row[2*i : 2*i+2]
			}
			want := slices.ContainsFunc(valid, func(other [][]int) bool { return sameRows(other, folk) })
			if impl.ValidFolk(folk) != want {
				t.Fatalf("ValidFolk(%v) = %v", folk, !want)
			}
			if want {
				found++
			}
		})
		if found != len(valid) {
			t.Errorf("%d people are valid in %d ways, not %d", n, found, len(valid))
		}
	}
}

// kinCase is the kinship of two people.
type kinCase struct {
	folk     [][]int
	i, j     int
	up, down int
}

// knownKin are told by hand.
func knownKin() []kinCase {
	return []kinCase{
		// People without parents.
		{strangers(1), 0, 0, 1, 2},
		{strangers(2), 0, 1, 0, 1},
		{strangers(impl.MaxFolk), 5, 5, 1, 2},
		{strangers(impl.MaxFolk), 2, 5, 0, 1},
		{aunts(), 4, 0, 0, 1},
		{aunts(), 4, 3, 0, 1},
		{aunts(), 4, 4, 1, 2},
		// A parent, both ways, and parents of parents.
		{sibs(), 0, 2, 1, 4},
		{sibs(), 2, 1, 1, 4},
		{sibs(), 4, 0, 1, 4},
		{aunts(), 5, 3, 1, 4},
		{aunts(), 5, 4, 1, 4},
		{aunts(), 5, 0, 1, 8},
		{marriages(), 5, 0, 1, 8},
		{marriages(), 5, 1, 1, 4},
		{marriages(), 2, 5, 1, 8},
		// Children of the same parents, of one of these, and of sisters.
		{sibs(), 2, 3, 1, 4},
		{marriages(), 3, 4, 1, 8},
		{marriages(), 3, 2, 0, 1},
		{aunts(), 2, 5, 1, 8},
		{households(), 4, 5, 3, 8},
		// Parents that are kin.
		{sibs(), 2, 2, 1, 2},
		{sibs(), 4, 4, 5, 8},
		{sibs(), 4, 2, 3, 8},
		{marriages(), 5, 5, 9, 16},
		{marriages(), 3, 5, 5, 16},
		{households(), 4, 4, 5, 8},
		{line(), 3, 3, 5, 8},
		{line(), 3, 0, 3, 8},
		{line(), 3, 2, 3, 8},
		{line(), 3, 1, 1, 8},
		{line(), 4, 4, 11, 16},
		{line(), 4, 3, 1, 2},
		{line(), 5, 5, 23, 32},
		{line(), 5, 0, 15, 32},
		{line(), 5, 1, 1, 32},
	}
}

func TestKinOf(t *testing.T) {
	for _, c := range knownKin() {
		if got, ok := impl.KinOf(c.folk, c.i, c.j); !ok || !isFrac(got, big.NewRat(int64(c.up), int64(c.down))) {
			t.Errorf("KinOf(%v, %d, %d) = %v, %v, not %d/%d", c.folk, c.i, c.j, got, ok, c.up, c.down)
		}
	}
}

func TestKinByPaths(t *testing.T) {
	for _, c := range knownKin() {
		if got, ok := impl.KinByPaths(c.folk, c.i, c.j); !ok || !isFrac(got, big.NewRat(int64(c.up), int64(c.down))) {
			t.Errorf("KinByPaths(%v, %d, %d) = %v, %v, not %d/%d", c.folk, c.i, c.j, got, ok, c.up, c.down)
		}
	}
}

func TestInbredOf(t *testing.T) {
	for _, c := range []struct {
		folk        [][]int
		i, up, down int
	}{
		// Parents who are not known, or have no kinship.
		{strangers(1), 0, 0, 1},
		{strangers(impl.MaxFolk), 5, 0, 1},
		{sibs(), 1, 0, 1},
		{sibs(), 2, 0, 1},
		{marriages(), 4, 0, 1},
		{aunts(), 5, 0, 1},
		// Parents that are kin.
		{sibs(), 4, 1, 4},
		{marriages(), 5, 1, 8},
		{households(), 5, 1, 4},
		{line(), 3, 1, 4},
		{line(), 4, 3, 8},
		{line(), 5, 7, 16},
		{[][]int{{-1, -1}, {-1, -1}, {0, 1}, {0, 1}, {2, 3}, {4, 3}}, 5, 3, 8},
	} {
		if got, ok := impl.InbredOf(c.folk, c.i); !ok || !isFrac(got, big.NewRat(int64(c.up), int64(c.down))) {
			t.Errorf("InbredOf(%v, %d) = %v, %v, not %d/%d", c.folk, c.i, got, ok, c.up, c.down)
		}
	}
}

// forGenes calls a function with the two genes of each person, for each way to hand them on: from each parent who is known one of both, and others for all who have none.
func forGenes(folk [][]int, genes [][2]int, try func(genes [][2]int)) {
	i := len(genes)
	if i == len(folk) {
		try(genes)
		return
	}
	if folk[i][0] == -1 {
		forGenes(folk, append(genes, [2]int{2 * i, 2*i + 1}), try)
		return
	}
	for _, one := range genes[folk[i][0]] {
		for _, other := range genes[folk[i][1]] {
			forGenes(folk, append(genes, [2]int{one, other}), try)
		}
	}
}

// drawnKin tells how likely a gene of one person is the same as one of another one, and how likely both of a person are.
type drawnKin struct {
	kin    [impl.MaxFolk][impl.MaxFolk]int
	inbred [impl.MaxFolk]int
	ways   int
}

// same tells how many of two genes and two others are the same.
func same(genes, others [2]int) int {
	many := 0
	for _, gene := range genes {
		for _, other := range others {
			if gene == other {
				many++
			}
		}
	}
	return many
}

// kinByGenes counts kinship by the genes of all people, in all ways in which they are handed on.
func kinByGenes(folk [][]int) drawnKin {
	var drawn drawnKin
	forGenes(folk, make([][2]int, 0, impl.MaxFolk), func(genes [][2]int) {
		drawn.ways++
		for i := range genes {
			for j := range genes {
				drawn.kin[i][j] += same(genes[i], genes[j])
			}
			if genes[i][0] == genes[i][1] {
				drawn.inbred[i]++
			}
		}
	})
	return drawn
}

// of returns the kinship of two people.
func (d *drawnKin) of(i, j int) *big.Rat {
	return big.NewRat(int64(d.kin[i][j]), int64(4*d.ways))
}

// inbredOf returns the kinship of the parents of a person.
func (d *drawnKin) inbredOf(i int) *big.Rat {
	return big.NewRat(int64(d.inbred[i]), int64(d.ways))
}

func TestKinshipIsHowLikelyGenesAreTheSame(t *testing.T) {
	var kin, inbred tally
	for _, folk := range allFolk() {
		drawn := kinByGenes(folk)
		for i := range folk {
			want := drawn.inbredOf(i)
			if got, ok := impl.InbredOf(folk, i); !ok || !isFrac(got, want) {
				t.Fatalf("InbredOf(%v, %d) = %v, %v, not %v", folk, i, got, ok, want)
			}
			inbred.add(want.Sign() > 0)
			for j := range folk {
				want := drawn.of(i, j)
				if got, ok := impl.KinOf(folk, i, j); !ok || !isFrac(got, want) {
					t.Fatalf("KinOf(%v, %d, %d) = %v, %v, not %v", folk, i, j, got, ok, want)
				}
				if got, ok := impl.KinByPaths(folk, i, j); !ok || !isFrac(got, want) {
					t.Fatalf("KinByPaths(%v, %d, %d) = %v, %v, not %v", folk, i, j, got, ok, want)
				}
				kin.add(want.Sign() > 0)
			}
		}
	}
	kin.check(t, 1000)
	inbred.check(t, 1000)
}

func TestKinshipIsTheSameWithoutWhoComesLater(t *testing.T) {
	for n := 2; n < impl.MaxFolk; n++ {
		for _, folk := range folkOf(n) {
			less := folk[:n-1]
			for i := range less {
				if x, y := inbredOf(t, folk, i), inbredOf(t, less, i); x != y {
					t.Fatalf("InbredOf(%v, %d) = %v, and %v without the last one", folk, i, x, y)
				}
				for j := range less {
					if x, y := kinOf(t, folk, i, j), kinOf(t, less, i, j); x != y {
						t.Fatalf("KinOf(%v, %d, %d) = %v, and %v without the last one", folk, i, j, x, y)
					}
				}
			}
		}
	}
}

func TestKinshipIsTheSameWithBothParentsExchanged(t *testing.T) {
	for _, folk := range folkOf(5) {
		other := cloned(folk)
		for _, parents := range other {
			slices.Reverse(parents)
		}
		for i := range folk {
			for j := range folk {
				if x, y := kinOf(t, folk, i, j), kinOf(t, other, i, j); x != y {
					t.Fatalf("KinOf(%v, %d, %d) = %v, and of %v %v", folk, i, j, x, other, y)
				}
				if x, y := kinByPaths(t, folk, i, j), kinByPaths(t, other, i, j); x != y {
					t.Fatalf("KinByPaths(%v, %d, %d) = %v, and of %v %v", folk, i, j, x, other, y)
				}
			}
		}
	}
}

func TestHelpPays(t *testing.T) {
	for _, c := range []struct {
		folk             [][]int
		i, j, cost, gain int
		want             bool
	}{
		// Strangers, with no cost and the most gain.
		{strangers(2), 0, 1, 0, impl.MaxShare, false},
		{strangers(2), 1, 0, 0, 0, false},
		{aunts(), 4, 0, 0, impl.MaxShare, false},
		// Oneself.
		{strangers(1), 0, 0, 0, 0, false},
		{strangers(1), 0, 0, 0, 1, true},
		{strangers(1), 0, 0, impl.MaxShare, impl.MaxShare, false},
		{strangers(1), 0, 0, impl.MaxShare - 1, impl.MaxShare, true},
		{line(), 5, 5, 7, 7, false},
		{line(), 5, 5, 7, 8, true},
		// A child, a sister, a parent: twice as much.
		{sibs(), 0, 2, 5, 10, false},
		{sibs(), 0, 2, 5, 11, true},
		{sibs(), 2, 3, 500, 1000, false},
		{sibs(), 2, 3, 499, 999, true},
		{sibs(), 2, 0, 4, 8, false},
		{sibs(), 2, 0, 4, 9, true},
		// Children of sisters, and parents of parents: four times as much.
		{aunts(), 2, 5, 3, 12, false},
		{aunts(), 2, 5, 3, 13, true},
		{aunts(), 0, 5, 250, 1000, false},
		{aunts(), 0, 5, 249, 1000, true},
		// It is the kinship with oneself of the one who helps that counts: 5/8 and 1/2.
		{sibs(), 4, 2, 3, 5, false},
		{sibs(), 4, 2, 3, 6, true},
		{sibs(), 2, 4, 3, 4, false},
		{sibs(), 2, 4, 3, 5, true},
		{line(), 5, 1, 1, 23, false},
		{line(), 5, 1, 1, 24, true},
		{line(), 1, 5, 1, 16, false},
		{line(), 1, 5, 1, 17, true},
		// Without a cost, and without a gain.
		{sibs(), 2, 3, 0, 1, true},
		{sibs(), 2, 3, 0, 0, false},
		{sibs(), 2, 3, 1, 0, false},
		{line(), 1, 5, 0, 1, true},
	} {
		if got := impl.HelpPays(c.folk, c.i, c.j, c.cost, c.gain); got != c.want {
			t.Errorf("HelpPays(%v, %d, %d, %d, %d) = %v", c.folk, c.i, c.j, c.cost, c.gain, got)
		}
	}
}

// gainsFor are gains of help at a cost: the least, the greatest, and those about the one that is worth the cost, for the kinship of who helps with itself and with the other one.
func gainsFor(own, both *big.Rat, cost int) []int {
	all := []int{0, 1, cost, impl.MaxShare}
	if both.Sign() > 0 {
		even := times(cost, new(big.Rat).Quo(own, both))
		whole := int(new(big.Int).Quo(even.Num(), even.Denom()).Int64())
		all = append(all, whole-1, whole, whole+1)
	}
	return slices.DeleteFunc(all, func(gain int) bool { return gain < 0 || gain > impl.MaxShare })
}

func TestHelpPaysIfTheGainIsWorthMoreToWhoHelps(t *testing.T) {
	var pays tally
	d := draw(55)
	for _, folk := range allFolk() {
		drawn := kinByGenes(folk)
		for i := range folk {
			for j := range folk {
				own, both := drawn.of(i, i), drawn.of(i, j)
				for _, cost := range []int{d.below(20), d.below(impl.MaxShare + 1)} {
					for _, gain := range gainsFor(own, both, cost) {
						want := times(gain, both).Cmp(times(cost, own)) > 0
						if got := impl.HelpPays(folk, i, j, cost, gain); got != want {
							t.Fatalf("HelpPays(%v, %d, %d, %d, %d) = %v", folk, i, j, cost, gain, got)
						}
						pays.add(want)
					}
				}
			}
		}
	}
	pays.check(t, 1000)
}

func TestTraitChange(t *testing.T) {
	for _, c := range []struct {
		rows            [][]int
		choice, descent *big.Rat
	}{
		// One row: there is no choice.
		{[][]int{{0, 1, 0}}, whole(0), whole(0)},
		{[][]int{{-9, 1, 9}}, whole(0), whole(18)},
		{[][]int{{9, 9, -9}}, whole(0), whole(-18)},
		{[][]int{{4, 3, 5}}, whole(0), whole(1)},
		// All with as many children, and all with the same trait.
		{[][]int{{1, 2, 1}, {5, 2, 5}, {-3, 2, -3}}, whole(0), whole(0)},
		{[][]int{{1, 2, 2}, {5, 2, 5}, {-3, 2, -2}}, whole(0), big.NewRat(2, 3)},
		{[][]int{{4, 0, 4}, {4, 9, 4}}, whole(0), whole(0)},
		{[][]int{{4, 1, 3}, {4, 9, 5}}, whole(0), big.NewRat(4, 5)},
		// One row with all children: the others' traits, and what theirs were to be, count for nothing more.
		{[][]int{{9, 1, 9}, {-9, 0, 9}}, whole(9), whole(0)},
		{[][]int{{9, 9, 8}, {-9, 0, 9}, {3, 0, -9}}, whole(8), whole(-1)},
		{[][]int{{0, 0, 9}, {0, 0, 9}, {0, 0, 9}, {0, 0, 9}, {0, 0, 9}, {6, 1, 6}}, whole(5), whole(0)},
		// More children of more, and of less.
		{[][]int{{1, 2, 1}, {0, 0, 5}, {2, 1, 3}}, big.NewRat(1, 3), big.NewRat(1, 3)},
		{[][]int{{1, 1, 1}, {2, 2, 2}, {3, 3, 3}}, big.NewRat(1, 3), whole(0)},
		{[][]int{{1, 3, 1}, {2, 2, 2}, {3, 1, 3}}, big.NewRat(-1, 3), whole(0)},
		{[][]int{{1, 3, 2}, {2, 2, 2}, {3, 1, 0}}, big.NewRat(-1, 3), whole(0)},
		{[][]int{{9, 9, 9}, {9, 9, 9}, {9, 9, 9}, {-9, 1, 9}, {-9, 0, 9}, {-9, 0, 9}}, big.NewRat(117, 14), big.NewRat(9, 14)},
	} {
		choice, descent, ok := impl.TraitChange(c.rows)
		if !ok || !isFrac(choice, c.choice) || !isFrac(descent, c.descent) {
			t.Errorf("TraitChange(%v) = %v, %v, %v, not %v and %v", c.rows, choice, descent, ok, c.choice, c.descent)
		}
	}
}

// meanOfAll returns the mean of numbers.
func meanOfAll(numbers []int) *big.Rat {
	return big.NewRat(int64(sum(numbers)), int64(len(numbers)))
}

// ofEachChild are, for each child of all rows, the trait of its parent, and by how much more its own is.
func ofEachChild(rows [][]int) (traits, more []int) {
	for _, row := range rows {
		for range row[1] {
			traits = append(traits, row[0])
			more = append(more, row[2]-row[0])
		}
	}
	return traits, more
}

// traitsOf are the traits of all rows.
func traitsOf(rows [][]int) []int {
	var traits []int
	for _, row := range rows {
		traits = append(traits, row[0])
	}
	return traits
}

func TestTraitChangeIsOfParentsByChildAndOfChildren(t *testing.T) {
	var chosen, changed tally
	for _, rows := range traitRows() {
		traits, more := ofEachChild(rows)
		// Those who have children, each one as often as it has some, less all.
		wantChoice := new(big.Rat).Sub(meanOfAll(traits), meanOfAll(traitsOf(rows)))
		wantDescent := meanOfAll(more)
		choice, descent, ok := impl.TraitChange(rows)
		if !ok || !isFrac(choice, wantChoice) || !isFrac(descent, wantDescent) {
			t.Fatalf("TraitChange(%v) = %v, %v, %v, not %v and %v", rows, choice, descent, ok, wantChoice, wantDescent)
		}
		chosen.add(wantChoice.Sign() != 0)
		changed.add(wantDescent.Sign() != 0)
	}
	chosen.check(t, 500)
	changed.check(t, 100)
}

// checkNoKin fails if KinOf, KinByPaths or HelpPays has a result.
func checkNoKin(t *testing.T, folk [][]int, i, j int) {
	t.Helper()
	kept := cloned(folk)
	if got, ok := impl.KinOf(folk, i, j); ok || got != (impl.Frac{}) {
		t.Errorf("KinOf(%v, %d, %d) = %v, %v", folk, i, j, got, ok)
	}
	if got, ok := impl.KinByPaths(folk, i, j); ok || got != (impl.Frac{}) {
		t.Errorf("KinByPaths(%v, %d, %d) = %v, %v", folk, i, j, got, ok)
	}
	if impl.HelpPays(folk, i, j, 0, impl.MaxShare) {
		t.Errorf("HelpPays(%v, %d, %d, 0, %d) = true", folk, i, j, impl.MaxShare)
	}
	if !sameRows(folk, kept) {
		t.Errorf("the people %v are changed to %v", kept, folk)
	}
}

// checkNoInbred fails if InbredOf has a result.
func checkNoInbred(t *testing.T, folk [][]int, i int) {
	t.Helper()
	kept := cloned(folk)
	if got, ok := impl.InbredOf(folk, i); ok || got != (impl.Frac{}) {
		t.Errorf("InbredOf(%v, %d) = %v, %v", folk, i, got, ok)
	}
	if !sameRows(folk, kept) {
		t.Errorf("the people %v are changed to %v", kept, folk)
	}
}

func TestKinshipOfRowsThatAreNoPeople(t *testing.T) {
	for _, folk := range badFolk() {
		kept := cloned(folk)
		impl.ValidFolk(folk)
		if !sameRows(folk, kept) {
			t.Errorf("the people %v are changed to %v", kept, folk)
		}
		for _, i := range []int{-1, 0, 1, impl.MaxFolk} {
			checkNoInbred(t, folk, i)
			for _, j := range []int{-1, 0, 1, impl.MaxFolk} {
				checkNoKin(t, folk, i, j)
			}
		}
	}
}

func TestKinshipOfPeopleWhoAreNotThere(t *testing.T) {
	d := draw(56)
	for n := 1; n <= impl.MaxFolk; n++ {
		for _, folk := range [][][]int{strangers(n), d.folk(n), d.folk(n), line()[:n]} {
			for _, i := range notBelow(n) {
				checkNoInbred(t, folk, i)
				checkNoKin(t, folk, i, i)
				for j := range folk {
					checkNoKin(t, folk, i, j)
					checkNoKin(t, folk, j, i)
				}
				for _, j := range notBelow(n) {
					checkNoKin(t, folk, i, j)
				}
			}
		}
	}
}

func TestHelpWithCostsOrGainsThatAreNotValid(t *testing.T) {
	d := draw(57)
	for n := 1; n <= impl.MaxFolk; n++ {
		for _, folk := range [][][]int{strangers(n), d.folk(n), line()[:n]} {
			for i := range folk {
				for j := range folk {
					for _, bad := range notBelow(impl.MaxShare + 1) {
						for _, number := range append(notBelow(impl.MaxShare+1), 0, 1, 500, impl.MaxShare) {
							if impl.HelpPays(folk, i, j, bad, number) || impl.HelpPays(folk, i, j, number, bad) {
								t.Fatalf("HelpPays(%v, %d, %d) of %d and %d, one of them as cost, = true", folk, i, j, bad, number)
							}
						}
					}
				}
			}
		}
	}
}

func TestTraitChangeOfRowsThatAreNotValid(t *testing.T) {
	for _, rows := range badTraits() {
		kept := cloned(rows)
		choice, descent, ok := impl.TraitChange(rows)
		if ok || choice != (impl.Frac{}) || descent != (impl.Frac{}) {
			t.Errorf("TraitChange(%v) = %v, %v, %v", rows, choice, descent, ok)
		}
		if !sameRows(rows, kept) {
			t.Errorf("the rows %v are changed to %v", kept, rows)
		}
	}
}

func TestPeopleAndTraitsAreNotChanged(t *testing.T) {
	for _, folk := range allFolk() {
		people := guarded(folk)
		impl.ValidFolk(people.table)
		for i := range folk {
			impl.InbredOf(people.table, i)
			for j := range folk {
				impl.KinOf(people.table, i, j)
				impl.KinByPaths(people.table, i, j)
				impl.HelpPays(people.table, i, j, 3, 7)
			}
		}
		if !people.unchanged() {
			t.Fatalf("the people %v are changed", folk)
		}
	}
	for _, rows := range traitRows() {
		traits := guarded(rows)
		impl.TraitChange(traits.table)
		if !traits.unchanged() {
			t.Fatalf("the rows %v are changed", rows)
		}
	}
}

func TestKinshipKeepsNoState(t *testing.T) {
	d := draw(58)
	for _, folk := range folkOf(5) {
		i, j := d.below(5), d.below(5)
		kin, inbred, pays := kinOf(t, folk, i, j), inbredOf(t, folk, i), impl.HelpPays(folk, i, j, 3, 7)
		other := d.folk(impl.MaxFolk)
		kinOf(t, other, i, j)
		kinByPaths(t, other, j, i)
		impl.HelpPays(other, i, j, 2, 9)
		impl.TraitChange(other)
		if kinOf(t, folk, i, j) != kin || kinByPaths(t, folk, i, j) != kin || inbredOf(t, folk, i) != inbred || impl.HelpPays(folk, i, j, 3, 7) != pays {
			t.Fatalf("the results for %v, %d and %d are others behind calls for others", folk, i, j)
		}
	}
	for _, rows := range traitRows() {
		choice, descent, _ := impl.TraitChange(rows)
		impl.TraitChange(d.traits(impl.MaxFolk, impl.MaxPay))
		if again, change, ok := impl.TraitChange(rows); !ok || again != choice || change != descent {
			t.Fatalf("TraitChange(%v) is another one behind another call", rows)
		}
	}
}

package tests

import (
	"math/big"
	"slices"
	"testing"

	"loop.example/strategiesthatspread/impl"
)

func TestValidGraph(t *testing.T) {
	for _, g := range [][]int{
		{2, 1},
		{2, 5, 2},
		{6, 5, 3},
		{6, 5, 11, 4},
		{8, 4, 10, 5},
		{10, 5, 10, 5},
		{2, 5, 10, 20, 8},
		{18, 5, 10, 20, 9},
		{14, 1, 1, 1},
		{16, 16, 16, 16, 15},
		{30, 29, 27, 23, 15},
	} {
		if !impl.ValidGraph(g) {
			t.Errorf("ValidGraph(%v) = false", g)
		}
	}
	for n := 2; n <= impl.MaxPlaces; n++ {
		for middle := range n {
			if g := starOf(n, middle); !impl.ValidGraph(g) {
				t.Errorf("ValidGraph(%v) = false", g)
			}
		}
	}
	for _, g := range badGraphs() {
		if impl.ValidGraph(g) {
			t.Errorf("ValidGraph(%v) = true", g)
		}
	}
}

// forRowsOf calls a function with each row of n numbers of least up to most.
func forRowsOf(n, least, most int, try func(row []int)) {
	if n == 0 {
		try(nil)
		return
	}
	for number := least; number <= most; number++ {
		forRowsOf(n-1, least, most, func(row []int) { try(append(row, number)) })
	}
}

func TestValidGraphOfAllRowsOfNumbers(t *testing.T) {
	for n, graphs := range []int{0, 0, 1, 4, 38} {
		valid, found := graphsOf(n), 0
		forRowsOf(n, -1, 1<<n, func(g []int) {
			want := n > 1 && has(valid, g...)
			if impl.ValidGraph(g) != want {
				t.Fatalf("ValidGraph(%v) = %v", g, !want)
			}
			if want {
				found++
			}
		})
		if found != graphs {
			t.Errorf("%d graphs have %d places, not %d", found, n, graphs)
		}
	}
}

func TestValidGraphOfAllGraphsWithOneNumberChanged(t *testing.T) {
	n := impl.MaxPlaces
	graphs := graphsOf(n)
	if len(graphs) != 728 {
		t.Fatalf("%d graphs have %d places", len(graphs), n)
	}
	for _, g := range graphs {
		if !impl.ValidGraph(g) {
			t.Fatalf("ValidGraph(%v) = false", g)
		}
		for i, kept := range g {
			for near := -1; near <= 1<<n; near++ {
				// One place alone cannot come to have or to lack a neighbour.
				if g[i] = near; impl.ValidGraph(g) != (near == kept) {
					t.Fatalf("ValidGraph(%v) = %v", g, near != kept)
				}
			}
			g[i] = kept
		}
	}
}

// drift is a graph with weights and a set, and how much more the set has behind one step.
type drift struct {
	g, c         []int
	s            int
	birth, death *big.Rat
}

// knownDrifts are drifts that are told by hand.
func knownDrifts() []drift {
	two, path, star, great := []int{2, 1}, []int{2, 5, 2}, []int{14, 1, 1, 1}, []int{16, 16, 16, 16, 15}
	return []drift{
		// Two places, of which each one puts its side to the other one.
		{two, []int{1, 1}, 1, big.NewRat(0, 1), big.NewRat(0, 1)},
		{two, []int{3, 5}, 1, big.NewRat(1, 1), big.NewRat(1, 1)},
		{two, []int{3, 5}, 2, big.NewRat(-1, 1), big.NewRat(-1, 1)},
		{two, []int{1, 0}, 1, big.NewRat(-1, 2), big.NewRat(-1, 2)},
		{two, []int{0, 1000}, 1, big.NewRat(500, 1), big.NewRat(500, 1)},
		// None of the places, and all.
		{two, []int{3, 5}, 0, big.NewRat(0, 1), big.NewRat(0, 1)},
		{two, []int{3, 5}, 3, big.NewRat(0, 1), big.NewRat(0, 1)},
		{star, []int{9, 1, 5, 7}, 0, big.NewRat(0, 1), big.NewRat(0, 1)},
		{star, []int{9, 1, 5, 7}, 15, big.NewRat(0, 1), big.NewRat(0, 1)},
		{star, []int{0, 0, 0, 0}, 3, big.NewRat(0, 1), big.NewRat(0, 1)},
		// Rows of three places.
		{path, []int{1, 1, 1}, 1, big.NewRat(1, 6), big.NewRat(-1, 6)},
		{path, []int{1, 2, 3}, 1, big.NewRat(1, 2), big.NewRat(0, 1)},
		{path, []int{1, 2, 3}, 2, big.NewRat(-2, 3), big.NewRat(2, 3)},
		{path, []int{2, 1, 2}, 5, big.NewRat(0, 1), big.NewRat(-1, 1)},
		// Stars: the middle alone, all others, and one of these.
		{star, []int{1, 1, 1, 1}, 1, big.NewRat(-1, 2), big.NewRat(1, 2)},
		{star, []int{1, 1, 1, 1}, 14, big.NewRat(1, 2), big.NewRat(-1, 2)},
		{star, []int{1, 1, 1, 1}, 2, big.NewRat(1, 6), big.NewRat(-1, 6)},
		{star, []int{4, 12, 12, 12}, 2, big.NewRat(0, 1), big.NewRat(-8, 3)},
		{star, []int{3, 1, 1, 1}, 2, big.NewRat(2, 3), big.NewRat(0, 1)},
		{great, []int{1, 1, 1, 1, 1}, 16, big.NewRat(-3, 5), big.NewRat(3, 5)},
		{great, []int{0, 0, 0, 0, 1000}, 1, big.NewRat(200, 1), big.NewRat(50, 1)},
		{great, []int{1000, 0, 0, 0, 0}, 1, big.NewRat(-50, 1), big.NewRat(-200, 1)},
		// Places with as many neighbours, all round.
		{[]int{6, 5, 3}, []int{1, 2, 3}, 1, big.NewRat(1, 2), big.NewRat(1, 2)},
		{[]int{6, 5, 3}, []int{7, 7, 7}, 5, big.NewRat(0, 1), big.NewRat(0, 1)},
		{[]int{10, 5, 10, 5}, []int{1, 0, 0, 0}, 5, big.NewRat(-1, 4), big.NewRat(-1, 4)},
	}
}

func TestBirthDrift(t *testing.T) {
	for _, k := range knownDrifts() {
		if x, ok := impl.BirthDrift(k.g, k.c, k.s); !ok || !isFrac(x, k.birth) {
			t.Errorf("BirthDrift(%v, %v, %d) = %v, %v, not %v", k.g, k.c, k.s, x, ok, k.birth)
		}
	}
}

func TestDeathDrift(t *testing.T) {
	for _, k := range knownDrifts() {
		if x, ok := impl.DeathDrift(k.g, k.c, k.s); !ok || !isFrac(x, k.death) {
			t.Errorf("DeathDrift(%v, %v, %d) = %v, %v, not %v", k.g, k.c, k.s, x, ok, k.death)
		}
	}
}

// copiedSide returns a set behind the place to getting the side of the place from.
func copiedSide(s, from, to int) int {
	without := s &^ (1 << to)
	return without | s>>from&1<<to
}

// forBirths calls a function with each set that may come behind a birth, and its chance.
func forBirths(g []int, s int, try func(next int, chance *big.Rat)) {
	for from, near := range g {
		all := membersOf(near)
		for _, to := range all {
			try(copiedSide(s, from, to), big.NewRat(1, int64(len(g)*len(all))))
		}
	}
}

// forDeaths calls a function with each set that may come behind a death, and its chance.
func forDeaths(g []int, s int, try func(next int, chance *big.Rat)) {
	for to, near := range g {
		all := membersOf(near)
		for _, from := range all {
			try(copiedSide(s, from, to), big.NewRat(1, int64(len(g)*len(all))))
		}
	}
}

// weightOf returns the weight of a set.
func weightOf(c []int, s int) int {
	weight := 0
	for _, i := range membersOf(s) {
		weight += c[i]
	}
	return weight
}

func TestDriftsAreTheMeansOfWhatIsPlayed(t *testing.T) {
	d := draw(35)
	changed := 0
	for _, g := range allGraphs() {
		for _, c := range weightRows(&d, len(g)) {
			for s := range 1 << len(g) {
				birth, death := new(big.Rat), new(big.Rat)
				forBirths(g, s, func(next int, chance *big.Rat) {
					birth.Add(birth, times(weightOf(c, next)-weightOf(c, s), chance))
				})
				forDeaths(g, s, func(next int, chance *big.Rat) {
					death.Add(death, times(weightOf(c, next)-weightOf(c, s), chance))
				})
				if x, ok := impl.BirthDrift(g, c, s); !ok || !isFrac(x, birth) {
					t.Fatalf("BirthDrift(%v, %v, %d) = %v, %v, not %v", g, c, s, x, ok, birth)
				}
				if x, ok := impl.DeathDrift(g, c, s); !ok || !isFrac(x, death) {
					t.Fatalf("DeathDrift(%v, %v, %d) = %v, %v, not %v", g, c, s, x, ok, death)
				}
				if birth.Sign() != 0 && death.Sign() != 0 && birth.Cmp(death) != 0 {
					changed++
				}
			}
		}
	}
	if changed < 10000 {
		t.Errorf("only %d times births and deaths change the weights differently", changed)
	}
}

func TestPlaceChances(t *testing.T) {
	for _, c := range []struct {
		g            []int
		birth, death []impl.Frac
	}{
		// Two places.
		{[]int{2, 1}, []impl.Frac{{Up: 1, Down: 2}, {Up: 1, Down: 2}}, []impl.Frac{{Up: 1, Down: 2}, {Up: 1, Down: 2}}},
		// Stars.
		{[]int{2, 5, 2}, []impl.Frac{{Up: 2, Down: 5}, {Up: 1, Down: 5}, {Up: 2, Down: 5}}, []impl.Frac{{Up: 1, Down: 4}, {Up: 1, Down: 2}, {Up: 1, Down: 4}}},
		{[]int{14, 1, 1, 1}, []impl.Frac{{Up: 1, Down: 10}, {Up: 3, Down: 10}, {Up: 3, Down: 10}, {Up: 3, Down: 10}}, []impl.Frac{{Up: 1, Down: 2}, {Up: 1, Down: 6}, {Up: 1, Down: 6}, {Up: 1, Down: 6}}},
		{[]int{16, 16, 16, 16, 15}, append(slices.Repeat([]impl.Frac{{Up: 4, Down: 17}}, 4), impl.Frac{Up: 1, Down: 17}), append(slices.Repeat([]impl.Frac{{Up: 1, Down: 8}}, 4), impl.Frac{Up: 1, Down: 2})},
		// Places with 1, 2 and 3 neighbours.
		{[]int{6, 5, 11, 4}, []impl.Frac{{Up: 3, Down: 14}, {Up: 3, Down: 14}, {Up: 1, Down: 7}, {Up: 3, Down: 7}}, []impl.Frac{{Up: 1, Down: 4}, {Up: 1, Down: 4}, {Up: 3, Down: 8}, {Up: 1, Down: 8}}},
		{[]int{2, 5, 10, 20, 8}, []impl.Frac{{Up: 2, Down: 7}, {Up: 1, Down: 7}, {Up: 1, Down: 7}, {Up: 1, Down: 7}, {Up: 2, Down: 7}}, []impl.Frac{{Up: 1, Down: 8}, {Up: 1, Down: 4}, {Up: 1, Down: 4}, {Up: 1, Down: 4}, {Up: 1, Down: 8}}},
		// Places with as many neighbours, all round.
		{[]int{10, 5, 10, 5}, slices.Repeat([]impl.Frac{{Up: 1, Down: 4}}, 4), slices.Repeat([]impl.Frac{{Up: 1, Down: 4}}, 4)},
		{fullGraph(5), slices.Repeat([]impl.Frac{{Up: 1, Down: 5}}, 5), slices.Repeat([]impl.Frac{{Up: 1, Down: 5}}, 5)},
	} {
		if got := impl.PlaceChances(c.g, "birth"); !slices.Equal(got, c.birth) {
			t.Errorf("PlaceChances(%v, birth) = %v, not %v", c.g, got, c.birth)
		}
		if got := impl.PlaceChances(c.g, "death"); !slices.Equal(got, c.death) {
			t.Errorf("PlaceChances(%v, death) = %v, not %v", c.g, got, c.death)
		}
	}
}

// chanceOfSet returns the chance that the side of one of a set is that of all in the end.
func chanceOfSet(chances []impl.Frac, s int) *big.Rat {
	all := new(big.Rat)
	for _, i := range membersOf(s) {
		all.Add(all, rat(chances[i]))
	}
	return all
}

func TestPlaceChancesAreFairBets(t *testing.T) {
	for _, g := range allGraphs() {
		for kind, forSteps := range map[string]func([]int, int, func(int, *big.Rat)){"birth": forBirths, "death": forDeaths} {
			chances := impl.PlaceChances(g, kind)
			if len(chances) != len(g) {
				t.Fatalf("PlaceChances(%v, %s) = %v", g, kind, chances)
			}
			// As all places have one side in the end, chances that are 0 of none and 1 of all, and are the same in the mean behind each step, are the only ones.
			for s := range 1 << len(g) {
				want := new(big.Rat)
				forSteps(g, s, func(next int, chance *big.Rat) {
					want.Add(want, chance.Mul(chance, chanceOfSet(chances, next)))
				})
				if chanceOfSet(chances, s).Cmp(want) != 0 {
					t.Fatalf("PlaceChances(%v, %s) = %v, but the set %d has the chance %v behind one step", g, kind, chances, s, want)
				}
			}
			if chanceOfSet(chances, 1<<len(g)-1).Cmp(whole(1)) != 0 {
				t.Fatalf("PlaceChances(%v, %s) = %v", g, kind, chances)
			}
			for _, x := range chances {
				if !isFrac(x, rat(x)) {
					t.Fatalf("PlaceChances(%v, %s) = %v", g, kind, chances)
				}
			}
		}
	}
}

func TestCopyRing(t *testing.T) {
	low := [][]int{{-1, -9}, {-2, -9}}
	for _, c := range []struct {
		a          [][]int
		ring, want []int
	}{
		// Rings of one strategy.
		{[][]int{{7}}, []int{0, 0, 0}, []int{0, 0, 0}},
		{[][]int{{-9}}, make([]int, 8), make([]int, 8)},
		{dilemma(), []int{0, 0, 0}, []int{0, 0, 0}},
		{dilemma(), []int{1, 1, 1, 1}, []int{1, 1, 1, 1}},
		{low, slices.Repeat([]int{1}, 8), slices.Repeat([]int{1}, 8)},
		{beats(), []int{2, 2, 2, 2, 2}, []int{2, 2, 2, 2, 2}},
		// Three places, all neighbours of each other.
		{dilemma(), []int{1, 0, 0}, []int{1, 1, 1}},
		{dilemma(), []int{0, 0, 1}, []int{1, 1, 1}},
		{beats(), []int{0, 1, 2}, []int{0, 1, 2}},
		{beats(), []int{2, 1, 0}, []int{2, 1, 0}},
		// The first place and the last one are neighbours.
		{dilemma(), []int{1, 0, 0, 0, 0, 0, 0, 0}, []int{1, 1, 0, 0, 0, 0, 0, 1}},
		{dilemma(), []int{0, 0, 0, 0, 0, 0, 0, 1}, []int{1, 0, 0, 0, 0, 0, 1, 1}},
		// Of several with the most the place itself, and otherwise the one ahead of it.
		{dilemma(), []int{1, 0, 0, 0, 1}, []int{1, 1, 0, 0, 1}},
		{dilemma(), []int{0, 0, 0, 1, 1, 0, 0, 0}, []int{0, 0, 0, 1, 1, 1, 0, 0}},
		{beats(), []int{0, 0, 2, 2, 1, 1}, []int{1, 0, 0, 2, 2, 1}},
		{beats(), []int{0, 0, 1, 1, 2, 2}, []int{0, 0, 1, 1, 2, 2}},
		{sameSquare(0, 3), []int{2, 0, 1, 1, 0, 2, 1}, []int{2, 0, 1, 1, 0, 2, 1}},
		{sameSquare(-9, 2), []int{0, 1, 0, 1}, []int{0, 1, 0, 1}},
		// All have less than nothing.
		{low, []int{0, 0, 0, 1}, []int{0, 0, 0, 1}},
		{low, []int{1, 1, 0, 0}, []int{0, 0, 0, 0}},
		// All at once.
		{[][]int{{-4, 3}, {1, -6}}, []int{1, 0, 0, 0}, []int{1, 1, 0, 1}},
		{[][]int{{-4, 3}, {1, -6}}, []int{1, 1, 0, 1}, []int{1, 0, 0, 0}},
	} {
		if got := impl.CopyRing(c.a, c.ring); !slices.Equal(got, c.want) {
			t.Errorf("CopyRing(%v, %v) = %v, not %v", c.a, c.ring, got, c.want)
		}
	}
}

// wantedCopy is the ring behind one step, as CopyRing defines it.
func wantedCopy(a [][]int, ring []int) []int {
	n := len(ring)
	at := func(i int) int { return ring[(i+n)%n] }
	pay := func(i int) int { return a[at(i)][at(i-1)] + a[at(i)][at(i+1)] }
	var next []int
	for i := range ring {
		most := max(pay(i-1), pay(i), pay(i+1))
		from := i + 1
		if pay(i-1) == most {
			from = i - 1
		}
		if pay(i) == most {
			from = i
		}
		next = append(next, at(from))
	}
	return next
}

func TestCopyRingTakesFromTheOneWithTheMost(t *testing.T) {
	var counts tally
	forRings(func(a [][]int, ring []int) {
		want := wantedCopy(a, ring)
		if got := impl.CopyRing(a, ring); !slices.Equal(got, want) {
			t.Fatalf("CopyRing(%v, %v) = %v, not %v", a, ring, got, want)
		}
		counts.add(slices.Equal(want, ring))
	})
	counts.check(t, 10000)
}

func TestRingCycle(t *testing.T) {
	chase := [][]int{{-2, 3, -8}, {4, 9, -9}, {6, -3, -8}}
	for _, c := range []struct {
		a              [][]int
		ring           []int
		steps, further int
	}{
		// Rings of one strategy.
		{[][]int{{0}}, []int{0, 0, 0}, 0, 1},
		{[][]int{{9}}, make([]int, 8), 0, 1},
		{dilemma(), []int{0, 0, 0, 0}, 0, 1},
		{dilemma(), []int{1, 1, 1}, 0, 1},
		{beats(), []int{2, 2, 2, 2, 2, 2, 2, 2}, 0, 1},
		// Rings that stay as they are.
		{beats(), []int{0, 1, 2}, 0, 1},
		{beats(), []int{0, 0, 1, 1, 2, 2}, 0, 1},
		{sameSquare(5, 3), []int{0, 2, 1, 1, 0}, 0, 1},
		// Rings that come to rest.
		{dilemma(), []int{1, 0, 0}, 1, 1},
		{dilemma(), []int{1, 0, 0, 0, 1}, 2, 1},
		{dilemma(), []int{1, 0, 0, 0, 0, 0, 0, 0}, 5, 1},
		{[][]int{{7, -1, -4}, {-3, 9, 7}, {9, 5, 8}}, []int{2, 0, 1, 1, 0, 0, 0, 0}, 9, 1},
		// Rings that come again.
		{[][]int{{-4, 3}, {1, -6}}, []int{1, 0, 0, 0}, 0, 2},
		{beats(), []int{0, 0, 2, 2, 1, 1}, 0, 6},
		{beats(), []int{1, 1, 2, 2, 0, 0, 0}, 0, 21},
		// Others than the first one come again.
		{chase, []int{2, 1, 2, 1, 0, 0, 0}, 1, 7},
		{chase, []int{2, 1, 2, 1, 0, 0, 0, 0}, 1, 8},
	} {
		if x, y := impl.RingCycle(c.a, c.ring); x != c.steps || y != c.further {
			t.Errorf("RingCycle(%v, %v) = %d, %d, not %d, %d", c.a, c.ring, x, y, c.steps, c.further)
		}
	}
}

// wantedCycle tells when a ring comes again, as RingCycle defines it.
func wantedCycle(a [][]int, ring []int) (int, int) {
	var rings [][]int
	for !has(rings, ring...) {
		rings = append(rings, ring)
		ring = wantedCopy(a, ring)
	}
	steps := slices.IndexFunc(rings, func(r []int) bool { return slices.Equal(r, ring) })
	return steps, len(rings) - steps
}

func TestRingCycleIsTheFirstOne(t *testing.T) {
	forRings(func(a [][]int, ring []int) {
		steps, further := wantedCycle(a, ring)
		if x, y := impl.RingCycle(a, ring); x != steps || y != further {
			t.Fatalf("RingCycle(%v, %v) = %d, %d, not %d, %d", a, ring, x, y, steps, further)
		}
	})
}

// checkNoDrift fails if BirthDrift or DeathDrift tells a drift.
func checkNoDrift(t *testing.T, g, c []int, s int) {
	t.Helper()
	keptG, keptC := slices.Clone(g), slices.Clone(c)
	if x, ok := impl.BirthDrift(g, c, s); ok || x != (impl.Frac{}) {
		t.Errorf("BirthDrift(%v, %v, %d) = %v, %v", g, c, s, x, ok)
	}
	if x, ok := impl.DeathDrift(g, c, s); ok || x != (impl.Frac{}) {
		t.Errorf("DeathDrift(%v, %v, %d) = %v, %v", g, c, s, x, ok)
	}
	if !slices.Equal(g, keptG) || !slices.Equal(c, keptC) {
		t.Errorf("the numbers %v and the weights %v are changed to %v and %v", keptG, keptC, g, c)
	}
}

// checkNoChances fails if PlaceChances tells chances.
func checkNoChances(t *testing.T, g []int, kind string) {
	t.Helper()
	kept := slices.Clone(g)
	if got := impl.PlaceChances(g, kind); len(got) != 0 {
		t.Errorf("PlaceChances(%v, %q) = %v", g, kind, got)
	}
	if !slices.Equal(g, kept) {
		t.Errorf("the numbers %v are changed to %v", kept, g)
	}
}

// noKinds are texts that are neither birth nor death.
func noKinds() []string {
	return []string{"", "Birth", "Death", "BIRTH", "births", "deaths", "birt", "deat", "birth ", " death", "birth\n", "death\x00", "birthdeath", "life", "0", "b", "d"}
}

func TestDriftsAndChancesOfNumbersThatAreNoGraph(t *testing.T) {
	for _, g := range badGraphs() {
		for _, s := range []int{0, 1, 1<<min(len(g), 62) - 1, -1} {
			checkNoDrift(t, g, slices.Repeat([]int{1}, len(g)), s)
			checkNoDrift(t, g, []int{1, 1}, s)
			checkNoDrift(t, g, nil, s)
		}
		for _, kind := range append(noKinds(), "birth", "death") {
			checkNoChances(t, g, kind)
		}
	}
}

func TestDriftsOfNumbersThatAreNoWeightsOrNoSet(t *testing.T) {
	for _, g := range allGraphs() {
		for _, c := range badWeights(len(g)) {
			checkNoDrift(t, g, c, 1)
			checkNoDrift(t, g, c, 0)
		}
		for _, s := range badSets(len(g)) {
			checkNoDrift(t, g, slices.Repeat([]int{1}, len(g)), s)
			checkNoDrift(t, g, make([]int, len(g)), s)
			checkNoDrift(t, g, nil, s)
		}
	}
}

func TestPlaceChancesOfOtherKinds(t *testing.T) {
	for _, g := range allGraphs() {
		for _, kind := range noKinds() {
			checkNoChances(t, g, kind)
		}
	}
}

// checkNoRing fails if CopyRing or RingCycle has a result.
func checkNoRing(t *testing.T, a [][]int, ring []int) {
	t.Helper()
	keptA, kept := cloned(a), slices.Clone(ring)
	if got := impl.CopyRing(a, ring); len(got) != 0 {
		t.Errorf("CopyRing(%v, %v) = %v", a, ring, got)
	}
	if x, y := impl.RingCycle(a, ring); x != -1 || y != -1 {
		t.Errorf("RingCycle(%v, %v) = %d, %d", a, ring, x, y)
	}
	if !sameRows(a, keptA) || !slices.Equal(ring, kept) {
		t.Errorf("the table %v and the ring %v are changed to %v and %v", keptA, kept, a, ring)
	}
}

func TestRingsOfTablesThatAreNoSquares(t *testing.T) {
	for _, a := range badSquares() {
		for n := fewSeats; n <= impl.MaxRing; n++ {
			checkNoRing(t, a, make([]int, n))
			checkNoRing(t, a, slices.Repeat([]int{1}, n))
		}
		for _, ring := range [][]int{nil, {0, 0}, {0, 1, 0}, {0, 0, 2}, {-1, 0, 0}, make([]int, impl.MaxRing+1)} {
			checkNoRing(t, a, ring)
		}
	}
}

func TestRingsThatAreNotValid(t *testing.T) {
	for _, a := range [][][]int{{{1}}, dilemma(), beats(), sameSquare(0, 1), sameSquare(9, 2), sameSquare(-9, 3)} {
		for _, ring := range badRings(len(a)) {
			checkNoRing(t, a, ring)
		}
	}
}

func TestGraphsAreNotChanged(t *testing.T) {
	d := draw(36)
	for _, graph := range allGraphs() {
		for _, weights := range weightRows(&d, len(graph)) {
			rows := guarded([][]int{graph, weights})
			g, c := rows.table[0], rows.table[1]
			impl.ValidGraph(g)
			for s := range 1 << len(g) {
				impl.BirthDrift(g, c, s)
				impl.DeathDrift(g, c, s)
			}
			for _, kind := range []string{"birth", "death", ""} {
				impl.PlaceChances(g, kind)
			}
			if !rows.unchanged() {
				t.Fatalf("the graph %v or the weights %v are changed", graph, weights)
			}
		}
	}
	for _, g := range badGraphs() {
		kept := slices.Clone(g)
		impl.ValidGraph(g)
		if !slices.Equal(g, kept) {
			t.Fatalf("the numbers %v are changed to %v", kept, g)
		}
	}
}

func TestRingsAreNotChanged(t *testing.T) {
	forRings(func(a [][]int, ring []int) {
		table, row := guarded(a), guarded([][]int{ring})
		// The results are new memory: to write over one changes no argument.
		scribble(impl.CopyRing(table.table, row.table[0]))
		impl.RingCycle(table.table, row.table[0])
		if !table.unchanged() || !row.unchanged() {
			t.Fatalf("the table %v or the ring %v is changed", a, ring)
		}
	})
}

func TestNeighboursKeepNoState(t *testing.T) {
	graphs := allGraphs()
	for k, g := range graphs {
		for _, kind := range []string{"birth", "death"} {
			chances := impl.PlaceChances(g, kind)
			kept := slices.Clone(chances)
			impl.PlaceChances(graphs[len(graphs)-1-k], kind)
			if !slices.Equal(chances, kept) {
				t.Fatalf("PlaceChances(%v, %s) are changed by another call", g, kind)
			}
			clear(chances[:cap(chances)])
			if again := impl.PlaceChances(g, kind); !slices.Equal(again, kept) {
				t.Fatalf("PlaceChances(%v, %s) = %v at first, and then %v", g, kind, kept, again)
			}
		}
		c := weightRows(new(draw), len(g))[3]
		birth, _ := impl.BirthDrift(g, c, 1)
		death, _ := impl.DeathDrift(g, c, 1)
		again, _ := impl.BirthDrift(g, c, 1)
		if then, _ := impl.DeathDrift(g, c, 1); again != birth || then != death {
			t.Fatalf("the drifts of %v with %v are %v and %v at first, and then %v and %v", g, c, birth, death, again, then)
		}
	}
}

func TestRingsKeepNoState(t *testing.T) {
	d := draw(37)
	forRings(func(a [][]int, ring []int) {
		next := impl.CopyRing(a, ring)
		kept := slices.Clone(next)
		steps, further := impl.RingCycle(a, ring)
		impl.CopyRing(beats(), d.ring(impl.MaxRing, 3))
		impl.RingCycle(beats(), d.ring(impl.MaxRing, 3))
		if !slices.Equal(next, kept) {
			t.Fatalf("CopyRing(%v, %v) is changed by another call", a, ring)
		}
		scribble(next)
		if again := impl.CopyRing(a, ring); !slices.Equal(again, kept) {
			t.Fatalf("CopyRing(%v, %v) = %v at first, and then %v", a, ring, kept, again)
		}
		if x, y := impl.RingCycle(a, ring); x != steps || y != further {
			t.Fatalf("RingCycle(%v, %v) = %d, %d at first, and then %d, %d", a, ring, steps, further, x, y)
		}
	})
}

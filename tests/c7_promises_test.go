package tests

import (
	"math/big"
	"slices"
	"testing"

	"loop.example/strategiesthatspread/impl"
)

// birthDrift returns how much more weight a set has behind a birth as a number.
func birthDrift(t *testing.T, g, c []int, s int) *big.Rat {
	t.Helper()
	x, ok := impl.BirthDrift(g, c, s)
	if !ok {
		t.Fatalf("BirthDrift(%v, %v, %d) = %v, %v", g, c, s, x, ok)
	}
	return rat(x)
}

// deathDrift returns how much more weight a set has behind a death as a number.
func deathDrift(t *testing.T, g, c []int, s int) *big.Rat {
	t.Helper()
	x, ok := impl.DeathDrift(g, c, s)
	if !ok {
		t.Fatalf("DeathDrift(%v, %v, %d) = %v, %v", g, c, s, x, ok)
	}
	return rat(x)
}

// placeChances returns the chances of all places as numbers.
func placeChances(t *testing.T, g []int, kind string) []*big.Rat {
	t.Helper()
	chances := impl.PlaceChances(g, kind)
	if len(chances) != len(g) {
		t.Fatalf("PlaceChances(%v, %s) = %v", g, kind, chances)
	}
	var all []*big.Rat
	for _, x := range chances {
		all = append(all, rat(x))
	}
	return all
}

// manyNear returns how many neighbours each place of a graph has.
func manyNear(g []int) []int {
	var many []int
	for _, near := range g {
		many = append(many, len(membersOf(near)))
	}
	return many
}

// fewNear returns 12 divided by how many neighbours each place of a graph has.
func fewNear(g []int) []int {
	few := manyNear(g)
	for i := range few {
		few[i] = 12 / few[i]
	}
	return few
}

func TestPromise36GraphsMayHaveAllWays(t *testing.T) {
	for n := 2; n <= impl.MaxPlaces; n++ {
		if g := fullGraph(n); !impl.ValidGraph(g) {
			t.Errorf("ValidGraph(%v) = false", g)
		}
	}
	for _, n := range []int{0, 1, impl.MaxPlaces + 1} {
		if g := fullGraph(n); impl.ValidGraph(g) {
			t.Errorf("ValidGraph(%v) = true", g)
		}
	}
}

func TestPromise37BirthsWeighPlacesByFewNeighbours(t *testing.T) {
	d := draw(38)
	drifting := 0
	for _, g := range allGraphs() {
		for s := range 1 << len(g) {
			if x := birthDrift(t, g, fewNear(g), s); x.Sign() != 0 {
				t.Fatalf("BirthDrift(%v, %v, %d) = %v", g, fewNear(g), s, x)
			}
			for _, c := range append(weightRows(&d, len(g)), fewNear(g), manyNear(g)) {
				x, others := birthDrift(t, g, c, s), birthDrift(t, g, c, 1<<len(g)-1-s)
				if x.Cmp(minus(others)) != 0 {
					t.Fatalf("BirthDrift(%v, %v, %d) = %v, and of all others %v", g, c, s, x, others)
				}
				if x.Sign() != 0 {
					drifting++
				}
			}
		}
	}
	if drifting < 10000 {
		t.Errorf("only %d sets come to more or less", drifting)
	}
}

func TestPromise38DeathsWeighPlacesByManyNeighbours(t *testing.T) {
	d := draw(39)
	drifting := 0
	for _, g := range allGraphs() {
		for s := range 1 << len(g) {
			if x := deathDrift(t, g, manyNear(g), s); x.Sign() != 0 {
				t.Fatalf("DeathDrift(%v, %v, %d) = %v", g, manyNear(g), s, x)
			}
			for _, c := range append(weightRows(&d, len(g)), fewNear(g), manyNear(g)) {
				x, others := deathDrift(t, g, c, s), deathDrift(t, g, c, 1<<len(g)-1-s)
				if x.Cmp(minus(others)) != 0 {
					t.Fatalf("DeathDrift(%v, %v, %d) = %v, and of all others %v", g, c, s, x, others)
				}
				if x.Sign() != 0 {
					drifting++
				}
			}
		}
	}
	if drifting < 10000 {
		t.Errorf("only %d sets come to more or less", drifting)
	}
}

func TestPromise39AllChancesAre1Together(t *testing.T) {
	for _, g := range allGraphs() {
		births, deaths := placeChances(t, g, "birth"), placeChances(t, g, "death")
		if sumOfAll(births).Cmp(whole(1)) != 0 || sumOfAll(deaths).Cmp(whole(1)) != 0 {
			t.Fatalf("the chances of %v are %v and %v", g, births, deaths)
		}
		for i := range g {
			for j := range g {
				byBirth := new(big.Rat).Quo(births[i], births[j])
				byDeath := new(big.Rat).Quo(deaths[j], deaths[i])
				if byBirth.Cmp(byDeath) != 0 {
					t.Fatalf("the chances of the places %d and %d of %v stand as %v by births, and the other way round as %v by deaths", i, j, g, byBirth, byDeath)
				}
			}
		}
	}
}

// begunAtNext returns a ring begun at the next place.
func begunAtNext(ring []int) []int {
	return append(slices.Clone(ring[1:]), ring[0])
}

func TestPromise40RingsMayBeTurned(t *testing.T) {
	ofOne, came, turnedRings := 0, 0, 0
	forRings(func(a [][]int, ring []int) {
		next := impl.CopyRing(a, ring)
		if len(next) != len(ring) {
			t.Fatalf("CopyRing(%v, %v) = %v", a, ring, next)
		}
		if slices.Min(ring) == slices.Max(ring) {
			ofOne++
			if !slices.Equal(next, ring) {
				t.Fatalf("CopyRing(%v, %v) = %v", a, ring, next)
			}
		}
		for _, strategy := range next {
			if !slices.Contains(ring, strategy) {
				t.Fatalf("CopyRing(%v, %v) = %v", a, ring, next)
			}
		}
		if !slices.Equal(next, ring) {
			came++
		}
		if got := impl.CopyRing(a, begunAtNext(ring)); !slices.Equal(got, begunAtNext(next)) {
			t.Fatalf("CopyRing(%v, %v) = %v, but begun at the next place it is %v", a, ring, next, got)
		}
		if !slices.Equal(ring, begunAtNext(ring)) {
			turnedRings++
		}
	})
	if min(ofOne, came, turnedRings) < 1000 {
		t.Errorf("only %d rings are of one strategy, %d change, and %d are others begun at the next place", ofOne, came, turnedRings)
	}
}

// ringsFrom returns a ring and those behind each one of some steps.
func ringsFrom(a [][]int, ring []int, steps int) [][]int {
	rings := [][]int{ring}
	for range steps {
		ring = impl.CopyRing(a, ring)
		rings = append(rings, ring)
	}
	return rings
}

func TestPromise41RingsComeAgain(t *testing.T) {
	late, long := 0, 0
	forRings(func(a [][]int, ring []int) {
		steps, further := impl.RingCycle(a, ring)
		if steps < 0 || further < 1 {
			t.Fatalf("RingCycle(%v, %v) = %d, %d", a, ring, steps, further)
		}
		rings := ringsFrom(a, ring, steps+further)
		if !slices.Equal(rings[steps], rings[steps+further]) {
			t.Fatalf("RingCycle(%v, %v) = %d, %d, but the rings are %v", a, ring, steps, further, rings)
		}
		for k, again := range rings[:steps+further] {
			if has(rings[:k], again...) {
				t.Fatalf("RingCycle(%v, %v) = %d, %d, but %v comes again ahead of that", a, ring, steps, further, again)
			}
		}
		if steps > 0 {
			late++
		}
		if further > 1 {
			long++
		}
	})
	if late < 1000 || long < 1000 {
		t.Errorf("only %d rings come again late, and %d behind more than one step", late, long)
	}
}

func TestPromise79PlacesWithAsManyNeighboursAreAlike(t *testing.T) {
	fewer, same := 0, 0
	for _, g := range allGraphs() {
		births, deaths, many := placeChances(t, g, "birth"), placeChances(t, g, "death"), manyNear(g)
		for i := range g {
			for j := range g {
				byBirth, byDeath := births[i].Cmp(births[j]), deaths[i].Cmp(deaths[j])
				switch {
				case many[i] < many[j]:
					fewer++
					if byBirth <= 0 || byDeath >= 0 {
						t.Fatalf("the place %d of %v has fewer neighbours than %d, but the chances are %v and %v", i, g, j, births, deaths)
					}
				case many[i] == many[j]:
					if i != j {
						same++
					}
					if byBirth != 0 || byDeath != 0 {
						t.Fatalf("the places %d and %d of %v have as many neighbours, but the chances are %v and %v", i, j, g, births, deaths)
					}
				}
			}
		}
	}
	if fewer < 1000 || same < 1000 {
		t.Errorf("only %d places have fewer neighbours than others, and %d as many", fewer, same)
	}
}

package tests

import (
	"math/big"
	"slices"
	"testing"

	"loop.example/strategiesthatspread/impl"
)

// kinOf returns the kinship of two people.
func kinOf(t *testing.T, folk [][]int, i, j int) impl.Frac {
	t.Helper()
	kin, ok := impl.KinOf(folk, i, j)
	if !ok {
		t.Fatalf("KinOf(%v, %d, %d) = %v, %v", folk, i, j, kin, ok)
	}
	return kin
}

// kinByPaths returns the kinship of two people, by paths.
func kinByPaths(t *testing.T, folk [][]int, i, j int) impl.Frac {
	t.Helper()
	kin, ok := impl.KinByPaths(folk, i, j)
	if !ok {
		t.Fatalf("KinByPaths(%v, %d, %d) = %v, %v", folk, i, j, kin, ok)
	}
	return kin
}

// inbredOf returns the kinship of the parents of a person.
func inbredOf(t *testing.T, folk [][]int, i int) impl.Frac {
	t.Helper()
	inbred, ok := impl.InbredOf(folk, i)
	if !ok {
		t.Fatalf("InbredOf(%v, %d) = %v, %v", folk, i, inbred, ok)
	}
	return inbred
}

// forTwo calls a function with all people, and all two of them.
func forTwo(try func(folk [][]int, i, j int)) {
	for _, folk := range allFolk() {
		for i := range folk {
			for j := range folk {
				try(folk, i, j)
			}
		}
	}
}

func TestPromise55PeopleCanBeLeftOut(t *testing.T) {
	for _, folk := range allFolk() {
		for n := len(folk); n > 0; n-- {
			if !impl.ValidFolk(folk[:n]) {
				t.Fatalf("ValidFolk(%v) = false, of the first %d of %v", folk[:n], n, folk)
			}
		}
	}
	// Where one is put behind rows that are no people, these are none either.
	var valid tally
	for _, folk := range slices.Concat(badFolk(), allFolk()) {
		if len(folk) == 0 || len(folk) > impl.MaxFolk {
			continue
		}
		for _, parents := range append(parentsFor(len(folk)), []int{0, 0}) {
			more := append(cloned(folk), parents)
			holds := impl.ValidFolk(more)
			if holds && !impl.ValidFolk(folk) {
				t.Fatalf("ValidFolk(%v) = true, but not without the last one", more)
			}
			valid.add(holds)
		}
	}
	valid.check(t, 1000)
}

func TestPromise56KinshipIsCountedByPaths(t *testing.T) {
	var kin tally
	forTwo(func(folk [][]int, i, j int) {
		x := kinOf(t, folk, i, j)
		if y := kinByPaths(t, folk, i, j); x != y {
			t.Fatalf("KinOf(%v, %d, %d) = %v, but KinByPaths is %v", folk, i, j, x, y)
		}
		if y := kinOf(t, folk, j, i); x != y {
			t.Fatalf("KinOf(%v, %d, %d) = %v, but the other way %v", folk, i, j, x, y)
		}
		if y := kinByPaths(t, folk, j, i); x != y {
			t.Fatalf("KinByPaths(%v, %d, %d) = %v, but the other way %v", folk, i, j, x, y)
		}
		own, others := rat(kinOf(t, folk, i, i)), rat(kinOf(t, folk, j, j))
		if rat(x).Cmp(own) > 0 && rat(x).Cmp(others) > 0 {
			t.Fatalf("KinOf(%v, %d, %d) = %v, but with themselves %v and %v", folk, i, j, x, own, others)
		}
		kin.add(x.Up > 0)
	})
	kin.check(t, 1000)
}

func TestPromise57ChildrenOfStrangersAreNotInbred(t *testing.T) {
	var inbred tally
	for _, folk := range allFolk() {
		for i, parents := range folk {
			x := inbredOf(t, folk, i)
			known := parents[0] != -1
			if (!known || kinOf(t, folk, parents[0], parents[1]).Up == 0) && !isFrac(x, whole(0)) {
				t.Fatalf("InbredOf(%v, %d) = %v", folk, i, x)
			}
			if rat(x).Sign() < 0 || rat(x).Cmp(whole(1)) >= 0 {
				t.Fatalf("InbredOf(%v, %d) = %v", folk, i, x)
			}
			if known {
				inbred.add(x.Up > 0)
			}
		}
	}
	inbred.check(t, 1000)
}

// halfOfBoth returns half of the kinship of one person with two others.
func halfOfBoth(t *testing.T, folk [][]int, p, q, i int) *big.Rat {
	t.Helper()
	both := new(big.Rat).Add(rat(kinByPaths(t, folk, p, i)), rat(kinByPaths(t, folk, q, i)))
	return both.Quo(both, whole(2))
}

func TestPromise58OneMoreGenerationHalves(t *testing.T) {
	var kin tally
	for n := 2; n < impl.MaxFolk; n++ {
		for _, folk := range folkOf(n) {
			for _, parents := range parentsFor(n)[1:] {
				more := append(cloned(folk), parents)
				for i := range folk {
					want := halfOfBoth(t, folk, parents[0], parents[1], i)
					x, y := kinByPaths(t, more, n, i), kinByPaths(t, more, i, n)
					if !isFrac(x, want) || !isFrac(y, want) {
						t.Fatalf("KinByPaths(%v, %d, %d) = %v, and the other way %v, but half of both parents is %v", more, n, i, x, y, want)
					}
					kin.add(want.Sign() > 0)
				}
			}
		}
	}
	kin.check(t, 1000)
}

func TestPromise59HelpPaysMoreWithMoreGain(t *testing.T) {
	var pays tally
	d := draw(59)
	numbers := []int{0, 1, 2, 4, 7, 9, 499, 500, 501, impl.MaxShare}
	forTwo(func(folk [][]int, i, j int) {
		// Of most people one cost will do.
		costs := numbers
		if len(folk) > 4 {
			costs = []int{numbers[d.below(len(numbers))]}
		}
		for _, cost := range costs {
			ahead := false
			for _, gain := range numbers {
				holds := impl.HelpPays(folk, i, j, cost, gain)
				if holds && gain == 0 || ahead && !holds {
					t.Fatalf("HelpPays(%v, %d, %d, %d, %d) = %v", folk, i, j, cost, gain, holds)
				}
				for _, less := range []int{0, cost / 2, cost - 1} {
					if holds && less >= 0 && !impl.HelpPays(folk, i, j, less, gain) {
						t.Fatalf("HelpPays(%v, %d, %d, %d, %d) = false, but not with the cost %d", folk, i, j, less, gain, cost)
					}
				}
				ahead = holds
				pays.add(holds)
			}
		}
	})
	pays.check(t, 1000)
}

func TestPromise60ChangesAreByChoiceAndByDescent(t *testing.T) {
	var both tally
	for _, rows := range traitRows() {
		choice, descent, ok := impl.TraitChange(rows)
		if !ok {
			t.Fatalf("TraitChange(%v) = %v, %v, %v", rows, choice, descent, ok)
		}
		var ofChildren []int
		for _, row := range rows {
			ofChildren = append(ofChildren, slices.Repeat([]int{row[2]}, row[1])...)
		}
		want := new(big.Rat).Sub(meanOfAll(ofChildren), meanOfAll(traitsOf(rows)))
		if together := new(big.Rat).Add(rat(choice), rat(descent)); together.Cmp(want) != 0 {
			t.Fatalf("TraitChange(%v) = %v, %v, together %v, but the mean changes by %v", rows, choice, descent, together, want)
		}
		both.add(choice.Up != 0 && descent.Up != 0)
	}
	both.check(t, 500)
}

func TestPromise86WhoHelpsItselfMustHaveMore(t *testing.T) {
	var pays, strange tally
	d := draw(60)
	forTwo(func(folk [][]int, i, j int) {
		strangers := kinOf(t, folk, i, j).Up == 0
		strange.add(strangers)
		if i != j && !strangers {
			return
		}
		number := d.below(impl.MaxShare + 1)
		for _, cost := range []int{0, 1, number, impl.MaxShare} {
			for _, gain := range []int{0, 1, 2, max(0, number-1), number, min(number+1, impl.MaxShare), impl.MaxShare - 1, impl.MaxShare} {
				got := impl.HelpPays(folk, i, j, cost, gain)
				if want := i == j && gain > cost; got != want {
					t.Fatalf("HelpPays(%v, %d, %d, %d, %d) = %v", folk, i, j, cost, gain, got)
				}
				pays.add(got)
			}
		}
	})
	pays.check(t, 1000)
	strange.check(t, 1000)
}

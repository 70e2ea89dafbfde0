package tests

import (
	"math/big"
	"slices"
	"testing"

	"loop.example/strategiesthatspread/impl"
)

// meanAgainst returns what a machine has against another one as a number.
func meanAgainst(t *testing.T, a [][]int, m, o impl.Moore) *big.Rat {
	t.Helper()
	x, ok := impl.MeanAgainst(a, m, o)
	if !ok {
		t.Fatalf("MeanAgainst(%v, %v, %v) = %v, %v", a, m, o, x, ok)
	}
	return rat(x)
}

// bestAgainst returns the most that one can have against a machine as a number.
func bestAgainst(t *testing.T, a [][]int, m impl.Moore) *big.Rat {
	t.Helper()
	x, ok := impl.BestAgainst(a, m)
	if !ok {
		t.Fatalf("BestAgainst(%v, %v) = %v, %v", a, m, x, ok)
	}
	return rat(x)
}

// bestByWalks returns the most that one can have against a machine, by walks.
func bestByWalks(t *testing.T, a [][]int, m impl.Moore) impl.Frac {
	t.Helper()
	x, ok := impl.BestByWalks(a, m)
	if !ok {
		t.Fatalf("BestByWalks(%v, %v) = %v, %v", a, m, x, ok)
	}
	return x
}

// meetOf returns how two machines play against each other.
func meetOf(t *testing.T, m, o impl.Moore) (int, [][]int) {
	t.Helper()
	ahead, acts := impl.MeetOf(m, o)
	if ahead < 0 || ahead >= len(acts) {
		t.Fatalf("MeetOf(%v, %v) = %d, %v", m, o, ahead, acts)
	}
	return ahead, acts
}

// shrunkMoore returns the machine with the fewest states that plays the same.
func shrunkMoore(t *testing.T, m impl.Moore) impl.Moore {
	t.Helper()
	small, ok := impl.ShrinkMoore(m)
	if !ok {
		t.Fatalf("ShrinkMoore(%v) = %v, %v", m, small, ok)
	}
	return small
}

func TestPromise42MachinesMayAlwaysDoTheSame(t *testing.T) {
	for _, act := range []int{0, 1} {
		if m := always(act); !impl.ValidMoore(m) {
			t.Errorf("ValidMoore(%v) = false", m)
		}
	}
	for _, act := range []int{-1, 2} {
		if m := always(act); impl.ValidMoore(m) {
			t.Errorf("ValidMoore(%v) = true", m)
		}
	}
}

// actsExchanged returns rounds with the act of the other player first.
func actsExchanged(rounds [][]int) [][]int {
	all := cloned(rounds)
	for _, acts := range all {
		slices.Reverse(acts)
	}
	return all
}

func TestPromise43MeetingsHaveTwoSides(t *testing.T) {
	var uneven, late tally
	forMeetings(func(m, o impl.Moore) {
		ahead, acts := meetOf(t, m, o)
		back, other := meetOf(t, o, m)
		if ahead != back || !sameRows(other, actsExchanged(acts)) {
			t.Fatalf("MeetOf(%v, %v) = %d, %v, but exchanged it is %d, %v", m, o, ahead, acts, back, other)
		}
		if !slices.Equal(acts[0], []int{m.Acts[0], o.Acts[0]}) {
			t.Fatalf("MeetOf(%v, %v) = %d, %v", m, o, ahead, acts)
		}
		uneven.add(!sameRows(acts, other))
		late.add(ahead > 0)
	})
	uneven.check(t, 1000)
	late.check(t, 1000)
}

func TestPromise44MeansAreNoMoreThanTheBest(t *testing.T) {
	var less tally
	tables, k := twoActTables(), 0
	forMeetings(func(m, o impl.Moore) {
		a := tables[k%len(tables)]
		k++
		mean, best := meanAgainst(t, a, m, o), bestAgainst(t, a, o)
		if mean.Cmp(best) > 0 {
			t.Fatalf("MeanAgainst(%v, %v, %v) = %v, but BestAgainst(%v) = %v", a, m, o, mean, o, best)
		}
		ahead, acts := meetOf(t, m, o)
		if want := meanOfRounds(a, acts[ahead:]); mean.Cmp(want) != 0 {
			t.Fatalf("MeanAgainst(%v, %v, %v) = %v, but the rounds are %v behind %d", a, m, o, mean, acts, ahead)
		}
		less.add(mean.Cmp(best) < 0)
	})
	less.check(t, 1000)
}

func TestPromise45TheBestByRoundsIsTheBestByWalks(t *testing.T) {
	var less, more tally
	forMachines(func(a [][]int, m impl.Moore) {
		best := bestAgainst(t, a, m)
		if x := bestByWalks(t, a, m); !isFrac(x, best) {
			t.Fatalf("BestByWalks(%v, %v) = %v, but BestAgainst is %v", a, m, x, best)
		}
		greatest := whole(slices.Max(slices.Concat(a...)))
		if best.Cmp(greatest) > 0 {
			t.Fatalf("BestAgainst(%v, %v) = %v", a, m, best)
		}
		less.add(best.Cmp(greatest) < 0)
		stubborn := []*big.Rat{meanAgainst(t, a, always(0), m), meanAgainst(t, a, always(1), m)}
		if stubborn[0].Cmp(best) > 0 || stubborn[1].Cmp(best) > 0 {
			t.Fatalf("BestAgainst(%v, %v) = %v, but who always does the same has %v", a, m, best, stubborn)
		}
		more.add(stubborn[0].Cmp(best) < 0 && stubborn[1].Cmp(best) < 0)
	})
	less.check(t, 1000)
	more.check(t, 1000)
}

func TestPromise46WhatIsShrunkIsAsGoodToPlayAgainst(t *testing.T) {
	var smaller tally
	forMachines(func(a [][]int, m impl.Moore) {
		small := shrunkMoore(t, m)
		if x, y := bestByWalks(t, a, m), bestByWalks(t, a, small); x != y {
			t.Fatalf("BestByWalks(%v, %v) = %v, but against %v it is %v", a, m, x, small, y)
		}
		smaller.add(len(small.Acts) < len(m.Acts))
	})
	smaller.check(t, 1000)
}

// goneOn returns the acts of some rounds, of which those behind the first ones come again and again.
func goneOn(ahead int, acts [][]int, rounds int) [][]int {
	var all [][]int
	for k := range rounds {
		if k >= ahead {
			k = ahead + (k-ahead)%(len(acts)-ahead)
		}
		all = append(all, acts[k])
	}
	return all
}

func TestPromise47ShrunkMachinesPlayTheSame(t *testing.T) {
	var smaller tally
	others := mooresOf(2)
	for k, m := range allMoores() {
		small := shrunkMoore(t, m)
		if len(small.Acts) > len(m.Acts) {
			t.Fatalf("ShrinkMoore(%v) = %v", m, small)
		}
		if again := shrunkMoore(t, small); !sameMoore(again, small) {
			t.Fatalf("ShrinkMoore(%v) = %v, and this shrunk is %v", m, small, again)
		}
		smaller.add(len(small.Acts) < len(m.Acts))
		if k >= len(smallMoores()) && k%8 > 0 {
			continue
		}
		for _, o := range others {
			ahead, acts := meetOf(t, m, o)
			sooner, fewer := meetOf(t, small, o)
			// Both come again behind at most 8 rounds, and no more than 8 rounds later: what is the same so long is so for ever.
			const rounds = 80
			if !sameRows(goneOn(ahead, acts, rounds), goneOn(sooner, fewer, rounds)) {
				t.Fatalf("against %v %v plays as %v behind %d, but %v as %v behind %d", o, m, acts, ahead, small, fewer, sooner)
			}
		}
	}
	smaller.check(t, 1000)
}

func TestPromise80StubbornMachinesPlayATableOnce(t *testing.T) {
	for _, a := range twoActTables() {
		for j := range 2 {
			for i := range 2 {
				if x := meanAgainst(t, a, always(i), always(j)); x.Cmp(whole(a[i][j])) != 0 {
					t.Fatalf("MeanAgainst(%v, %v, %v) = %v", a, always(i), always(j), x)
				}
			}
			if x := bestAgainst(t, a, always(j)); x.Cmp(whole(max(a[0][j], a[1][j]))) != 0 {
				t.Fatalf("BestAgainst(%v, %v) = %v", a, always(j), x)
			}
		}
	}
}

func TestPromise81WhoGivesBackWhatWasGivenHasAsMuch(t *testing.T) {
	var moved tally
	forMachines(func(a [][]int, m impl.Moore) {
		for _, back := range []impl.Moore{echo(), slowEcho()} {
			x, y := meanAgainst(t, a, back, m), meanAgainst(t, a, m, back)
			if x.Cmp(y) != 0 {
				t.Fatalf("MeanAgainst(%v, %v, %v) = %v, but the other way round it is %v", a, back, m, x, y)
			}
			ahead, acts := meetOf(t, back, m)
			moved.add(has(acts[ahead:], 0, 1))
		}
	})
	moved.check(t, 1000)
}

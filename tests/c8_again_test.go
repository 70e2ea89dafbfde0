package tests

import (
	"math/big"
	"slices"
	"testing"

	"loop.example/strategiesthatspread/impl"
)

// round is a machine that does some acts one after the other, whatever the other one does, and then goes on at one of them.
func round(again int, acts ...int) impl.Moore {
	m := impl.Moore{Acts: acts}
	for state := range acts {
		to := state + 1
		if to == len(acts) {
			to = again
		}
		m.Next = append(m.Next, []int{to, to})
	}
	return m
}

// split is a machine whose second state is never met.
func split(first, second int) impl.Moore {
	return impl.Moore{Acts: []int{first, second}, Next: [][]int{{0, 0}, {1, 1}}}
}

// slowEcho is an echo with one state more than it needs.
func slowEcho() impl.Moore {
	return impl.Moore{Acts: []int{0, 1, 1}, Next: [][]int{{0, 1}, {0, 2}, {0, 1}}}
}

func TestValidMoore(t *testing.T) {
	known := []impl.Moore{always(0), always(1), echo(), slowEcho(), flip(), grim(), split(0, 1), round(0, 0, 1, 1, 0), round(3, 1, 1, 1, 0)}
	for _, m := range append(known, allMoores()...) {
		if !impl.ValidMoore(m) {
			t.Fatalf("ValidMoore(%v) = false", m)
		}
	}
	for _, m := range badMoores() {
		if impl.ValidMoore(m) {
			t.Errorf("ValidMoore(%v) = true", m)
		}
	}
}

func TestValidMooreOfAllNumbersForFewStates(t *testing.T) {
	for n, valid := range []int{0, 2, 64} {
		found := 0
		forRowsOf(n, -1, 2, func(acts []int) {
			forRowsOf(2*n, -1, n, func(next []int) {
				m := impl.Moore{Acts: acts}
				for state := range n {
					m.Next = append(m.Next, next[2*state:2*state+2])
				}
				good := func(row []int, most int) bool { return slices.Min(row) >= 0 && slices.Max(row) <= most }
				want := n > 0 && good(acts, 1) && good(next, n-1)
				if impl.ValidMoore(m) != want {
					t.Fatalf("ValidMoore(%v) = %v", m, !want)
				}
				if want {
					found++
				}
			})
		})
		if found != valid {
			t.Errorf("%d machines have %d states, not %d", found, n, valid)
		}
	}
}

func TestMeetOf(t *testing.T) {
	for _, c := range []struct {
		m, o  impl.Moore
		ahead int
		acts  [][]int
	}{
		// Machines of one state.
		{always(0), always(0), 0, [][]int{{0, 0}}},
		{always(0), always(1), 0, [][]int{{0, 1}}},
		{always(1), always(0), 0, [][]int{{1, 0}}},
		{always(1), always(1), 0, [][]int{{1, 1}}},
		{always(1), flip(), 0, [][]int{{1, 1}, {1, 0}}},
		// Echoes.
		{echo(), always(0), 0, [][]int{{0, 0}}},
		{echo(), always(1), 1, [][]int{{0, 1}, {1, 1}}},
		{echo(), echo(), 0, [][]int{{0, 0}}},
		{echo(), flip(), 0, [][]int{{0, 1}, {1, 0}}},
		{flip(), echo(), 0, [][]int{{1, 0}, {0, 1}}},
		{slowEcho(), always(1), 1, [][]int{{0, 1}, {1, 1}, {1, 1}}},
		{slowEcho(), round(0, 1, 1, 0, 0), 0, [][]int{{0, 1}, {1, 1}, {1, 0}, {0, 0}}},
		// States that are never met.
		{split(0, 1), always(1), 0, [][]int{{0, 1}}},
		{split(1, 0), split(0, 1), 0, [][]int{{1, 0}}},
		{grim(), always(0), 0, [][]int{{0, 0}}},
		{grim(), grim(), 0, [][]int{{0, 0}}},
		// Some rounds come ahead.
		{grim(), flip(), 1, [][]int{{0, 1}, {1, 0}, {1, 1}}},
		{flip(), grim(), 1, [][]int{{1, 0}, {0, 1}, {1, 1}}},
		{round(3, 0, 0, 0, 1), always(1), 3, [][]int{{0, 1}, {0, 1}, {0, 1}, {1, 1}}},
		// The acts come again, but the states do not.
		{round(0, 0, 0), always(0), 0, [][]int{{0, 0}, {0, 0}}},
		{round(1, 1, 1, 1, 1), always(0), 1, [][]int{{1, 0}, {1, 0}, {1, 0}, {1, 0}}},
		{round(0, 0, 1, 0), round(0, 1, 0), 0, [][]int{{0, 1}, {1, 0}, {0, 1}, {0, 0}, {1, 1}, {0, 0}}},
		// Of one machine the states come again, of the other one not yet.
		{round(0, 0, 1), round(2, 1, 1, 0, 0), 2, [][]int{{0, 1}, {1, 1}, {0, 0}, {1, 0}}},
		{round(0, 0, 0, 1), round(3, 1, 1, 1, 0), 3, [][]int{{0, 1}, {0, 1}, {1, 1}, {0, 0}, {0, 0}, {1, 0}}},
	} {
		if ahead, acts := impl.MeetOf(c.m, c.o); ahead != c.ahead || !sameRows(acts, c.acts) {
			t.Errorf("MeetOf(%v, %v) = %d, %v, not %d, %v", c.m, c.o, ahead, acts, c.ahead, c.acts)
		}
	}
}

// playedOut returns the states and the acts of two machines in some rounds from the first one on.
func playedOut(m, o impl.Moore, rounds int) (states, acts [][]int) {
	i, j := 0, 0
	for range rounds {
		states = append(states, []int{i, j})
		acts = append(acts, []int{m.Acts[i], o.Acts[j]})
		i, j = m.Next[i][o.Acts[j]], o.Next[j][m.Acts[i]]
	}
	return states, acts
}

// wantedMeeting tells how two machines meet, as MeetOf defines it.
func wantedMeeting(m, o impl.Moore) (int, [][]int) {
	states, acts := playedOut(m, o, 20)
	again := 1
	for !has(states[:again], states[again]...) {
		again++
	}
	ahead := slices.IndexFunc(states, func(both []int) bool { return slices.Equal(both, states[again]) })
	return ahead, acts[:again]
}

func TestMeetOfPlaysUntilTheStatesComeAgain(t *testing.T) {
	late, long := 0, 0
	forMeetings(func(m, o impl.Moore) {
		ahead, acts := wantedMeeting(m, o)
		if got, rounds := impl.MeetOf(m, o); got != ahead || !sameRows(rounds, acts) {
			t.Fatalf("MeetOf(%v, %v) = %d, %v, not %d, %v", m, o, got, rounds, ahead, acts)
		}
		if ahead > 1 {
			late++
		}
		if len(acts)-ahead > 4 {
			long++
		}
	})
	if late < 1000 || long < 100 {
		t.Errorf("only %d meetings have more than one round ahead, and %d more than four that come again", late, long)
	}
}

func TestMeanAgainst(t *testing.T) {
	given := [][]int{{-9, 4}, {7, 2}}
	for _, c := range []struct {
		a    [][]int
		m, o impl.Moore
		want impl.Frac
	}{
		// Machines of one state.
		{dilemma(), always(0), always(0), impl.Frac{Up: 3, Down: 1}},
		{dilemma(), always(0), always(1), impl.Frac{Up: 0, Down: 1}},
		{dilemma(), always(1), always(0), impl.Frac{Up: 5, Down: 1}},
		{dilemma(), always(1), always(1), impl.Frac{Up: 1, Down: 1}},
		{given, always(0), always(0), impl.Frac{Up: -9, Down: 1}},
		// Echoes.
		{dilemma(), echo(), always(1), impl.Frac{Up: 1, Down: 1}},
		{dilemma(), always(1), echo(), impl.Frac{Up: 1, Down: 1}},
		{dilemma(), echo(), echo(), impl.Frac{Up: 3, Down: 1}},
		{dilemma(), flip(), echo(), impl.Frac{Up: 5, Down: 2}},
		{dilemma(), echo(), flip(), impl.Frac{Up: 5, Down: 2}},
		{given, round(0, 1, 0, 0), echo(), impl.Frac{Up: 2, Down: 3}},
		{given, slowEcho(), round(0, 1, 0, 0), impl.Frac{Up: 2, Down: 3}},
		// States that are never met.
		{given, split(0, 1), split(1, 0), impl.Frac{Up: 4, Down: 1}},
		{given, grim(), always(0), impl.Frac{Up: -9, Down: 1}},
		// The rounds ahead do not count.
		{dilemma(), grim(), always(1), impl.Frac{Up: 1, Down: 1}},
		{given, grim(), flip(), impl.Frac{Up: 9, Down: 2}},
		{given, round(3, 0, 0, 0, 1), always(0), impl.Frac{Up: 7, Down: 1}},
		// Fractions have no common factor, and the sign is above.
		{given, round(0, 0, 0, 0, 1), always(0), impl.Frac{Up: -5, Down: 1}},
		{given, round(0, 0, 0, 1, 1), always(0), impl.Frac{Up: -1, Down: 1}},
		{given, round(0, 0, 0, 1), always(0), impl.Frac{Up: -11, Down: 3}},
		{[][]int{{1, 0}, {-1, 0}}, flip(), always(0), impl.Frac{Up: 0, Down: 1}},
		{[][]int{{-1, 0}, {0, 0}}, flip(), always(0), impl.Frac{Up: -1, Down: 2}},
	} {
		if x, ok := impl.MeanAgainst(c.a, c.m, c.o); !ok || x != c.want {
			t.Errorf("MeanAgainst(%v, %v, %v) = %v, %v, not %v", c.a, c.m, c.o, x, ok, c.want)
		}
	}
}

// meanOfRounds returns the mean of what the first player has by a table in some rounds.
func meanOfRounds(a [][]int, rounds [][]int) *big.Rat {
	all := 0
	for _, acts := range rounds {
		all += a[acts[0]][acts[1]]
	}
	return big.NewRat(int64(all), int64(len(rounds)))
}

// wantedMean is what a machine has against another one, as MeanAgainst defines it.
func wantedMean(a [][]int, m, o impl.Moore) *big.Rat {
	ahead, acts := wantedMeeting(m, o)
	return meanOfRounds(a, acts[ahead:])
}

func TestMeanAgainstIsTheMeanOfWhatIsPlayed(t *testing.T) {
	tables, k := twoActTables(), 0
	forMeetings(func(m, o impl.Moore) {
		a := tables[k%len(tables)]
		k++
		want := wantedMean(a, m, o)
		if x, ok := impl.MeanAgainst(a, m, o); !ok || !isFrac(x, want) {
			t.Fatalf("MeanAgainst(%v, %v, %v) = %v, %v, not %v", a, m, o, x, ok, want)
		}
	})
}

// knownBest is the most that one can have against a machine by a table.
type knownBest struct {
	a    [][]int
	m    impl.Moore
	want impl.Frac
}

// knownBests are told by hand.
func knownBests() []knownBest {
	low := [][]int{{-3, -3}, {-2, -3}}
	trap := impl.Moore{Acts: []int{0, 1, 0}, Next: [][]int{{0, 1}, {2, 1}, {2, 2}}}
	return []knownBest{
		// Machines of one state.
		{dilemma(), always(0), impl.Frac{Up: 5, Down: 1}},
		{dilemma(), always(1), impl.Frac{Up: 1, Down: 1}},
		{low, always(0), impl.Frac{Up: -2, Down: 1}},
		{low, always(1), impl.Frac{Up: -3, Down: 1}},
		// Echoes.
		{dilemma(), echo(), impl.Frac{Up: 3, Down: 1}},
		{[][]int{{3, 0}, {7, 1}}, echo(), impl.Frac{Up: 7, Down: 2}},
		{[][]int{{3, 0}, {7, 1}}, slowEcho(), impl.Frac{Up: 7, Down: 2}},
		{[][]int{{0, 0}, {0, 9}}, echo(), impl.Frac{Up: 9, Down: 1}},
		{[][]int{{-1, -9}, {9, -1}}, echo(), impl.Frac{Up: 0, Down: 1}},
		// Flips, and machines that go round whatever the other one does.
		{dilemma(), flip(), impl.Frac{Up: 3, Down: 1}},
		{dilemma(), round(0, 0, 0, 1), impl.Frac{Up: 11, Down: 3}},
		{dilemma(), round(0, 1, 1, 0), impl.Frac{Up: 7, Down: 3}},
		{dilemma(), round(0, 0, 0, 0, 1), impl.Frac{Up: 4, Down: 1}},
		{[][]int{{0, 0}, {1, 0}}, round(0, 0, 0, 0, 1), impl.Frac{Up: 3, Down: 4}},
		{low, round(0, 0, 1, 1, 1), impl.Frac{Up: -11, Down: 4}},
		// States that are never met.
		{[][]int{{0, 9}, {0, 9}}, split(0, 1), impl.Frac{Up: 0, Down: 1}},
		{[][]int{{0, 9}, {-1, 9}}, split(0, 1), impl.Frac{Up: 0, Down: 1}},
		{[][]int{{0, 9}, {-1, 9}}, impl.Moore{Acts: []int{0, 0, 1, 1}, Next: [][]int{{1, 1}, {0, 0}, {0, 3}, {2, 1}}}, impl.Frac{Up: 0, Down: 1}},
		// What comes but once does not count.
		{dilemma(), grim(), impl.Frac{Up: 3, Down: 1}},
		{[][]int{{0, 0}, {5, 1}}, grim(), impl.Frac{Up: 1, Down: 1}},
		{[][]int{{0, -9}, {9, -8}}, grim(), impl.Frac{Up: 0, Down: 1}},
		{dilemma(), round(3, 0, 0, 0, 1), impl.Frac{Up: 1, Down: 1}},
		// The best rounds come late, or never again once they are left.
		{[][]int{{-9, -9}, {-9, 9}}, round(3, 0, 0, 0, 1), impl.Frac{Up: 9, Down: 1}},
		{[][]int{{1, 0}, {0, 2}}, trap, impl.Frac{Up: 2, Down: 1}},
		{[][]int{{3, 0}, {0, 2}}, trap, impl.Frac{Up: 3, Down: 1}},
		{[][]int{{0, 9}, {4, 3}}, trap, impl.Frac{Up: 4, Down: 1}},
	}
}

func TestBestAgainst(t *testing.T) {
	for _, k := range knownBests() {
		if x, ok := impl.BestAgainst(k.a, k.m); !ok || x != k.want {
			t.Errorf("BestAgainst(%v, %v) = %v, %v, not %v", k.a, k.m, x, ok, k.want)
		}
	}
}

func TestBestByWalks(t *testing.T) {
	for _, k := range knownBests() {
		if x, ok := impl.BestByWalks(k.a, k.m); !ok || x != k.want {
			t.Errorf("BestByWalks(%v, %v) = %v, %v, not %v", k.a, k.m, x, ok, k.want)
		}
	}
}

// followers are all machines that know the state of a machine: each one has its states, and does one act in each of them.
func followers(m impl.Moore) []impl.Moore {
	var all []impl.Moore
	forRowsOf(len(m.Acts), 0, 1, func(acts []int) {
		o := impl.Moore{Acts: slices.Clone(acts)}
		for state, act := range acts {
			to := m.Next[state][act]
			o.Next = append(o.Next, []int{to, to})
		}
		all = append(all, o)
	})
	return all
}

// wantedBest is the most that one who knows the state of a machine has against it.
func wantedBest(a [][]int, m impl.Moore) *big.Rat {
	var best *big.Rat
	for _, o := range followers(m) {
		if mean := wantedMean(a, o, m); best == nil || mean.Cmp(best) > 0 {
			best = mean
		}
	}
	return best
}

// forMachines calls a function with tables and machines with which the tests try what holds of each one.
func forMachines(try func(a [][]int, m impl.Moore)) {
	for _, a := range twoActTables() {
		for _, m := range smallMoores() {
			try(a, m)
		}
	}
	tables := twoActTables()
	for k, m := range allMoores() {
		try(tables[k%len(tables)], m)
		try(tables[k/2%len(tables)], m)
	}
}

func TestTheBestIsWhatOneHasWhoKnowsTheState(t *testing.T) {
	parts := 0
	forMachines(func(a [][]int, m impl.Moore) {
		want := wantedBest(a, m)
		if x, ok := impl.BestAgainst(a, m); !ok || !isFrac(x, want) {
			t.Fatalf("BestAgainst(%v, %v) = %v, %v, not %v", a, m, x, ok, want)
		}
		if x, ok := impl.BestByWalks(a, m); !ok || !isFrac(x, want) {
			t.Fatalf("BestByWalks(%v, %v) = %v, %v, not %v", a, m, x, ok, want)
		}
		if !want.IsInt() {
			parts++
		}
	})
	if parts < 1000 {
		t.Errorf("only %d times the best is no whole number", parts)
	}
}

func TestShrinkMoore(t *testing.T) {
	for _, c := range []struct{ m, want impl.Moore }{
		// Machines of one state, and others that need all states they have.
		{always(0), always(0)},
		{always(1), always(1)},
		{echo(), echo()},
		{flip(), flip()},
		{grim(), grim()},
		{round(0, 0, 0, 0, 1), round(0, 0, 0, 0, 1)},
		{round(3, 0, 0, 0, 1), round(3, 0, 0, 0, 1)},
		{round(1, 0, 1, 0, 1), round(1, 0, 1, 0, 1)},
		// Echoes of more states.
		{slowEcho(), echo()},
		{impl.Moore{Acts: []int{0, 0, 1, 1}, Next: [][]int{{1, 2}, {0, 3}, {1, 3}, {0, 2}}}, echo()},
		// States that are never met.
		{split(0, 1), always(0)},
		{split(1, 0), always(1)},
		{impl.Moore{Acts: []int{0, 1, 1, 0}, Next: [][]int{{0, 3}, {0, 2}, {1, 3}, {3, 0}}}, always(0)},
		{impl.Moore{Acts: []int{0, 0, 1}, Next: [][]int{{0, 2}, {1, 1}, {0, 2}}}, echo()},
		// States that do the same for ever.
		{round(0, 1, 1, 1, 1), always(1)},
		{round(0, 0, 1, 0, 1), round(0, 0, 1)},
		{round(2, 1, 1, 0, 0), round(2, 1, 1, 0)},
		{round(1, 0, 1, 0), round(0, 0, 1)},
		{impl.Moore{Acts: []int{0, 1, 1}, Next: [][]int{{0, 2}, {2, 2}, {1, 1}}}, grim()},
		// The order is that in which the states come, by 0 first.
		{impl.Moore{Acts: []int{0, 1, 0}, Next: [][]int{{2, 1}, {0, 0}, {1, 1}}}, impl.Moore{Acts: []int{0, 0, 1}, Next: [][]int{{1, 2}, {2, 2}, {0, 0}}}},
		{impl.Moore{Acts: []int{1, 0, 0, 1}, Next: [][]int{{0, 3}, {2, 0}, {1, 1}, {3, 2}}}, impl.Moore{Acts: []int{1, 1, 0, 0}, Next: [][]int{{0, 1}, {1, 2}, {3, 3}, {2, 0}}}},
		{impl.Moore{Acts: []int{1, 1, 0, 0}, Next: [][]int{{3, 2}, {0, 1}, {1, 3}, {2, 0}}}, impl.Moore{Acts: []int{1, 0, 0, 1}, Next: [][]int{{1, 2}, {2, 0}, {3, 1}, {0, 3}}}},
		{impl.Moore{Acts: []int{0, 1, 0, 1}, Next: [][]int{{0, 3}, {1, 2}, {0, 1}, {3, 2}}}, impl.Moore{Acts: []int{0, 1}, Next: [][]int{{0, 1}, {1, 0}}}},
	} {
		if got, ok := impl.ShrinkMoore(c.m); !ok || !sameMoore(got, c.want) {
			t.Errorf("ShrinkMoore(%v) = %v, %v, not %v", c.m, got, ok, c.want)
		}
	}
}

// actsFrom tells what a machine does from a state on in some rounds, for all that the other one may do.
func actsFrom(m impl.Moore, state, rounds int) string {
	if rounds == 0 {
		return ""
	}
	own := string(rune('0' + m.Acts[state]))
	return own + actsFrom(m, m.Next[state][0], rounds-1) + actsFrom(m, m.Next[state][1], rounds-1)
}

// enoughRounds are so many that two machines of up to three states, or two states of one machine, that play the same in all of them do so for ever.
const enoughRounds = 6

// statesMet are the states of a machine that are reached from the first one, in the order in which they come, by 0 first.
func statesMet(m impl.Moore) []int {
	met := []int{0}
	for i := 0; i < len(met); i++ {
		for _, to := range m.Next[met[i]] {
			if !slices.Contains(met, to) {
				met = append(met, to)
			}
		}
	}
	return met
}

// inOrder reports whether all states of a machine are met in their order.
func inOrder(m impl.Moore) bool {
	met := statesMet(m)
	return len(met) == len(m.Acts) && slices.IsSorted(met)
}

// statesNeeded tells how many states of a machine that are met play differently.
func statesNeeded(m impl.Moore) int {
	ways := map[string]bool{}
	for _, state := range statesMet(m) {
		ways[actsFrom(m, state, enoughRounds)] = true
	}
	return len(ways)
}

func TestShrinkMooreIsTheSameMachineOfFewestStatesInOrder(t *testing.T) {
	sizes := map[[2]int]int{}
	for _, m := range allMoores() {
		small, ok := impl.ShrinkMoore(m)
		if !ok || !impl.ValidMoore(small) || !inOrder(small) || len(small.Acts) != statesNeeded(m) {
			t.Fatalf("ShrinkMoore(%v) = %v, %v", m, small, ok)
		}
		// Machines of up to four states that play the same in seven rounds do so for ever.
		if actsFrom(small, 0, 7) != actsFrom(m, 0, 7) {
			t.Fatalf("ShrinkMoore(%v) = %v, but this plays otherwise", m, small)
		}
		sizes[[2]int{len(m.Acts), len(small.Acts)}]++
	}
	for n := 1; n <= impl.MaxStates; n++ {
		for fewer := 1; fewer <= n; fewer++ {
			if sizes[[2]int{n, fewer}] < 2 {
				t.Errorf("only %d machines of %d states need %d", sizes[[2]int{n, fewer}], n, fewer)
			}
		}
	}
}

func TestShrinkMooreIsTheSameForAllThatPlayTheSame(t *testing.T) {
	shrunk, merged := map[string]impl.Moore{}, 0
	// Those of fewer states come first, so that the first one of those that play the same has the fewest.
	for n := 1; n <= 3; n++ {
		for _, m := range mooresOf(n) {
			way := actsFrom(m, 0, enoughRounds)
			got, ok := impl.ShrinkMoore(m)
			want, known := shrunk[way]
			if !known {
				if len(got.Acts) != n {
					t.Fatalf("ShrinkMoore(%v) = %v, but no machine of fewer states plays so", m, got)
				}
				shrunk[way] = got
				continue
			}
			if merged++; !ok || !sameMoore(got, want) {
				t.Fatalf("ShrinkMoore(%v) = %v, %v, but of another one that plays the same it is %v", m, got, ok, want)
			}
		}
	}
	if merged < 1000 || len(shrunk) < 1000 {
		t.Errorf("only %d machines play as others, and %d as no other one", merged, len(shrunk))
	}
}

// checkNoMeeting fails if MeetOf has a result.
func checkNoMeeting(t *testing.T, m, o impl.Moore) {
	t.Helper()
	keptM, keptO := clonedMoore(m), clonedMoore(o)
	if ahead, acts := impl.MeetOf(m, o); ahead != -1 || len(acts) != 0 {
		t.Errorf("MeetOf(%v, %v) = %d, %v", m, o, ahead, acts)
	}
	if !sameMoore(m, keptM) || !sameMoore(o, keptO) {
		t.Errorf("the machines %v and %v are changed to %v and %v", keptM, keptO, m, o)
	}
}

// checkNoMeanAgainst fails if MeanAgainst has a result.
func checkNoMeanAgainst(t *testing.T, a [][]int, m, o impl.Moore) {
	t.Helper()
	keptA, keptM, keptO := cloned(a), clonedMoore(m), clonedMoore(o)
	if x, ok := impl.MeanAgainst(a, m, o); ok || x != (impl.Frac{}) {
		t.Errorf("MeanAgainst(%v, %v, %v) = %v, %v", a, m, o, x, ok)
	}
	if !sameRows(a, keptA) || !sameMoore(m, keptM) || !sameMoore(o, keptO) {
		t.Errorf("the table %v or the machines %v and %v are changed to %v, %v and %v", keptA, keptM, keptO, a, m, o)
	}
}

// checkNoBest fails if BestAgainst or BestByWalks has a result.
func checkNoBest(t *testing.T, a [][]int, m impl.Moore) {
	t.Helper()
	keptA, kept := cloned(a), clonedMoore(m)
	if x, ok := impl.BestAgainst(a, m); ok || x != (impl.Frac{}) {
		t.Errorf("BestAgainst(%v, %v) = %v, %v", a, m, x, ok)
	}
	if x, ok := impl.BestByWalks(a, m); ok || x != (impl.Frac{}) {
		t.Errorf("BestByWalks(%v, %v) = %v, %v", a, m, x, ok)
	}
	if !sameRows(a, keptA) || !sameMoore(m, kept) {
		t.Errorf("the table %v or the machine %v is changed to %v and %v", keptA, kept, a, m)
	}
}

func TestMachinesThatAreNotValid(t *testing.T) {
	for _, bad := range badMoores() {
		for _, good := range []impl.Moore{always(0), echo(), grim(), round(0, 0, 1, 0, 1)} {
			checkNoMeeting(t, bad, good)
			checkNoMeeting(t, good, bad)
			checkNoMeanAgainst(t, dilemma(), bad, good)
			checkNoMeanAgainst(t, dilemma(), good, bad)
		}
		checkNoMeeting(t, bad, bad)
		checkNoMeanAgainst(t, dilemma(), bad, bad)
		checkNoBest(t, dilemma(), bad)
		checkNoBest(t, sameSquare(0, 2), bad)
		kept := clonedMoore(bad)
		if small, ok := impl.ShrinkMoore(bad); ok || len(small.Acts) != 0 || len(small.Next) != 0 {
			t.Errorf("ShrinkMoore(%v) = %v, %v", bad, small, ok)
		}
		impl.ValidMoore(bad)
		if !sameMoore(bad, kept) {
			t.Errorf("the machine %v is changed to %v", kept, bad)
		}
	}
}

func TestMachinesWithTablesThatAreNotOfTwoActs(t *testing.T) {
	for _, a := range notOfTwoActs() {
		for _, m := range []impl.Moore{always(0), always(1), echo(), grim(), round(0, 0, 1, 0, 1), {}} {
			checkNoBest(t, a, m)
			checkNoMeanAgainst(t, a, m, m)
			checkNoMeanAgainst(t, a, m, always(0))
			checkNoMeanAgainst(t, a, echo(), m)
		}
	}
}

func TestMachinesAreNotChanged(t *testing.T) {
	tables, k := twoActTables(), 0
	forMeetings(func(m, o impl.Moore) {
		table, first, second := guarded(tables[k%len(tables)]), guardMoore(m), guardMoore(o)
		k++
		impl.ValidMoore(first.machine)
		_, acts := impl.MeetOf(first.machine, second.machine)
		impl.MeanAgainst(table.table, first.machine, second.machine)
		impl.BestAgainst(table.table, first.machine)
		impl.BestByWalks(table.table, second.machine)
		small, _ := impl.ShrinkMoore(first.machine)
		// The results are new memory: to write over one changes no argument, and no other list of it.
		checkApart(t, "MeetOf", acts...)
		checkApart(t, "ShrinkMoore", append([][]int{small.Acts}, small.Next...)...)
		clear(acts[:cap(acts)])
		clear(small.Next[:cap(small.Next)])
		if !table.unchanged() || !first.unchanged() || !second.unchanged() {
			t.Fatalf("the table %v or the machines %v and %v are changed", tables[(k-1)%len(tables)], m, o)
		}
	})
}

func TestMachinesKeepNoState(t *testing.T) {
	tables, k := twoActTables(), 0
	forMeetings(func(m, o impl.Moore) {
		a := tables[k%len(tables)]
		k++
		ahead, acts := impl.MeetOf(m, o)
		small, _ := impl.ShrinkMoore(m)
		mean, _ := impl.MeanAgainst(a, m, o)
		best, _ := impl.BestAgainst(a, m)
		kept, keptSmall := cloned(acts), clonedMoore(small)
		impl.MeetOf(o, m)
		impl.ShrinkMoore(o)
		impl.MeanAgainst(dilemma(), o, m)
		impl.BestAgainst(dilemma(), o)
		impl.BestByWalks(dilemma(), o)
		if !sameRows(acts, kept) || !sameMoore(small, keptSmall) {
			t.Fatalf("MeetOf(%v, %v) or ShrinkMoore(%v) is changed by another call", m, o, m)
		}
		for _, list := range slices.Concat(acts, small.Next, [][]int{small.Acts}) {
			scribble(list)
		}
		if n, again := impl.MeetOf(m, o); n != ahead || !sameRows(again, kept) {
			t.Fatalf("MeetOf(%v, %v) = %d, %v at first, and then %d, %v", m, o, ahead, kept, n, again)
		}
		if again, _ := impl.ShrinkMoore(m); !sameMoore(again, keptSmall) {
			t.Fatalf("ShrinkMoore(%v) = %v at first, and then %v", m, keptSmall, again)
		}
		x, _ := impl.MeanAgainst(a, m, o)
		y, _ := impl.BestAgainst(a, m)
		if z, _ := impl.BestByWalks(a, m); x != mean || y != best || z != best {
			t.Fatalf("the mean and the best of %v, %v and %v are %v and %v at first, and then %v, %v and %v", a, m, o, mean, best, x, y, z)
		}
	})
}

package tests

import (
	"slices"
	"testing"

	"loop.example/strategiesthatspread/impl"
)

func TestValidTalk(t *testing.T) {
	for _, talk := range allTalks() {
		if !impl.ValidTalk(talk) {
			t.Fatalf("ValidTalk(%v) = false", talk)
		}
	}
	for _, talk := range badTalks() {
		if impl.ValidTalk(talk) {
			t.Errorf("ValidTalk(%v) = true", talk)
		}
	}
}

func TestValidTalkOfEachNumber(t *testing.T) {
	for n := -2 * impl.MaxPay; n <= 2*impl.MaxPay; n++ {
		for place := range 2 {
			talk := plainTalk()
			talk.Weights[place] = n
			if want := n >= 1 && n <= impl.MaxPay; impl.ValidTalk(talk) != want {
				t.Errorf("ValidTalk(%v) = %v", talk, !want)
			}
		}
		for place := range 4 {
			speaks, hears, costs := plainTalk(), plainTalk(), plainTalk()
			speaks.Speaks[place/2][place%2] = n
			hears.Hears[place/2][place%2] = n
			costs.Costs[place/2][place%2] = n
			isPay := n >= -impl.MaxPay && n <= impl.MaxPay
			if impl.ValidTalk(speaks) != isPay {
				t.Errorf("ValidTalk(%v) = %v", speaks, !isPay)
			}
			if impl.ValidTalk(hears) != isPay {
				t.Errorf("ValidTalk(%v) = %v", hears, !isPay)
			}
			if want := n >= 0 && n <= impl.MaxPay; impl.ValidTalk(costs) != want {
				t.Errorf("ValidTalk(%v) = %v", costs, !want)
			}
		}
	}
}

func TestTalkPays(t *testing.T) {
	// Each number tells from where it comes.
	talk := impl.Talk{Weights: []int{2, 3}, Speaks: [][]int{{1, 4}, {-5, 9}}, Hears: [][]int{{7, -6}, {8, -9}}, Costs: [][]int{{1, 3}, {0, 5}}}
	greatest := impl.Talk{Weights: []int{9, 9}, Speaks: [][]int{{9, -9}, {9, -9}}, Hears: [][]int{{9, -9}, {9, -9}}, Costs: [][]int{{0, 9}, {0, 9}}}
	for _, c := range []struct {
		talk                 impl.Talk
		s, r                 int
		first, second, heard int
	}{
		// Both give the signal 0.
		{talk, 0, 0, 0, -5, 38},
		{talk, 0, 1, 3, 9, -39},
		{talk, 0, 2, 0, -5, 38},
		{talk, 0, 3, 3, 9, -39},
		// The type 0 gives the signal 1.
		{talk, 1, 0, -2, -5, 38},
		{talk, 1, 1, -2, 9, -13},
		{talk, 1, 2, 1, -5, 12},
		{talk, 1, 3, 1, 9, -39},
		// The type 1 gives the signal 1.
		{talk, 2, 0, 0, -10, 38},
		{talk, 2, 1, 3, -10, 12},
		{talk, 2, 2, 0, 4, -13},
		{talk, 2, 3, 3, 4, -39},
		// Both give the signal 1.
		{talk, 3, 0, -2, -10, 38},
		{talk, 3, 1, -2, -10, 38},
		{talk, 3, 2, 1, 4, -39},
		{talk, 3, 3, 1, 4, -39},
		// The greatest and the least that there is.
		{greatest, 0, 0, 9, 9, 162},
		{greatest, 3, 3, -18, -18, -162},
		{greatest, 1, 2, -18, 9, 0},
		{greatest, 2, 1, -9, 0, 0},
		// Talk for nothing.
		{freeOf(greatest), 3, 3, -9, -9, -162},
		{freeOf(talk), 1, 2, 4, -5, 12},
		{plainTalk(), 2, 2, 1, 1, 2},
		{plainTalk(), 1, 1, 1, 1, 2},
		{plainTalk(), 1, 2, 0, 0, 0},
		{plainTalk(), 3, 1, 1, 0, 1},
	} {
		if spoken, heard := impl.TalkPays(c.talk, c.s, c.r); !slices.Equal(spoken, []int{c.first, c.second}) || heard != c.heard {
			t.Errorf("TalkPays(%v, %d, %d) = %v, %d, not [%d %d] and %d", c.talk, c.s, c.r, spoken, heard, c.first, c.second, c.heard)
		}
	}
}

// memberOf tells 1 for a member of a set, and 0 for what is not in it.
func memberOf(set, i int) int {
	if slices.Contains(membersOf(set), i) {
		return 1
	}
	return 0
}

// wantedTalkPays are what both types have, and who hears, who meets each type as often as its weight tells.
func wantedTalkPays(talk impl.Talk, s, r int) ([]int, int) {
	var spoken, heard []int
	for kind, weight := range talk.Weights {
		said := memberOf(s, kind)
		done := memberOf(r, said)
		spoken = append(spoken, talk.Speaks[kind][done]-talk.Costs[kind][said])
		for range weight {
			heard = append(heard, talk.Hears[kind][done])
		}
	}
	return spoken, sum(heard)
}

// forWays calls a function with all ways to speak and to hear.
func forWays(try func(s, r int)) {
	for s := range 4 {
		for r := range 4 {
			try(s, r)
		}
	}
}

func TestTalkPaysAreOfEachTypeOnItsOwn(t *testing.T) {
	for _, talk := range allTalks() {
		forWays(func(s, r int) {
			want, least := wantedTalkPays(talk, s, r)
			if spoken, heard := impl.TalkPays(talk, s, r); !slices.Equal(spoken, want) || heard != least {
				t.Fatalf("TalkPays(%v, %d, %d) = %v, %d, not %v and %d", talk, s, r, spoken, heard, want, least)
			}
		})
	}
}

// knownTalk is a talk, its rests, whether it tells, and from which cost on it would.
type knownTalk struct {
	talk   impl.Talk
	rests  [][]int
	tells  bool
	honest int
}

// allWays are all pairs of a way to speak and a way to hear.
func allWays() [][]int {
	var all [][]int
	forWays(func(s, r int) { all = append(all, []int{s, r}) })
	return all
}

// knownTalks are told by hand.
func knownTalks() []knownTalk {
	evenly := [][]int{{3, 3}, {5, 5}}
	mostly := plainTalk()
	mostly.Weights = []int{2, 1}
	rare := sameWish()
	rare.Weights = []int{3, 1}
	return []knownTalk{
		// Who speaks and who hears want the same: it tells by both signals, and says nothing by each one.
		{plainTalk(), [][]int{{0, 0}, {0, 3}, {1, 1}, {2, 2}, {3, 0}, {3, 3}}, true, 0},
		{mostly, [][]int{{0, 0}, {1, 1}, {2, 2}, {3, 0}}, true, 0},
		// Types that want the same are not told for nothing.
		{sameWish(), [][]int{{0, 0}, {0, 1}, {0, 3}, {3, 0}, {3, 2}, {3, 3}}, false, 1},
		{rare, [][]int{{0, 0}, {3, 0}}, false, 1},
		// Signals that cost the same are as those that cost nothing.
		{withCosts(plainTalk(), evenly), [][]int{{0, 0}, {0, 3}, {1, 1}, {2, 2}, {3, 0}, {3, 3}}, true, 0},
		{withCosts(sameWish(), evenly), [][]int{{0, 0}, {0, 1}, {0, 3}, {3, 0}, {3, 2}, {3, 3}}, false, 1},
		{withCosts(rare, [][]int{{9, 9}, {9, 9}}), [][]int{{0, 0}, {3, 0}}, false, 1},
		// A signal that costs the one type more than what it gives, or as much, tells.
		{withCosts(rare, [][]int{{0, 1}, {0, 0}}), [][]int{{0, 0}, {2, 2}}, true, 1},
		{withCosts(rare, [][]int{{0, 2}, {0, 0}}), [][]int{{0, 0}, {2, 2}}, true, 1},
		{withCosts(rare, [][]int{{0, 2}, {0, 1}}), [][]int{{0, 0}, {0, 2}, {2, 2}}, true, 1},
		{withCosts(rare, [][]int{{1, 0}, {0, 0}}), [][]int{{1, 1}, {3, 0}}, true, 1},
		{withCosts(rare, [][]int{{2, 1}, {2, 2}}), [][]int{{1, 1}, {3, 0}}, true, 1},
		// One that costs both too much does not, nor one that costs the other type.
		{withCosts(rare, [][]int{{0, 2}, {0, 2}}), [][]int{{0, 0}, {0, 2}}, false, 1},
		{withCosts(rare, [][]int{{0, 0}, {0, 1}}), [][]int{{0, 0}}, false, 1},
		// No one cares: all ways rest.
		{impl.Talk{Weights: []int{1, 1}, Speaks: [][]int{{4, 4}, {-2, -2}}, Hears: [][]int{{7, 7}, {-9, -9}}, Costs: [][]int{{0, 0}, {6, 6}}}, allWays(), true, 0},
		// Who speaks does not care, so that it may tell by each signal.
		{impl.Talk{Weights: []int{1, 2}, Speaks: [][]int{{4, 4}, {-2, -2}}, Hears: [][]int{{1, 0}, {0, 1}}, Costs: [][]int{{1, 1}, {6, 6}}}, [][]int{{0, 1}, {0, 3}, {1, 1}, {2, 2}, {3, 2}, {3, 3}}, true, 0},
		// Who hears wants the act 0 of both types.
		{impl.Talk{Weights: []int{1, 2}, Speaks: [][]int{{1, 0}, {0, 1}}, Hears: [][]int{{1, 0}, {1, 0}}, Costs: [][]int{{0, 0}, {0, 0}}}, [][]int{{0, 0}, {1, 0}, {2, 0}, {3, 0}}, false, -1},
		// Each type wants what is not for it.
		{disguise(), nil, false, -1},
	}
}

func TestTalkRests(t *testing.T) {
	for _, c := range knownTalks() {
		if got := impl.TalkRests(c.talk); !sameRows(got, c.rests) {
			t.Errorf("TalkRests(%v) = %v, not %v", c.talk, got, c.rests)
		}
	}
}

func TestTells(t *testing.T) {
	for _, c := range knownTalks() {
		if got := impl.Tells(c.talk); got != c.tells {
			t.Errorf("Tells(%v) = %v", c.talk, got)
		}
	}
}

func TestHonestCost(t *testing.T) {
	for _, c := range knownTalks() {
		if got := impl.HonestCost(c.talk); got != c.honest {
			t.Errorf("HonestCost(%v) = %d, not %d", c.talk, got, c.honest)
		}
	}
	apart, other := [][]int{{1, 0}, {0, 1}}, [][]int{{0, 1}, {1, 0}}
	for _, c := range []struct {
		speaks, hears [][]int
		want          int
	}{
		// As much as the type 0 wants the act of the type 1 more.
		{[][]int{{0, 1}, {0, 1}}, apart, 1},
		{[][]int{{-2, 3}, {0, 1}}, apart, 5},
		{[][]int{{0, 0}, {0, 1}}, apart, 0},
		{[][]int{{3, -2}, {0, 1}}, apart, 0},
		{[][]int{{1, 0}, {1, 0}}, other, 1},
		{[][]int{{8, 1}, {4, -4}}, other, 7},
		// MaxPay at most.
		{[][]int{{0, 9}, {0, 1}}, apart, impl.MaxPay},
		{[][]int{{-9, 0}, {0, 1}}, apart, impl.MaxPay},
		{[][]int{{-1, 9}, {0, 1}}, apart, -1},
		{[][]int{{-9, 9}, {0, 1}}, apart, -1},
		{[][]int{{9, -9}, {1, 0}}, other, -1},
		// The type 1 must want its own act, or not care.
		{[][]int{{0, 2}, {5, 5}}, apart, 2},
		{[][]int{{0, 2}, {5, 4}}, apart, -1},
		{[][]int{{1, 0}, {1, 0}}, apart, -1},
		{[][]int{{0, 1}, {0, 1}}, other, -1},
		// Who hears cares for one type, for none, or for both in the same way.
		{[][]int{{0, 3}, {0, 1}}, [][]int{{1, 1}, {0, 1}}, 3},
		{[][]int{{0, 3}, {0, 1}}, [][]int{{1, 1}, {1, 0}}, -1},
		{[][]int{{0, 3}, {1, 1}}, [][]int{{1, 1}, {1, 0}}, 0},
		{[][]int{{0, 3}, {0, 1}}, [][]int{{2, 2}, {3, 3}}, 3},
		{[][]int{{0, 3}, {1, 1}}, [][]int{{2, 2}, {3, 3}}, 0},
		{[][]int{{0, 3}, {0, 1}}, [][]int{{0, 1}, {0, 1}}, -1},
	} {
		// What the signals of the talk itself cost does not matter.
		for _, costs := range [][][]int{{{0, 0}, {0, 0}}, {{0, 9}, {0, 0}}, {{9, 0}, {4, 7}}, {{5, 5}, {5, 5}}} {
			talk := impl.Talk{Weights: []int{2, 5}, Speaks: c.speaks, Hears: c.hears, Costs: costs}
			if got := impl.HonestCost(talk); got != c.want {
				t.Errorf("HonestCost(%v) = %d, not %d", talk, got, c.want)
			}
		}
	}
}

// wantsToSay reports whether a type has no more by the other signal.
func wantsToSay(talk impl.Talk, kind, said, r int) bool {
	has := func(said int) int { return talk.Speaks[kind][memberOf(r, said)] - talk.Costs[kind][said] }
	return has(said) >= has(1-said)
}

// wantsToDo reports whether who hears has no more by the other act behind a signal, by the weights of the types that give it.
func wantsToDo(talk impl.Talk, s, said, done int) bool {
	more := 0
	for kind, weight := range talk.Weights {
		if memberOf(s, kind) == said {
			more += weight * (talk.Hears[kind][1-done] - talk.Hears[kind][done])
		}
	}
	return more <= 0
}

// wantedTalkRests are the pairs at which each type wants its signal, and who hears each act behind its signal.
func wantedTalkRests(talk impl.Talk) [][]int {
	var all [][]int
	forWays(func(s, r int) {
		for i := range 2 {
			if !wantsToSay(talk, i, memberOf(s, i), r) || !wantsToDo(talk, s, i, memberOf(r, i)) {
				return
			}
		}
		all = append(all, []int{s, r})
	})
	return all
}

func TestTalkRestsAreWhereAllWantWhatTheySayAndDo(t *testing.T) {
	var rests, none tally
	for _, talk := range allTalks() {
		want := wantedTalkRests(talk)
		if got := impl.TalkRests(talk); !sameRows(got, want) {
			t.Fatalf("TalkRests(%v) = %v, not %v", talk, got, want)
		}
		for range want {
			rests.add(true)
		}
		for range 16 - len(want) {
			rests.add(false)
		}
		none.add(len(want) == 0)
	}
	rests.check(t, 1000)
	none.check(t, 50)
}

// wantedTelling reports whether the types may give different signals, with an act of who hears for each one that is best for it, and that no type would give away for that of the other one.
func wantedTelling(talk impl.Talk) bool {
	for said := range 2 {
		for done := range 2 {
			// What the type 0 says and what is done for it; the type 1 has the others.
			first := talk.Speaks[0][done]-talk.Costs[0][said] >= talk.Speaks[0][1-done]-talk.Costs[0][1-said]
			second := talk.Speaks[1][1-done]-talk.Costs[1][1-said] >= talk.Speaks[1][done]-talk.Costs[1][said]
			best := talk.Hears[0][done] >= talk.Hears[0][1-done] && talk.Hears[1][1-done] >= talk.Hears[1][done]
			if first && second && best {
				return true
			}
		}
	}
	return false
}

func TestTellsIfDifferentSignalsAndActsAreWanted(t *testing.T) {
	var tells tally
	for _, talk := range allTalks() {
		want := wantedTelling(talk)
		if impl.Tells(talk) != want {
			t.Fatalf("Tells(%v) = %v", talk, !want)
		}
		tells.add(want)
	}
	tells.check(t, 1000)
}

// wantedHonestCost is how much more the type 0 has of the act that is best for the type 1, if this one wants it.
func wantedHonestCost(talk impl.Talk) int {
	least := -1
	for done := range 2 {
		if talk.Hears[0][done] < talk.Hears[0][1-done] || talk.Hears[1][1-done] < talk.Hears[1][done] || talk.Speaks[1][1-done] < talk.Speaks[1][done] {
			continue
		}
		cost := max(0, talk.Speaks[0][1-done]-talk.Speaks[0][done])
		if cost <= impl.MaxPay && (least < 0 || cost < least) {
			least = cost
		}
	}
	return least
}

func TestHonestCostIsWhatTheOtherActIsWorth(t *testing.T) {
	costs := map[int]int{}
	for _, talk := range allTalks() {
		want := wantedHonestCost(talk)
		if got := impl.HonestCost(talk); got != want {
			t.Fatalf("HonestCost(%v) = %d, not %d", talk, got, want)
		}
		costs[want]++
	}
	for cost := -1; cost <= impl.MaxPay; cost++ {
		if costs[cost] < 10 {
			t.Errorf("the cost %d is that of %d talks", cost, costs[cost])
		}
	}
}

func TestSignalsThatCostTheSameAreAsThoseForNothing(t *testing.T) {
	d := draw(63)
	for _, talk := range allTalks() {
		one, other := d.below(impl.MaxPay+1), d.below(impl.MaxPay+1)
		evenly := withCosts(talk, [][]int{{one, one}, {other, other}})
		if x, y := impl.TalkRests(evenly), impl.TalkRests(freeOf(talk)); !sameRows(x, y) {
			t.Fatalf("TalkRests(%v) = %v, but for nothing they are %v", evenly, x, y)
		}
		if x, y := impl.Tells(evenly), impl.Tells(freeOf(talk)); x != y {
			t.Fatalf("Tells(%v) = %v, but for nothing it is %v", evenly, x, y)
		}
	}
}

func TestTypesThatWantTheSameAreNotToldForNothing(t *testing.T) {
	var cares tally
	for _, talk := range allTalks() {
		same := freeOf(talk)
		same.Speaks = [][]int{talk.Speaks[0], talk.Speaks[0]}
		care := talk.Speaks[0][0] != talk.Speaks[0][1]
		if care && impl.Tells(same) {
			t.Fatalf("Tells(%v) = true", same)
		}
		cares.add(care)
	}
	cares.check(t, 1000)
}

// typesExchanged returns a talk with the first type as the second one.
func typesExchanged(talk impl.Talk) impl.Talk {
	other := clonedTalk(talk)
	slices.Reverse(other.Weights)
	slices.Reverse(other.Speaks)
	slices.Reverse(other.Hears)
	slices.Reverse(other.Costs)
	return other
}

// setExchanged returns a set of two things with the first one as the second one.
func setExchanged(set int) int {
	return 2*memberOf(set, 0) + memberOf(set, 1)
}

func TestTalkWithBothTypesExchanged(t *testing.T) {
	for _, talk := range allTalks() {
		other := typesExchanged(talk)
		rests, others := impl.TalkRests(talk), impl.TalkRests(other)
		forWays(func(s, r int) {
			spoken, heard := impl.TalkPays(talk, s, r)
			otherSpoken, otherHeard := impl.TalkPays(other, setExchanged(s), r)
			slices.Reverse(otherSpoken)
			if !slices.Equal(spoken, otherSpoken) || heard != otherHeard {
				t.Fatalf("TalkPays(%v, %d, %d) = %v, %d, but with both types exchanged %v, %d", talk, s, r, spoken, heard, otherSpoken, otherHeard)
			}
			if has(rests, s, r) != has(others, setExchanged(s), r) {
				t.Fatalf("TalkRests(%v) = %v, but with both types exchanged %v", talk, rests, others)
			}
		})
		if impl.Tells(talk) != impl.Tells(other) {
			t.Fatalf("Tells(%v) = %v, but not with both types exchanged", talk, impl.Tells(talk))
		}
	}
}

// checkNoTalkPays fails if TalkPays has a result.
func checkNoTalkPays(t *testing.T, talk impl.Talk, s, r int) {
	t.Helper()
	if spoken, heard := impl.TalkPays(talk, s, r); len(spoken) != 0 || heard != 0 {
		t.Errorf("TalkPays(%v, %d, %d) = %v, %d", talk, s, r, spoken, heard)
	}
}

func TestTalksThatAreNotValid(t *testing.T) {
	for _, talk := range badTalks() {
		kept := clonedTalk(talk)
		impl.ValidTalk(talk)
		forWays(func(s, r int) { checkNoTalkPays(t, talk, s, r) })
		for _, n := range notBelow(4) {
			checkNoTalkPays(t, talk, n, n)
		}
		if rests := impl.TalkRests(talk); len(rests) != 0 {
			t.Errorf("TalkRests(%v) = %v", talk, rests)
		}
		if impl.Tells(talk) {
			t.Errorf("Tells(%v) = true", talk)
		}
		if cost := impl.HonestCost(talk); cost != -1 {
			t.Errorf("HonestCost(%v) = %d", talk, cost)
		}
		if !sameTalk(talk, kept) {
			t.Errorf("the talk %v is changed to %v", kept, talk)
		}
	}
}

func TestTalkPaysOfWaysThatAreNotThere(t *testing.T) {
	d := draw(64)
	for _, talk := range []impl.Talk{plainTalk(), sameWish(), disguise(), d.talk(1), d.talk(impl.MaxPay)} {
		for _, bad := range notBelow(4) {
			for _, other := range append(notBelow(4), 0, 1, 2, 3) {
				checkNoTalkPays(t, talk, bad, other)
				checkNoTalkPays(t, talk, other, bad)
			}
		}
	}
}

func TestTalksAreNotChanged(t *testing.T) {
	for _, talk := range allTalks() {
		kept := guardTalk(talk)
		impl.ValidTalk(kept.talk)
		forWays(func(s, r int) { impl.TalkPays(kept.talk, s, r) })
		impl.TalkRests(kept.talk)
		impl.Tells(kept.talk)
		impl.HonestCost(kept.talk)
		if !kept.unchanged() || !sameTalk(kept.talk, talk) {
			t.Fatalf("the talk %v is changed to %v", talk, kept.talk)
		}
	}
}

func TestResultsOfTalksShareNoMemory(t *testing.T) {
	for _, talk := range allTalks() {
		kept := guardTalk(talk)
		rests := impl.TalkRests(kept.talk)
		checkApart(t, "TalkRests", rests...)
		forWays(func(s, r int) {
			spoken, _ := impl.TalkPays(kept.talk, s, r)
			again, _ := impl.TalkPays(kept.talk, s, r)
			checkApart(t, "TalkPays", spoken, again)
		})
		if !kept.unchanged() {
			t.Fatalf("results of the talk %v share memory with it", talk)
		}
		if again := impl.TalkRests(kept.talk); !sameRows(again, wantedTalkRests(talk)) {
			t.Fatalf("TalkRests(%v) = %v behind changes of its result", talk, again)
		}
	}
}

func TestTalkKeepsNoState(t *testing.T) {
	d := draw(65)
	for _, talk := range allTalks() {
		s, r := d.below(4), d.below(4)
		spoken, heard := impl.TalkPays(talk, s, r)
		rests, tells, cost := impl.TalkRests(talk), impl.Tells(talk), impl.HonestCost(talk)
		other := d.talk(impl.MaxPay)
		impl.TalkPays(other, r, s)
		impl.TalkRests(other)
		impl.HonestCost(other)
		again, more := impl.TalkPays(talk, s, r)
		if !slices.Equal(again, spoken) || more != heard || !sameRows(impl.TalkRests(talk), rests) || impl.Tells(talk) != tells || impl.HonestCost(talk) != cost {
			t.Fatalf("the results for %v, %d and %d are others behind calls for others", talk, s, r)
		}
	}
}

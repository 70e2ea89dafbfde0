package tests

import (
	"slices"
	"testing"

	"loop.example/strategiesthatspread/impl"
)

// talkPays returns what both types have, and who hears.
func talkPays(t *testing.T, talk impl.Talk, s, r int) ([]int, int) {
	t.Helper()
	spoken, heard := impl.TalkPays(talk, s, r)
	if len(spoken) != 2 {
		t.Fatalf("TalkPays(%v, %d, %d) = %v, %d", talk, s, r, spoken, heard)
	}
	return spoken, heard
}

// forTalkRests calls a function with all talks, and all of their rests.
func forTalkRests(try func(talk impl.Talk, s, r int)) {
	for _, talk := range allTalks() {
		for _, rest := range impl.TalkRests(talk) {
			try(talk, rest[0], rest[1])
		}
	}
}

// tellsAt reports whether types give different signals, behind which who hears acts differently.
func tellsAt(s, r int) bool {
	first, second := memberOf(s, 0), memberOf(s, 1)
	return first != second && memberOf(r, first) != memberOf(r, second)
}

func TestPromise61TalkMayBeFree(t *testing.T) {
	for _, talk := range allTalks() {
		if free := freeOf(talk); !impl.ValidTalk(free) {
			t.Fatalf("ValidTalk(%v) = false, but with costs it is true", free)
		}
	}
	// What is not valid but for its costs is not valid for nothing either.
	var valid tally
	for _, talk := range badTalks() {
		want := impl.ValidTalk(withCosts(talk, [][]int{{3, 0}, {1, 9}}))
		if free := freeOf(talk); impl.ValidTalk(free) != want {
			t.Fatalf("ValidTalk(%v) = %v, but with costs it is %v", free, !want, want)
		}
		valid.add(want)
	}
	valid.check(t, 100)
}

// signalsExchanged returns a talk with what both signals cost exchanged.
func signalsExchanged(talk impl.Talk) impl.Talk {
	other := clonedTalk(talk)
	for _, costs := range other.Costs {
		slices.Reverse(costs)
	}
	return other
}

func TestPromise62WhoHearsCaresForWhatIsSaid(t *testing.T) {
	var costly tally
	for _, talk := range allTalks() {
		other := signalsExchanged(talk)
		costly.add(!sameTalk(talk, other))
		forWays(func(s, r int) {
			// Who gave the signal 1 gives the signal 0, and what was done behind it is done behind this.
			spoken, heard := talkPays(t, talk, s, r)
			otherSpoken, otherHeard := talkPays(t, other, 3-s, setExchanged(r))
			if !slices.Equal(spoken, otherSpoken) || heard != otherHeard {
				t.Fatalf("TalkPays(%v, %d, %d) = %v, %d, but with both signals exchanged %v, %d", talk, s, r, spoken, heard, otherSpoken, otherHeard)
			}
		})
	}
	costly.check(t, 1000)
}

func TestPromise63AtRestNoOneTalksOtherwise(t *testing.T) {
	var same tally
	forTalkRests(func(talk impl.Talk, s, r int) {
		same.add(s == 0 || s == 3)
		spoken, heard := talkPays(t, talk, s, r)
		for other := range 4 {
			if more, _ := talkPays(t, talk, other, r); more[0] > spoken[0] || more[1] > spoken[1] {
				t.Fatalf("TalkPays(%v, %d, %d) = %v, at a rest, but by %d %v", talk, s, r, spoken, other, more)
			}
			if _, more := talkPays(t, talk, s, other); more > heard {
				t.Fatalf("TalkPays(%v, %d, %d) = %d, at a rest, but by %d %d", talk, s, r, heard, other, more)
			}
		}
	})
	same.check(t, 1000)
}

func TestPromise63WhereTalkIsFreeAllMaySayTheSame(t *testing.T) {
	for _, talk := range allTalks() {
		free := freeOf(talk)
		sayTheSame := func(rest []int) bool { return rest[0] == 0 || rest[0] == 3 }
		if rests := impl.TalkRests(free); !slices.ContainsFunc(rests, sayTheSame) {
			t.Fatalf("TalkRests(%v) = %v", free, rests)
		}
	}
}

func TestPromise64WhatTellsIsARest(t *testing.T) {
	var tells tally
	for _, talk := range allTalks() {
		rests := impl.TalkRests(talk)
		want := slices.ContainsFunc(rests, func(rest []int) bool { return tellsAt(rest[0], rest[1]) })
		if impl.Tells(talk) != want {
			t.Fatalf("Tells(%v) = %v, but the rests are %v", talk, !want, rests)
		}
		tells.add(want)
	}
	tells.check(t, 1000)
}

func TestPromise65HonestCostsTell(t *testing.T) {
	var honest, costly tally
	for _, talk := range allTalks() {
		least := impl.HonestCost(talk)
		// Without an honest cost none tells.
		none := least < 0
		if none {
			least = impl.MaxPay + 1
		}
		for cost := range least {
			if less := withCosts(talk, [][]int{{0, cost}, {0, 0}}); impl.Tells(less) {
				t.Fatalf("HonestCost(%v) = %d, but Tells(%v) = true", talk, impl.HonestCost(talk), less)
			}
		}
		if !none {
			if costs := withCosts(talk, [][]int{{0, least}, {0, 0}}); !impl.Tells(costs) {
				t.Fatalf("HonestCost(%v) = %d, but Tells(%v) = false", talk, least, costs)
			}
			costly.add(least > 0)
		}
		honest.add(!none)
	}
	honest.check(t, 1000)
	costly.check(t, 1000)
}

func TestPromise87WhatIsToldIsActedOnInTheBestWay(t *testing.T) {
	var different tally
	forTalkRests(func(talk impl.Talk, s, r int) {
		told := memberOf(s, 0) != memberOf(s, 1)
		different.add(told)
		if !told {
			return
		}
		most := 0
		for kind, weight := range talk.Weights {
			most += weight * slices.Max(talk.Hears[kind])
		}
		if _, heard := talkPays(t, talk, s, r); heard != most {
			t.Fatalf("TalkPays(%v, %d, %d) = %d, at a rest, but there is %d", talk, s, r, heard, most)
		}
	})
	different.check(t, 1000)
}

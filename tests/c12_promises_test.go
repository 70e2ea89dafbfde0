package tests

import (
	"slices"
	"strings"
	"testing"

	"loop.example/strategiesthatspread/impl"
)

func TestPromise66EachLineHasAnAnswer(t *testing.T) {
	for _, desk := range desks() {
		if answers := impl.RunDesk(desk); strings.Count(answers, "\n") != len(desk) || len(desk) > 0 && !strings.HasSuffix(answers, "\n") {
			t.Fatalf("RunDesk(%q) = %q", desk, answers)
		}
	}
}

func TestPromise66OfTwoHalvesOneIsBehindTheOther(t *testing.T) {
	for _, desk := range desks() {
		answers := impl.RunDesk(desk)
		for half := range len(desk) + 1 {
			first, second := impl.RunDesk(desk[:half]), impl.RunDesk(desk[half:])
			if first+second != answers {
				t.Fatalf("RunDesk(%q) = %q, but of the first %d lines %q, and of the others %q", desk, answers, half, first, second)
			}
		}
	}
}

func TestPromise66EachLineIsAnsweredOnItsOwn(t *testing.T) {
	for _, desk := range desks() {
		var answers []string
		for _, line := range desk {
			answers = append(answers, impl.RunDesk([]string{line}))
		}
		if got, want := impl.RunDesk(desk), strings.Join(answers, ""); got != want {
			t.Fatalf("RunDesk(%q) = %q, but line by line %q", desk, got, want)
		}
		slices.Reverse(answers)
		turned := slices.Clone(desk)
		slices.Reverse(turned)
		if got, want := impl.RunDesk(turned), strings.Join(answers, ""); got != want {
			t.Fatalf("RunDesk(%q) = %q, but line by line %q", turned, got, want)
		}
	}
}

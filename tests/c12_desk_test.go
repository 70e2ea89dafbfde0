package tests

import (
	"fmt"
	"regexp"
	"slices"
	"strconv"
	"strings"
	"sync"
	"testing"

	"loop.example/strategiesthatspread/impl"
)

func TestRunDesk(t *testing.T) {
	for _, c := range []struct{ line, want string }{
		{"value 3,1/0,2", "3/2 1,1 1,3"},
		{"value 0", "0 1 1"},
		{"value -0", "wrong"},
		{"value 9", "9 1 1"},
		{"value -9", "-9 1 1"},
		{"value -3,-1/0,-2", "-3/2 1,1 1,3"},
		{"value 3,-2,-2", "-2 1 0,1,0"},
		{"value -4/-1/-1", "-1 0,1,0 1"},
		{"value 9,-9/-9,8", "-9/35 17,18 17,18"},
		{"value -1,-8/-3,-5/-9,-2", "-13/3 0,7,2 1,2"},
		{"value 1,0,0/0,2,0/0,0,3", "6/11 6,3,2 6,3,2"},
		{"stable -5", "0"},
		{"stable 2,0/0,1", "0,1"},
		{"stable 3,0/5,1", "1"},
		{"stable 1,0,0/0,2,0/0,0,3", "0,1,2"},
		{"stable -1,4/0,2", ""},
		{"stable 0,-1,1/1,0,-1/-1,1,0", ""},
		{"stable 4,4/4,4", ""},
		{"rests -5", "1"},
		{"rests 2,0/0,1", "1,0/0,1/1,2"},
		{"rests -1,4/0,2", "2,1"},
		{"rests 3,0/5,1", "0,1"},
		{"rests 0,-1,1/1,0,-1/-1,1,0", "1,1,1"},
		{"rests 2,0,0/0,2,0/0,0,2", "1,0,0/0,1,0/1,1,0/0,0,1/1,0,1/0,1,1/1,1,1"},
		{"fixed 2,2/2,2", "1/2 1/3 1/4 1/5 1/6"},
		{"fixed 9,9/9,9", "1/2 1/3 1/4 1/5 1/6"},
		{"fixed 1,3/2,1", "3/5 1/2 7/15 96/209 715/1539"},
		{"lasting 0", "0"},
		{"lasting 20", "0"},
		{"lasting 0,4/1,0", "0"},
		{"lasting 0,1/4,0", "1"},
		{"lasting 0,9,2/9,0,3/2,4,0", "0,2"},
		{"lasting 0,0,0,0/0,0,0,0/0,0,0,0/0,0,0,0", "0,1,2,3"},
		{"lasting 0,1,20,10/20,0,1,9/1,20,0,8/20,20,20,0", "3"},
	} {
		if got := impl.RunDesk([]string{c.line}); got != c.want+"\n" {
			t.Errorf("RunDesk of %q = %q, not %q", c.line, got, c.want+"\n")
		}
	}
}

func TestRunDeskTellsTheTablesSolvedByHand(t *testing.T) {
	for _, c := range solvedTables() {
		want := strconv.Itoa(c.up)
		if c.down != 1 {
			want += "/" + strconv.Itoa(c.down)
		}
		want += " " + rowsText([][]int{c.x}) + " " + rowsText([][]int{c.y})
		checkAnswer(t, deskLine("value", c.a), want)
	}
}

// checkAnswer fails if the desk does not answer a line, alone and between others, by a text.
func checkAnswer(t *testing.T, line, want string) {
	t.Helper()
	if got := impl.RunDesk([]string{line}); got != want+"\n" {
		t.Fatalf("RunDesk of %q = %q, not %q", line, got, want+"\n")
	}
	between := []string{"value 1", line, ""}
	if got := impl.RunDesk(between); got != "1 1 1\n"+want+"\nwhat\n" {
		t.Fatalf("RunDesk of %q = %q, not %q in the middle", between, got, want)
	}
}

// wantedFrac is a fraction as the desk tells it.
func wantedFrac(f impl.Frac) string {
	return strings.TrimSuffix(fmt.Sprintf("%d/%d", f.Up, f.Down), "/1")
}

// isFor reports whether rows are valid for the functions of a word.
func isFor(word string, rows [][]int) bool {
	switch word {
	case "value":
		return impl.ValidTable(rows)
	case "fixed":
		return impl.ValidPair(rows)
	case "lasting":
		return impl.ValidCosts(rows)
	}
	return impl.ValidSquare(rows)
}

// wantedOf is what is answered to a word with rows, by its functions.
func wantedOf(word string, rows [][]int) string {
	if !isFor(word, rows) {
		return "wrong"
	}
	switch word {
	case "value":
		value, _ := impl.ValueOf(rows)
		x, y := impl.BestShares(rows)
		return wantedFrac(value) + " " + rowsText([][]int{x}) + " " + rowsText([][]int{y})
	case "stable":
		return rowsText([][]int{impl.StableOf(rows)})
	case "rests":
		return rowsText(impl.RestsOn(rows))
	case "fixed":
		var chances []string
		for n := range impl.MaxCrowd - 1 {
			chance, _ := impl.FixedFrom(rows, n+2, 1)
			chances = append(chances, wantedFrac(chance))
		}
		return strings.Join(chances, " ")
	}
	return rowsText([][]int{impl.LastingOf(rows)})
}

func TestRunDeskAnswersByTheFunctions(t *testing.T) {
	for word, all := range rowsFor() {
		for _, rows := range all {
			if !isFor(word, rows) {
				t.Fatalf("%s of %v is tried, but wrong", word, rows)
			}
			checkAnswer(t, deskLine(word, rows), wantedOf(word, rows))
		}
	}
}

func TestRunDeskTellsWhatThereIsNot(t *testing.T) {
	var none, whole tally
	for _, a := range squareTables() {
		stable := impl.StableOf(a)
		none.add(len(stable) == 0)
		if answer := impl.RunDesk([]string{deskLine("stable", a)}); (answer == "\n") != (len(stable) == 0) {
			t.Fatalf("RunDesk of stable %v = %q, for %v", a, answer, stable)
		}
	}
	for _, a := range mixTables() {
		value, _ := impl.ValueOf(a)
		whole.add(value.Down == 1)
		told, _, _ := strings.Cut(impl.RunDesk([]string{deskLine("value", a)}), " ")
		if strings.Contains(told, "/") != (value.Down != 1) || strings.HasPrefix(told, "-") != (value.Up < 0) {
			t.Fatalf("RunDesk of value %v begins with %q, for %v", a, told, value)
		}
	}
	none.check(t, 100)
	whole.check(t, 100)
}

func TestRunDeskOfRowsThatAreNotThoseOfTheWord(t *testing.T) {
	bad := map[string][][][]int{"value": badTables(), "stable": badSquares(), "rests": badSquares(), "fixed": badPairs(), "lasting": badCosts()}
	for word, all := range bad {
		for _, rows := range all {
			checkAnswer(t, deskLine(word, rows), "wrong")
		}
	}
	// What is right for the one word may be wrong for the other one.
	var right tally
	for _, all := range rowsFor() {
		for k, rows := range all {
			if k%7 != 0 {
				continue
			}
			for _, word := range deskWords() {
				right.add(isFor(word, rows))
				checkAnswer(t, deskLine(word, rows), wantedOf(word, rows))
			}
		}
	}
	right.check(t, 1000)
}

func TestRunDeskOfEachNumber(t *testing.T) {
	for n := -2 * impl.MaxCost; n <= 2*impl.MaxCost; n++ {
		number := strconv.Itoa(n)
		isPay, isCost := n >= -impl.MaxPay && n <= impl.MaxPay, n >= 0 && n <= impl.MaxCost
		for _, c := range []struct {
			line, answer string
			right        bool
		}{
			{"value " + number, number + " 1 1", isPay},
			{"stable " + number, "0", isPay},
			{"rests " + number, "1", isPay},
			{"fixed " + strings.Join([]string{number, number + "/" + number, number}, ","), "1/2 1/3 1/4 1/5 1/6", isPay && n >= 1},
			{"lasting " + number, "0", isCost},
		} {
			if !c.right {
				c.answer = "wrong"
			}
			checkAnswer(t, c.line, c.answer)
		}
	}
}

func TestRunDeskOfTextsThatAreNoRows(t *testing.T) {
	for _, text := range wrongTexts() {
		for _, word := range deskWords() {
			checkAnswer(t, word+" "+text, "wrong")
		}
	}
	for _, line := range []string{"stable 1,2", "stable 1/2", "rests 1,2,3/4,5,6", "rests 1,2/3", "fixed 0,1/1,1", "fixed 1,1/1,-1", "fixed 1", "fixed 1,1,1/1,1,1/1,1,1", "lasting -1", "lasting 0,21/0,0", "lasting 0,0", "lasting 0,0/0", "value 10", "value -10", "value 1/1/1/1", "value 1,1,1,1", "value 1,2/3"} {
		checkAnswer(t, line, "wrong")
	}
}

func TestRunDeskOfLinesOfNoWord(t *testing.T) {
	for _, line := range whatLines() {
		checkAnswer(t, line, "what")
	}
	for _, word := range deskWords() {
		for _, line := range []string{word, word + "  ", word + "  1", word + " 1 ", " " + word + " 1", word + " 1 2", word + " 1,1/1, 1", word + " 1, 1/1,1", word + " 1,1 /1,1", word + " x y", word + "\t1", word + "\n1", word + "\n", word + "1", word + ",1", word + "/1", word + ": 1", word + "s 1", word[1:] + " 1", word[:len(word)-1] + " 1", strings.ToUpper(word) + " 1", strings.ToUpper(word[:1]) + word[1:] + " 1", word + " " + word + " 1", word + word + " 1", "1 " + word, word + "\u00a01", word + "\x00 1"} {
			checkAnswer(t, line, "what")
		}
	}
}

var (
	wordLine = regexp.MustCompile(`\A(value|stable|rests|fixed|lasting) ([^ ]*)\z`)
	rowsLine = regexp.MustCompile(`\A(0|-?[1-9][0-9]*)([,/](0|-?[1-9][0-9]*))*\z`)
)

// wantedAnswer is what is answered to a line, read by the form that it must have.
func wantedAnswer(line string) string {
	parts := wordLine.FindStringSubmatch(line)
	if parts == nil {
		return "what"
	}
	if !rowsLine.MatchString(parts[2]) {
		return "wrong"
	}
	var rows [][]int
	for _, row := range strings.Split(parts[2], "/") {
		var numbers []int
		for _, number := range strings.Split(row, ",") {
			n, err := strconv.Atoi(number)
			if err != nil {
				return "wrong"
			}
			numbers = append(numbers, n)
		}
		rows = append(rows, numbers)
	}
	return wantedOf(parts[1], rows)
}

func TestRunDeskOfLinesThatAreNearlyRight(t *testing.T) {
	count := map[string]int{}
	for _, line := range rightLines() {
		for _, near := range linesNear(line) {
			want := wantedAnswer(near)
			checkAnswer(t, near, want)
			count[want]++
			count["all"]++
		}
	}
	if answered := count["all"] - count["wrong"] - count["what"]; answered < 1000 || count["wrong"] < 1000 || count["what"] < 1000 {
		t.Errorf("%d lines are answered, %d by wrong, and %d by what", answered, count["wrong"], count["what"])
	}
}

func TestRunDeskOfFewAndManyLines(t *testing.T) {
	if got := impl.RunDesk(nil) + impl.RunDesk([]string{}); got != "" {
		t.Errorf("RunDesk of no lines = %q", got)
	}
	for _, line := range []string{"value 1", "stable 1,1/1,1", "value", "value x", ""} {
		answer := wantedAnswer(line) + "\n"
		for n := range impl.MaxDesk + 1 {
			if got, want := impl.RunDesk(slices.Repeat([]string{line}, n)), strings.Repeat(answer, n); got != want {
				t.Errorf("RunDesk of %d times %q = %q, not %q", n, line, got, want)
			}
		}
		for _, n := range []int{impl.MaxDesk + 1, impl.MaxDesk + 2, 2 * impl.MaxDesk, 1000} {
			if got := impl.RunDesk(slices.Repeat([]string{line}, n)); got != "" {
				t.Errorf("RunDesk of %d times %q = %q", n, line, got)
			}
		}
	}
}

func TestRunDeskOfLongLines(t *testing.T) {
	const many = 1 << 16
	for _, word := range deskWords() {
		for _, text := range []string{"0", "1", "-", ",", "/", "1,", "1/", "1,1/", "x", "\n"} {
			checkAnswer(t, word+" "+strings.Repeat(text, many), "wrong")
		}
		checkAnswer(t, word+strings.Repeat(" ", many), "what")
		checkAnswer(t, word+" "+strings.Repeat("1 ", many), "what")
		checkAnswer(t, strings.Repeat(word, many)+" 1", "what")
	}
	checkAnswer(t, strings.Repeat("x", many), "what")
}

func TestLinesAreNotChanged(t *testing.T) {
	for _, desk := range desks() {
		// A line behind the last one lies where one who appends to the lines would write.
		lines := append(slices.Clone(desk), "spare")[:len(desk)]
		impl.RunDesk(lines)
		if !slices.Equal(lines, desk) || lines[:len(desk)+1][len(desk)] != "spare" {
			t.Fatalf("the lines %q are changed to %q", desk, lines[:len(desk)+1])
		}
	}
}

func TestRunDeskKeepsNoState(t *testing.T) {
	for _, desk := range desks() {
		answers := impl.RunDesk(desk)
		kept := strings.Clone(answers)
		impl.RunDesk([]string{"value 3,1/0,2", "fixed 1,3/2,1", "what", "stable x"})
		if answers != kept || impl.RunDesk(desk) != kept {
			t.Fatalf("RunDesk(%q) is another one behind another call", desk)
		}
	}
}

func TestDesksAreTheSameForManyAtOnce(t *testing.T) {
	var all sync.WaitGroup
	many := desks()
	for _, desk := range many[len(many)-20:] {
		want := impl.RunDesk(desk)
		for range 4 {
			all.Go(func() {
				if got := impl.RunDesk(desk); got != want {
					t.Errorf("RunDesk(%q) = %q, not %q", desk, got, want)
				}
			})
		}
	}
	all.Wait()
}

package tests

import (
	"math/big"
	"slices"
	"testing"

	"loop.example/strategiesthatspread/impl"
)

// ofBoth returns the game of two players who play the same table.
func ofBoth(a [][]int) impl.Game {
	return impl.Game{A: a, B: turned(a)}
}

// has reports whether a row is among rows.
func has(rows [][]int, row ...int) bool {
	return slices.ContainsFunc(rows, func(other []int) bool { return slices.Equal(other, row) })
}

// barrierOf returns the barrier of strategy i against strategy j as a number.
func barrierOf(t *testing.T, a [][]int, i, j int) *big.Rat {
	t.Helper()
	b, ok := impl.BarrierOf(a, i, j)
	if !ok {
		t.Fatalf("BarrierOf(%v, %d, %d) = %v, %v", a, i, j, b, ok)
	}
	return rat(b)
}

// otherThan are the strategies of a square but one.
func otherThan(i int, a [][]int) []int {
	var all []int
	for j := range a {
		if j != i {
			all = append(all, j)
		}
	}
	return all
}

// metWith returns shares of which strategy j has just a share, a fraction with a Down of at most MaxShare, and strategy i the others.
func metWith(a [][]int, i, j int, share *big.Rat) []int {
	w := make([]int, len(a))
	w[j] = int(share.Num().Int64())
	w[i] = int(share.Denom().Int64()) - w[j]
	return w
}

// leadOn returns how much more by PayOf strategy i has than strategy j against shares.
func leadOn(t *testing.T, a [][]int, i, j int, w []int) *big.Rat {
	t.Helper()
	first := payOf(t, a, alone(i, len(a), 1), w)
	return first.Sub(first, payOf(t, a, alone(j, len(a), 1), w))
}

func TestPromise14SquaresMayBeTurned(t *testing.T) {
	for _, a := range squareTables() {
		if !impl.ValidSquare(a) || !impl.ValidSquare(turned(a)) {
			t.Fatalf("%v or it turned is no square", a)
		}
	}
	for _, a := range [][][]int{{{1, 2}}, {{1}, {2}}, {{1, 2, 3}, {4, 5, 6}}, {{1, 10}, {1, 1}}, sameSquare(0, 4)} {
		if impl.ValidSquare(a) || impl.ValidSquare(turned(a)) {
			t.Errorf("%v or it turned is a square", a)
		}
	}
}

func TestPromise15StableStrategiesRestWithABarrier(t *testing.T) {
	var counts tally
	for _, a := range squareTables() {
		stable := impl.StableOf(a)
		for i := range a {
			want := impl.IsRest(a, alone(i, len(a), 1))
			for _, j := range otherThan(i, a) {
				want = want && barrierOf(t, a, i, j).Sign() > 0
			}
			if slices.Contains(stable, i) != want {
				t.Fatalf("StableOf(%v) = %v, but that %d rests with a barrier against each other one is %v", a, stable, i, want)
			}
			counts.add(want)
		}
	}
	counts.check(t, 100)
}

func TestPromise16BarriersAreWhereBothHaveAsMuch(t *testing.T) {
	tried := 0
	for _, a := range squareTables() {
		for i := range a {
			for _, j := range otherThan(i, a) {
				b := barrierOf(t, a, i, j)
				if b.Sign() < 0 || b.Cmp(whole(1)) > 0 {
					t.Fatalf("BarrierOf(%v, %d, %d) = %v", a, i, j, b)
				}
				if b.Sign() == 0 || b.Cmp(whole(1)) == 0 {
					continue
				}
				tried++
				if lead := leadOn(t, a, i, j, metWith(a, i, j, b)); lead.Sign() != 0 {
					t.Fatalf("at BarrierOf(%v, %d, %d) = %v the first one has %v more", a, i, j, b, lead)
				}
				ahead := new(big.Rat).Mul(b, big.NewRat(19, 20))
				if lead := leadOn(t, a, i, j, metWith(a, i, j, ahead)); lead.Sign() <= 0 {
					t.Fatalf("a little ahead of BarrierOf(%v, %d, %d) = %v the first one has %v more", a, i, j, b, lead)
				}
			}
		}
	}
	if tried < 100 {
		t.Errorf("only %d barriers are more than 0 and less than 1", tried)
	}
}

func TestPromise18RestsAreRests(t *testing.T) {
	for _, a := range squareTables() {
		all := impl.RestsOn(a)
		for _, w := range all {
			if !impl.IsRest(a, w) {
				t.Fatalf("RestsOn(%v) has %v, which is none", a, w)
			}
		}
		for i := range a {
			w := alone(i, len(a), 1)
			if is := impl.IsRest(a, w); is != has(all, w...) {
				t.Fatalf("RestsOn(%v) = %v, but IsRest of %d alone is %v", a, all, i, is)
			}
		}
	}
}

func TestPromise67StableStrategiesAreRestsAlone(t *testing.T) {
	tried := 0
	for _, a := range squareTables() {
		for _, i := range impl.StableOf(a) {
			tried++
			if all := impl.RestsOn(a); !has(all, alone(i, len(a), 1)...) {
				t.Fatalf("RestsOn(%v) = %v, without the stable strategy %d", a, all, i)
			}
			if pairs := impl.PureRests(ofBoth(a)); !has(pairs, i, i) {
				t.Fatalf("two who play %v rest at %v, and not at the stable strategy %d", a, pairs, i)
			}
		}
	}
	if tried < 100 {
		t.Errorf("only %d strategies are stable", tried)
	}
}

func TestPromise68AStrategyRestsIfBothDo(t *testing.T) {
	var counts tally
	for _, a := range squareTables() {
		pairs := impl.PureRests(ofBoth(a))
		for i := range a {
			is := impl.IsRest(a, alone(i, len(a), 1+i*499))
			if is != has(pairs, i, i) {
				t.Fatalf("two who play %v rest at %v, but IsRest of %d alone is %v", a, pairs, i, is)
			}
			counts.add(is)
		}
	}
	counts.check(t, 100)
}

func TestPromise71FairGamesHaveTheValue0(t *testing.T) {
	tried := 0
	for _, a := range squareTables() {
		fair := cloned(a)
		for i, row := range fair {
			for j := range row {
				row[j] -= a[j][i]
			}
		}
		if !impl.ValidTable(fair) {
			continue
		}
		tried++
		if v, ok := impl.ValueOf(fair); !ok || v != (impl.Frac{Up: 0, Down: 1}) {
			t.Fatalf("ValueOf(%v) = %v, %v", fair, v, ok)
		}
		if x, _ := impl.BestShares(fair); !impl.AreBest(fair, x, x) {
			t.Fatalf("the best shares %v of the rows of %v are not best for the columns", x, fair)
		}
	}
	if tried < 1000 {
		t.Errorf("only %d tables less themselves turned are tables", tried)
	}
}

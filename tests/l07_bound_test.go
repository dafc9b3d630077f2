package tests

import (
	"math"
	"slices"
	"sync"
	"testing"

	"loop.example/g01040/impl"
)

// wantBound counts the powers of 3 that are less than the number of cases.
func wantBound(cases int) int {
	if cases < 1 || cases > 1000000 {
		return -1
	}
	less := 0
	for power := 1; power < cases; power *= 3 {
		less++
	}
	return less
}

// wantUnknown adds up the coins of each weighing: those that it leaves aside are found with one weighing fewer and a good coin,
// those on the balance have one case each after unequal sides, and without a good coin their number is even.
func wantUnknown(k int, good bool) int {
	if k < 1 || k > 12 {
		return 0
	}
	aside, balance := 0, 1
	for range k - 1 {
		aside, balance = aside+balance, 3*balance
	}
	if good {
		return aside + balance
	}
	return aside + balance - 1
}

// wantWorst returns the outcome that leaves most cases and the state after it.
func wantWorst(s impl.State, p impl.Pick) (int, impl.State) {
	next := wantNext(s, p)
	worst := 2
	for i := 1; i >= 0; i-- {
		if wantCount(next[i]) >= wantCount(next[worst]) {
			worst = i
		}
	}
	return worst - 1, next[worst]
}

func wantLost(s impl.State, p impl.Pick) int {
	_, next := wantWorst(s, p)
	third := 0
	for 3*third < wantCount(s) {
		third++
	}
	return wantCount(next) - third
}

func wantPlay(s impl.State, picks []impl.Pick) ([]int, impl.State, bool) {
	if !wantStateOk(s) || len(picks) > 10 {
		return nil, impl.State{}, false
	}
	if len(picks) == 0 {
		return nil, s, true
	}
	if !wantPickOk(s, picks[0]) {
		return nil, impl.State{}, false
	}
	first, next := wantWorst(s, picks[0])
	rest, last, ok := wantPlay(next, picks[1:])
	if !ok {
		return nil, impl.State{}, false
	}
	return append([]int{first}, rest...), last, true
}

// checkPlay compares PlayAgainst and CasesLeft with the reference, and reports whether the play is valid.
func checkPlay(t *testing.T, s impl.State, picks []impl.Pick) bool {
	t.Helper()
	outcomes, last, ok := wantPlay(s, picks)
	got, state, fine := impl.PlayAgainst(s, picks)
	if fine != ok || state != last || !slices.Equal(got, outcomes) {
		t.Fatalf("PlayAgainst(%+v, %+v) = %v, %+v, %v, want %v, %+v, %v", s, picks, got, state, fine, outcomes, last, ok)
	}
	left := -1
	if ok {
		left = wantCount(last)
	}
	if got := impl.CasesLeft(s, picks); got != left {
		t.Fatalf("CasesLeft(%+v, %+v) = %d, want %d", s, picks, got, left)
	}
	return ok
}

// somePlay returns so many picks, each of them valid in its turn; fewer if a state has none.
func somePlay(s impl.State, length, seed int) []impl.Pick {
	var picks []impl.Pick
	for range length {
		choices := allPicks()[s]
		if len(choices) == 0 {
			break
		}
		p := choices[seed%len(choices)]
		seed = (seed*31 + 17) % 1000003
		picks = append(picks, p)
		_, s = wantWorst(s, p)
	}
	return picks
}

// casesKept lays the picks with real coins on the balance and keeps the cases with these outcomes.
func casesKept(s impl.State, picks []impl.Pick, outcomes []int) []int {
	coins := s.Both + s.Heavy + s.Light + s.Good
	cases := trayOf(s, impl.Pick{}).cases
	for i, p := range picks {
		w := layCoins(classesOf(cases, coins), p)
		cases = slices.DeleteFunc(cases, func(c int) bool { return wantOutcome(w, c) != outcomes[i] })
	}
	return cases
}

func classesOf(cases []int, coins int) map[int]int {
	classes := map[int]int{}
	for coin := 1; coin <= coins; coin++ {
		classes[coin] = []int{3, 1, 2, 0}[countOf(cases, coin)+2*countOf(cases, -coin)]
	}
	return classes
}

// P2: the fixed designs have as many weighings as their cases ask for, so that none of them can be left out.
func TestP2DesignBound(t *testing.T) {
	for k, coins := range map[int]int{2: 3, 3: 12} {
		list, n, ok := impl.VectorDesign(k)
		p := problem(n, "+-0")
		cases := len(impl.CasesOf(p))
		if !ok || n != coins || impl.MostUnknown(k, false) != coins || cases != 2*coins+1 || !impl.DesignSolves(p, list) {
			t.Fatalf("VectorDesign(%d) = %v, %d, %v for %d cases; MostUnknown is %d", k, list, n, ok, cases, impl.MostUnknown(k, false))
		}
		if bound := impl.InfoBound(cases); bound != k || impl.InfoBound(impl.CountSigns(p, list)) != k {
			t.Errorf("InfoBound(%d) = %d, the design has %d weighings", cases, bound, k)
		}
		for i := range list {
			less := slices.Delete(slices.Clone(list), i, i+1)
			if impl.DesignSolves(p, less) || impl.InfoBound(impl.CountSigns(p, less)) > k-1 {
				t.Errorf("VectorDesign(%d) solves %+v without the weighing %d", k, p, i)
			}
		}
		if got := impl.SpareWeighing(p, list); got != -1 {
			t.Errorf("VectorDesign(%d): the weighing %d can be left out", k, got)
		}
	}
}

// P2: whatever tells all cases apart has at least as many weighings as they ask for.
func TestP2SolvedBound(t *testing.T) {
	problems := allProblems(1, 2, 3, 4, 5, 8, 12, 13)
	solved, tight := 0, 0
	check := func(p impl.Problem, weighings int) {
		bound := impl.InfoBound(len(impl.CasesOf(p)))
		if bound < 0 || bound > weighings {
			t.Fatalf("%+v is solved with %d weighings, InfoBound is %d", p, weighings, bound)
		}
		solved++
		if bound == weighings {
			tight++
		}
	}
	for _, p := range problems {
		for _, list := range someDesigns() {
			if impl.DesignSolves(p, list) {
				check(p, len(list))
			}
		}
		for _, plan := range somePlans() {
			if impl.SolvesFor(p, plan) {
				check(p, impl.PlanDepth(plan, p.Coins))
			}
		}
	}
	if solved < 100 || tight < 20 {
		t.Errorf("only %d problems are solved, %d of them with as few weighings as their cases ask for", solved, tight)
	}
}

// P3: no state needs fewer weighings than its cases ask for.
func TestP3StatesBound(t *testing.T) {
	tight, more := 0, 0
	for _, s := range allStates(13) {
		cases := impl.CountCases(s)
		if cases == 0 {
			continue
		}
		bound, fewest := impl.InfoBound(cases), impl.FewestFor(s)
		if bound < 0 || fewest >= 0 && fewest < bound {
			t.Fatalf("FewestFor(%+v) = %d, InfoBound(%d) = %d", s, fewest, cases, bound)
		}
		for k := range 4 {
			if k < bound && impl.CanFind(s, k) {
				t.Fatalf("CanFind(%+v, %d) is true, InfoBound(%d) = %d", s, k, cases, bound)
			}
		}
		if fewest == bound {
			tight++
		} else {
			more++
		}
	}
	if tight < 100 || more == 0 {
		t.Errorf("%d states are found with as many weighings as their cases ask for, %d are not", tight, more)
	}
}

// P3: of coins that may only be heavy, or only be light, as many weighings are enough as the cases ask for.
func TestP3HeavyBound(t *testing.T) {
	for n := 1; n <= 13; n++ {
		bound := impl.InfoBound(n)
		for good := 0; n+good <= 13; good++ {
			for _, s := range []impl.State{{Heavy: n, Good: good}, {Light: n, Good: good}} {
				if got := impl.FewestFor(s); got != bound || !impl.CanFind(s, bound) || impl.CanFind(s, bound-1) {
					t.Errorf("FewestFor(%+v) = %d, InfoBound(%d) = %d", s, got, n, bound)
				}
			}
		}
	}
}

// P3: one of some unknown coins that is heavy or light is found with k weighings exactly for the numbers of coins of MostUnknown.
func TestP3UnknownBound(t *testing.T) {
	for k := range 4 {
		with, without := impl.MostUnknown(k, true), impl.MostUnknown(k, false)
		for n := 1; n <= 13; n++ {
			// One or two coins that nothing is known of are never told apart without a good one.
			if got := impl.CanFind(impl.State{Both: n}, k); got != (n > 2 && n <= without) {
				t.Errorf("CanFind(%d unknown coins, %d) = %v, MostUnknown is %d", n, k, got, without)
			}
			for good := 1; n+good <= 13; good++ {
				if got := impl.CanFind(impl.State{Both: n, Good: good}, k); got != (n <= with) {
					t.Errorf("CanFind(%d unknown coins and %d good ones, %d) = %v, MostUnknown is %d", n, good, k, got, with)
				}
			}
		}
		if got := mostBoth(k, 0); got != without {
			t.Errorf("with %d weighings, one of %d unknown coins is found, MostUnknown is %d", k, got, without)
		}
		// Beside a good coin, there is room for 12 others.
		if got := mostBoth(k, 1); got != min(with, 12) {
			t.Errorf("with %d weighings and a good coin, one of %d unknown coins is found, MostUnknown is %d", k, got, with)
		}
	}
}

// P3: with a good coin the coins that can be found have, with the case that none is bad, as many cases as the weighings have ways to come out.
func TestP3UnknownWays(t *testing.T) {
	for k := range 13 {
		n := impl.MostUnknown(k, true)
		if impl.InfoBound(2*n+1) != k || impl.InfoBound(2*n+2) != k+1 {
			t.Errorf("MostUnknown(%d, true) = %d, InfoBound(%d) = %d, InfoBound(%d) = %d", k, n, 2*n+1, impl.InfoBound(2*n+1), 2*n+2, impl.InfoBound(2*n+2))
		}
		if without := impl.MostUnknown(k, false); without != max(n-1, 0) {
			t.Errorf("MostUnknown(%d, false) = %d, with a good coin it is %d", k, without, n)
		}
	}
}

// P3: in each weighing, the adversary keeps at least a third of the cases, and what is kept beyond that is lost.
func TestP3AdversaryThird(t *testing.T) {
	exact := 0
	for _, s := range allStates(13) {
		cases := impl.CountCases(s)
		for _, p := range allPicks()[s] {
			worst, ok := impl.WorstOutcome(s, p)
			kept, after := impl.AfterPick(s, p, worst)
			left := impl.CountCases(kept)
			if !ok || !after || 3*left < cases || left > cases {
				t.Fatalf("WorstOutcome(%+v, %+v) = %d, %v: of %d cases %d are left", s, p, worst, ok, cases, left)
			}
			lost := impl.LostCases(s, p)
			if lost < 0 || 3*(left-lost) < cases || 3*(left-lost) >= cases+3 {
				t.Fatalf("LostCases(%+v, %+v) = %d: of %d cases %d are left", s, p, lost, cases, left)
			}
			if lost == 0 && cases > 0 {
				exact++
			}
		}
	}
	if exact < 1000 {
		t.Errorf("only %d picks divide the cases as well as possible", exact)
	}
}

// P3: after k picks, at least the cases divided by 3 to the power of k are left.
func TestP3CasesLeft(t *testing.T) {
	long := 0
	for i, s := range allStates(13) {
		for seed := range 6 {
			picks := somePlay(s, 10, 7*i+seed)
			least := impl.CountCases(s)
			for k := range len(picks) + 1 {
				left := impl.CasesLeft(s, picks[:k])
				if left < least || k == 0 && left != impl.CountCases(s) {
					t.Fatalf("CasesLeft(%+v, %+v) = %d, want at least %d", s, picks[:k], left, least)
				}
				// From here on, a third of what is left, rounded up.
				least = (left + 2) / 3
				if power := int(math.Pow(3, float64(k))); left*power < impl.CountCases(s) {
					t.Fatalf("CasesLeft(%+v, %+v) = %d of %d", s, picks[:k], left, impl.CountCases(s))
				}
			}
			if len(picks) == 10 {
				long++
			}
		}
	}
	if long < 1000 {
		t.Errorf("only %d of the plays have 10 picks", long)
	}
}

// P3: what the adversary answers is true of real coins: as many cases as it says have all these outcomes.
func TestP3AdversaryHonest(t *testing.T) {
	for i, s := range allStates(13) {
		if s.Both+s.Heavy+s.Light+s.Good > 7 && i%3 != 0 {
			continue
		}
		picks := somePlay(s, 4, 11*i+3)
		outcomes, last, ok := impl.PlayAgainst(s, picks)
		if !ok || len(outcomes) != len(picks) {
			t.Fatalf("PlayAgainst(%+v, %+v) = %v, %+v, %v", s, picks, outcomes, last, ok)
		}
		kept := casesKept(s, picks, outcomes)
		if len(kept) != impl.CountCases(last) || len(kept) != impl.CasesLeft(s, picks) {
			t.Fatalf("PlayAgainst(%+v, %+v) = %v, %+v: the cases %v are left", s, picks, outcomes, last, kept)
		}
		var sorted [4]int
		for _, class := range classesOf(kept, s.Both+s.Heavy+s.Light+s.Good) {
			sorted[class]++
		}
		if stateFrom(sorted) != last {
			t.Fatalf("PlayAgainst(%+v, %+v) = %v, %+v: the coins are %v", s, picks, outcomes, last, sorted)
		}
	}
}

// P3: with fewer picks than the cases ask for, more than one case is left; with the first picks and enough of them, only one is.
func TestP3AdversaryBeaten(t *testing.T) {
	beaten := 0
	for i, s := range allStates(13) {
		if impl.CountCases(s) == 0 {
			continue
		}
		bound := impl.InfoBound(impl.CountCases(s))
		for seed := range 4 {
			picks := somePlay(s, max(bound-1, 0), 5*i+seed)
			if left := impl.CasesLeft(s, picks); bound > 0 && left < 2 {
				t.Fatalf("CasesLeft(%+v, %+v) = %d, InfoBound is %d", s, picks, left, bound)
			}
		}
		var picks []impl.Pick
		state := s
		for k := impl.FewestFor(s); k > 0 && impl.CountCases(state) > 1; k-- {
			p, _ := impl.FirstPick(state, k)
			picks = append(picks, p)
			_, state, _ = impl.PlayAgainst(s, picks)
		}
		if left := impl.CasesLeft(s, picks); impl.FewestFor(s) >= 0 && left != 1 {
			t.Fatalf("CasesLeft(%+v, %+v) = %d with the first picks", s, picks, left)
		}
		if impl.FewestFor(s) > 0 {
			beaten++
		}
	}
	if beaten < 100 {
		t.Errorf("the adversary is beaten in only %d states", beaten)
	}
}

func TestP9InfoBoundNamed(t *testing.T) {
	named := []struct{ cases, want int }{
		{1, 0}, {2, 1}, {3, 1}, {4, 2}, {5, 2}, {7, 2}, {8, 2}, {9, 2}, {10, 3}, {24, 3}, {25, 3}, {26, 3}, {27, 3}, {28, 4}, {80, 4}, {81, 4}, {82, 5},
		{242, 5}, {243, 5}, {244, 6}, {728, 6}, {729, 6}, {730, 7}, {2186, 7}, {2187, 7}, {2188, 8}, {6560, 8}, {6561, 8}, {6562, 9},
		{19682, 9}, {19683, 9}, {19684, 10}, {59048, 10}, {59049, 10}, {59050, 11}, {177146, 11}, {177147, 11}, {177148, 12},
		{531440, 12}, {531441, 12}, {531442, 13}, {999999, 13}, {1000000, 13},
		{0, -1}, {-1, -1}, {-2, -1}, {-3, -1}, {-9, -1}, {-1000000, -1}, {1000001, -1}, {1000002, -1}, {1594322, -1}, {1594323, -1}, {1594324, -1}, {4782969, -1},
		{math.MinInt, -1}, {math.MinInt + 1, -1}, {math.MaxInt, -1}, {math.MaxInt - 1, -1}, {1 << 32, -1}, {1<<32 + 9, -1}, {-1<<32 + 9, -1}, {1 << 62, -1}, {4052555153018976267, -1},
	}
	for _, n := range named {
		if got := impl.InfoBound(n.cases); got != n.want {
			t.Errorf("InfoBound(%d) = %d, want %d", n.cases, got, n.want)
		}
	}
}

// P9: all numbers of cases and some others.
func TestP9InfoBound(t *testing.T) {
	for cases := -100; cases <= 1000100; cases++ {
		if got := impl.InfoBound(cases); got != wantBound(cases) {
			t.Fatalf("InfoBound(%d) = %d, want %d", cases, got, wantBound(cases))
		}
	}
	for _, cases := range someInts() {
		if got := impl.InfoBound(cases); got != wantBound(cases) {
			t.Errorf("InfoBound(%d) = %d, want %d", cases, got, wantBound(cases))
		}
	}
}

func TestP9MostUnknownNamed(t *testing.T) {
	with := []int{0, 1, 4, 13, 40, 121, 364, 1093, 3280, 9841, 29524, 88573, 265720}
	without := []int{0, 0, 3, 12, 39, 120, 363, 1092, 3279, 9840, 29523, 88572, 265719}
	for k := range with {
		if one, other := impl.MostUnknown(k, true), impl.MostUnknown(k, false); one != with[k] || other != without[k] {
			t.Errorf("MostUnknown(%d, ..) = %d with a good coin, want %d, and %d without one, want %d", k, one, with[k], other, without[k])
		}
	}
	for _, k := range []int{-1, -2, -3, -12, -13, 13, 14, 39, 40, 41, 63, 64, 100, 256 + 2, 1 << 32, 1<<32 + 2, 3 - 1<<32, 1 << 62, math.MinInt, math.MinInt + 1, math.MinInt + 2, math.MaxInt, math.MaxInt - 1} {
		for _, good := range []bool{true, false} {
			if got := impl.MostUnknown(k, good); got != 0 {
				t.Errorf("MostUnknown(%d, %v) = %d", k, good, got)
			}
		}
	}
}

func TestP9MostUnknown(t *testing.T) {
	for _, k := range append(someInts(), farNumbers()...) {
		for _, good := range []bool{true, false} {
			if got := impl.MostUnknown(k, good); got != wantUnknown(k, good) {
				t.Errorf("MostUnknown(%d, %v) = %d, want %d", k, good, got, wantUnknown(k, good))
			}
		}
	}
}

func TestP9WorstOutcomeNamed(t *testing.T) {
	good := impl.Pick{GoodLeft: 1, GoodRight: 1}
	heavy := impl.State{Heavy: 5, Good: 4}
	light := impl.State{Light: 5, Good: 4}
	named := []struct {
		s           impl.State
		p           impl.Pick
		worst, lost int
	}{
		// Three outcomes leave equally many cases.
		{impl.State{Heavy: 3}, impl.Pick{HeavyLeft: 1, HeavyRight: 1}, -1, 0},
		{impl.State{Light: 3}, impl.Pick{LightLeft: 1, LightRight: 1}, -1, 0},
		{impl.State{Both: 3}, impl.Pick{BothLeft: 1, BothRight: 1}, -1, 0},
		{impl.State{Both: 12}, impl.Pick{BothLeft: 4, BothRight: 4}, -1, 0},
		{impl.State{Heavy: 2, Light: 1}, impl.Pick{HeavyLeft: 1, HeavyRight: 1}, -1, 0},
		// Unequal sides leave equally many cases, and equal ones fewer.
		{impl.State{Both: 13}, impl.Pick{BothLeft: 6, BothRight: 6}, -1, 3},
		{impl.State{Heavy: 5}, impl.Pick{HeavyLeft: 2, HeavyRight: 2}, -1, 0},
		{impl.State{Both: 4, Good: 1}, impl.Pick{BothLeft: 1, BothRight: 2, GoodLeft: 1}, -1, 0},
		{impl.State{Both: 2, Heavy: 3}, impl.Pick{BothLeft: 1, BothRight: 1, HeavyLeft: 1, HeavyRight: 1}, -1, 0},
		// Unequal sides leave equally many cases, and equal ones more.
		{impl.State{Both: 4}, impl.Pick{BothLeft: 1, BothRight: 1}, 0, 1},
		{impl.State{Heavy: 4}, impl.Pick{HeavyLeft: 1, HeavyRight: 1}, 0, 0},
		{impl.State{Both: 3, Heavy: 1}, impl.Pick{BothLeft: 1, BothRight: 1}, 0, 0},
		{impl.State{Both: 13}, impl.Pick{BothLeft: 1, BothRight: 1}, 0, 13},
		// A lighter left side and equal sides leave equally many cases, and a heavier one fewer.
		{heavy, impl.Pick{HeavyLeft: 1, HeavyRight: 2, GoodLeft: 1}, -1, 0},
		{light, impl.Pick{LightLeft: 2, LightRight: 1, GoodRight: 1}, -1, 0},
		{impl.State{Both: 2, Heavy: 3, Light: 1}, impl.Pick{BothLeft: 1, HeavyLeft: 1, HeavyRight: 2}, -1, 0},
		// Equal sides and a heavier left one leave equally many cases, and a lighter one fewer.
		{heavy, impl.Pick{HeavyLeft: 2, HeavyRight: 1, GoodRight: 1}, 0, 0},
		{light, impl.Pick{LightLeft: 1, LightRight: 2, GoodLeft: 1}, 0, 0},
		// One outcome leaves most cases.
		{impl.State{Heavy: 3, Light: 3}, impl.Pick{HeavyLeft: 2, LightLeft: 1, HeavyRight: 1, LightRight: 2}, 1, 2},
		{heavy, impl.Pick{HeavyLeft: 3, HeavyRight: 1, GoodRight: 2}, 1, 1},
		{heavy, impl.Pick{HeavyLeft: 1, HeavyRight: 3, GoodLeft: 2}, -1, 1},
		{light, impl.Pick{LightLeft: 3, LightRight: 1, GoodRight: 2}, -1, 1},
		{light, impl.Pick{LightLeft: 1, LightRight: 3, GoodLeft: 2}, 1, 1},
		// Outcomes that cannot come.
		{impl.State{Heavy: 2}, impl.Pick{HeavyLeft: 1, HeavyRight: 1}, -1, 0},
		{impl.State{Light: 2}, impl.Pick{LightLeft: 1, LightRight: 1}, -1, 0},
		{heavy, impl.Pick{HeavyLeft: 3, GoodRight: 3}, 1, 1},
		{heavy, impl.Pick{HeavyLeft: 2, GoodRight: 2}, 0, 1},
		{heavy, impl.Pick{HeavyRight: 3, GoodLeft: 3}, -1, 1},
		{light, impl.Pick{LightLeft: 3, GoodRight: 3}, -1, 1},
		{light, impl.Pick{LightRight: 3, GoodLeft: 3}, 1, 1},
		{impl.State{Heavy: 4, Good: 2}, impl.Pick{HeavyLeft: 2, GoodRight: 2}, 0, 0},
		{impl.State{Heavy: 4, Good: 2}, impl.Pick{HeavyRight: 2, GoodLeft: 2}, -1, 0},
		{impl.State{Heavy: 1, Light: 1}, impl.Pick{HeavyLeft: 1, LightRight: 1}, 1, 1},
		{impl.State{Heavy: 1, Light: 1}, impl.Pick{LightLeft: 1, HeavyRight: 1}, -1, 1},
		{impl.State{Both: 1, Good: 1}, impl.Pick{BothLeft: 1, GoodRight: 1}, -1, 0},
		{impl.State{Both: 1, Good: 1}, impl.Pick{BothRight: 1, GoodLeft: 1}, -1, 0},
		// One case.
		{impl.State{Heavy: 1, Good: 1}, impl.Pick{HeavyLeft: 1, GoodRight: 1}, 1, 0},
		{impl.State{Light: 1, Good: 1}, impl.Pick{LightLeft: 1, GoodRight: 1}, -1, 0},
		{impl.State{Light: 1, Good: 2}, good, 0, 0},
		// Good coins alone.
		{impl.State{Both: 4, Heavy: 4, Light: 3, Good: 2}, good, 0, 10},
		{impl.State{Both: 1, Good: 2}, good, 0, 1},
		{impl.State{Heavy: 2, Good: 2}, good, 0, 1},
		{impl.State{Heavy: 3, Good: 2}, good, 0, 2},
		// No case at all.
		{impl.State{Good: 2}, good, -1, 0},
		{impl.State{Good: 13}, impl.Pick{GoodLeft: 6, GoodRight: 6}, -1, 0},
	}
	for _, n := range named {
		if got, ok := impl.WorstOutcome(n.s, n.p); !ok || got != n.worst {
			t.Errorf("WorstOutcome(%+v, %+v) = %d, %v, want %d", n.s, n.p, got, ok, n.worst)
		}
		if got := impl.LostCases(n.s, n.p); got != n.lost {
			t.Errorf("LostCases(%+v, %+v) = %d, want %d", n.s, n.p, got, n.lost)
		}
	}
}

// P9: all valid picks of all states.
func TestP9WorstOutcome(t *testing.T) {
	outcomes, lost := map[int]int{}, map[int]int{}
	for s, picks := range allPicks() {
		for _, p := range picks {
			want, _ := wantWorst(s, p)
			if got, ok := impl.WorstOutcome(s, p); !ok || got != want {
				t.Fatalf("WorstOutcome(%+v, %+v) = %d, %v, want %d", s, p, got, ok, want)
			}
			if got := impl.LostCases(s, p); got != wantLost(s, p) {
				t.Fatalf("LostCases(%+v, %+v) = %d, want %d", s, p, got, wantLost(s, p))
			}
			outcomes[want]++
			lost[wantLost(s, p)]++
		}
	}
	if outcomes[-1] < 1000 || outcomes[0] < 1000 || outcomes[1] < 1000 || lost[0] < 1000 || lost[1] < 1000 || lost[4] < 100 {
		t.Errorf("picks by their worst outcome: %v, by the cases that are lost: %v", outcomes, lost)
	}
}

// P9: the outcomes of real coins are counted case by case.
func TestP9WorstOutcomeCoins(t *testing.T) {
	for s, picks := range allPicks() {
		for i, p := range picks {
			if s.Both+s.Heavy+s.Light+s.Good > 6 && i%41 != 0 {
				continue
			}
			coins := trayOf(s, p)
			var counts [3]int
			for _, c := range coins.cases {
				counts[wantOutcome(coins.w, c)+1]++
			}
			want := slices.Index(counts[:], slices.Max(counts[:])) - 1
			if got, ok := impl.WorstOutcome(s, p); !ok || got != want {
				t.Fatalf("WorstOutcome(%+v, %+v) = %d, %v, want %d of %v", s, p, got, ok, want, counts)
			}
			if want := slices.Max(counts[:]) - int(math.Ceil(float64(len(coins.cases))/3)); impl.LostCases(s, p) != want {
				t.Fatalf("LostCases(%+v, %+v) = %d, want %d of %v", s, p, impl.LostCases(s, p), want, counts)
			}
		}
	}
}

// P9: for a pick that is not valid there is no worst outcome and no case that is lost.
func TestP9WorstOutcomeInvalid(t *testing.T) {
	for _, n := range wrongPicks() {
		if got, ok := impl.WorstOutcome(n.s, n.p); ok || got != 0 {
			t.Errorf("%s: WorstOutcome(%+v, %+v) = %d, %v", n.label, n.s, n.p, got, ok)
		}
		if got := impl.LostCases(n.s, n.p); got != -1 {
			t.Errorf("%s: LostCases(%+v, %+v) = %d", n.label, n.s, n.p, got)
		}
	}
	for s, picks := range allPicks() {
		for _, p := range append(picks[:len(picks):len(picks)], impl.Pick{}) {
			f := pickFields(p)
			f[len(picks)%8]++
			if got, ok := impl.WorstOutcome(s, pickFrom(f)); ok || got != 0 || impl.LostCases(s, pickFrom(f)) != -1 {
				t.Fatalf("WorstOutcome(%+v, %v) = %d, %v, LostCases is %d", s, f, got, ok, impl.LostCases(s, pickFrom(f)))
			}
		}
	}
}

func TestP9PlayAgainstNamed(t *testing.T) {
	good := impl.Pick{GoodLeft: 1, GoodRight: 1}
	both := impl.Pick{BothLeft: 1, BothRight: 1}
	heavy := impl.Pick{HeavyLeft: 1, HeavyRight: 1}
	light := impl.Pick{LightLeft: 1, LightRight: 1}
	named := []struct {
		s     impl.State
		picks []impl.Pick
		want  []int
		last  impl.State
		left  int
	}{
		// No picks.
		{impl.State{Both: 4}, nil, nil, impl.State{Both: 4}, 8},
		{impl.State{Both: 4}, []impl.Pick{}, nil, impl.State{Both: 4}, 8},
		{impl.State{Both: 2, Heavy: 3, Light: 4, Good: 4}, nil, nil, impl.State{Both: 2, Heavy: 3, Light: 4, Good: 4}, 11},
		{impl.State{Light: 1}, nil, nil, impl.State{Light: 1}, 1},
		{impl.State{Both: 13}, []impl.Pick{}, nil, impl.State{Both: 13}, 26},
		// One pick.
		{impl.State{Both: 4}, []impl.Pick{both}, []int{0}, impl.State{Both: 2, Good: 2}, 4},
		{impl.State{Heavy: 3}, []impl.Pick{heavy}, []int{-1}, impl.State{Heavy: 1, Good: 2}, 1},
		{impl.State{Light: 2, Good: 2}, []impl.Pick{{LightRight: 2, GoodLeft: 2}}, []int{1}, impl.State{Light: 2, Good: 2}, 2},
		// Several picks.
		{impl.State{Both: 12}, []impl.Pick{{BothLeft: 4, BothRight: 4}, {HeavyLeft: 2, LightLeft: 1, HeavyRight: 2, LightRight: 1}, heavy},
			[]int{-1, -1, -1}, impl.State{Heavy: 1, Good: 11}, 1},
		{impl.State{Both: 12}, []impl.Pick{{BothLeft: 4, BothRight: 4}, {HeavyLeft: 1, LightLeft: 1, HeavyRight: 1, LightRight: 1}},
			[]int{-1, 0}, impl.State{Heavy: 2, Light: 2, Good: 8}, 4},
		{impl.State{Both: 6}, []impl.Pick{both, both, both}, []int{0, 0, -1}, impl.State{Heavy: 1, Light: 1, Good: 4}, 2},
		{impl.State{Both: 13}, []impl.Pick{both, both, both, both, both}, []int{0, 0, 0, 0, 0}, impl.State{Both: 3, Good: 10}, 6},
		{impl.State{Heavy: 5, Good: 2}, []impl.Pick{{HeavyLeft: 2, GoodRight: 2}, {HeavyLeft: 2, GoodRight: 2}}, []int{0, 1}, impl.State{Heavy: 2, Good: 5}, 2},
		// A pick that is valid in the state in which its turn comes, but not in the first one.
		{impl.State{Both: 4}, []impl.Pick{both, good}, []int{0, 0}, impl.State{Both: 2, Good: 2}, 4},
		{impl.State{Both: 4}, []impl.Pick{good, both}, nil, impl.State{}, -1},
		{impl.State{Both: 4}, []impl.Pick{both, {BothLeft: 1, GoodRight: 1}}, []int{0, 0}, impl.State{Both: 1, Good: 3}, 2},
		{impl.State{Both: 3}, []impl.Pick{both, {HeavyLeft: 1, LightRight: 1}}, []int{-1, 1}, impl.State{Heavy: 1, Light: 1, Good: 1}, 2},
		// A pick that is valid in the first state, or in one on the way, but not in the state in which its turn comes.
		{impl.State{Both: 4}, []impl.Pick{{BothLeft: 2, BothRight: 2}, both}, nil, impl.State{}, -1},
		{impl.State{Both: 12}, []impl.Pick{{BothLeft: 4, BothRight: 4}, {HeavyLeft: 2, LightLeft: 1, HeavyRight: 2, LightRight: 1}, light}, nil, impl.State{}, -1},
		{impl.State{Both: 4}, []impl.Pick{both, {BothLeft: 2, BothRight: 2}}, nil, impl.State{}, -1},
		{impl.State{Both: 4}, []impl.Pick{both, both, both}, nil, impl.State{}, -1},
		{impl.State{Heavy: 3}, []impl.Pick{heavy, heavy}, nil, impl.State{}, -1},
		{impl.State{Heavy: 3}, []impl.Pick{heavy, good, heavy}, nil, impl.State{}, -1},
		{impl.State{Heavy: 3}, []impl.Pick{heavy, heavy, good}, nil, impl.State{}, -1},
		{impl.State{Heavy: 3}, []impl.Pick{heavy, good}, []int{-1, 0}, impl.State{Heavy: 1, Good: 2}, 1},
		{impl.State{Light: 4}, []impl.Pick{light, light, light}, nil, impl.State{}, -1},
		{impl.State{Light: 4}, []impl.Pick{light, light, good}, []int{0, -1, 0}, impl.State{Light: 1, Good: 3}, 1},
		// A pick that is valid in no state.
		{impl.State{Both: 4}, []impl.Pick{{}}, nil, impl.State{}, -1},
		{impl.State{Both: 4}, []impl.Pick{both, {}}, nil, impl.State{}, -1},
		{impl.State{Both: 4}, []impl.Pick{{}, both}, nil, impl.State{}, -1},
		{impl.State{Both: 4}, []impl.Pick{both, {GoodLeft: -1, GoodRight: -1}}, nil, impl.State{}, -1},
		{impl.State{Both: 4}, []impl.Pick{both, {GoodLeft: math.MaxInt, GoodRight: math.MaxInt}}, nil, impl.State{}, -1},
		// No case at all.
		{impl.State{Good: 1}, nil, nil, impl.State{Good: 1}, 0},
		{impl.State{Good: 13}, []impl.Pick{}, nil, impl.State{Good: 13}, 0},
		{impl.State{Good: 2}, []impl.Pick{good}, []int{-1}, impl.State{Good: 2}, 0},
		{impl.State{Good: 2}, []impl.Pick{good, good, good}, []int{-1, -1, -1}, impl.State{Good: 2}, 0},
		{impl.State{Good: 1}, []impl.Pick{good}, nil, impl.State{}, -1},
		{impl.State{Good: 2}, []impl.Pick{good, {}}, nil, impl.State{}, -1},
		// Ten picks, and eleven.
		{impl.State{Both: 3, Good: 2}, slices.Repeat([]impl.Pick{good}, 10), make([]int, 10), impl.State{Both: 3, Good: 2}, 6},
		{impl.State{Both: 3, Good: 2}, slices.Repeat([]impl.Pick{good}, 11), nil, impl.State{}, -1},
		{impl.State{Good: 2}, slices.Repeat([]impl.Pick{good}, 10), slices.Repeat([]int{-1}, 10), impl.State{Good: 2}, 0},
		{impl.State{Good: 2}, slices.Repeat([]impl.Pick{good}, 11), nil, impl.State{}, -1},
		{impl.State{Good: 2}, slices.Repeat([]impl.Pick{good}, 12), nil, impl.State{}, -1},
		{impl.State{Good: 2}, slices.Repeat([]impl.Pick{good}, 256+3), nil, impl.State{}, -1},
		{impl.State{Good: 2}, slices.Repeat([]impl.Pick{good}, 70000), nil, impl.State{}, -1},
		{impl.State{Heavy: 3, Good: 2}, append(slices.Repeat([]impl.Pick{good}, 9), heavy), append(make([]int, 9), -1), impl.State{Heavy: 1, Good: 4}, 1},
		{impl.State{Heavy: 3, Good: 2}, append(slices.Repeat([]impl.Pick{good}, 10), heavy), nil, impl.State{}, -1},
		{impl.State{Heavy: 3, Good: 2}, append(slices.Repeat([]impl.Pick{good}, 9), impl.Pick{}), nil, impl.State{}, -1},
		{impl.State{Heavy: 3, Good: 2}, append([]impl.Pick{heavy}, slices.Repeat([]impl.Pick{good}, 9)...), append([]int{-1}, make([]int, 9)...), impl.State{Heavy: 1, Good: 4}, 1},
	}
	for _, n := range named {
		got, last, ok := impl.PlayAgainst(n.s, n.picks)
		if ok != (n.left >= 0) || last != n.last || !slices.Equal(got, n.want) {
			t.Errorf("PlayAgainst(%+v, %+v) = %v, %+v, %v, want %v, %+v", n.s, n.picks[:min(len(n.picks), 12)], got, last, ok, n.want, n.last)
		}
		if got := impl.CasesLeft(n.s, n.picks); got != n.left {
			t.Errorf("CasesLeft(%+v, %+v) = %d, want %d", n.s, n.picks[:min(len(n.picks), 12)], got, n.left)
		}
	}
}

// P9: all states with no pick, with plays of up to ten picks, and with one pick too many.
func TestP9PlayAgainst(t *testing.T) {
	long, eleven := 0, 0
	for i, s := range allStates(13) {
		checkPlay(t, s, nil)
		checkPlay(t, s, []impl.Pick{})
		for seed := range 12 {
			picks := somePlay(s, seed, 3*i+seed)
			if checkPlay(t, s, picks) && len(picks) == 10 {
				long++
			}
			if len(picks) == 11 {
				eleven++
			}
		}
	}
	if long < 1000 || eleven < 1000 {
		t.Errorf("only %d of the plays have 10 picks, %d have 11", long, eleven)
	}
}

// P9: all pairs of picks of small states, the second one valid in the first state or in the one in which its turn comes.
func TestP9PlayPairs(t *testing.T) {
	valid, wrong := 0, 0
	for _, s := range allStates(5) {
		for _, p := range allPicks()[s] {
			_, next := wantWorst(s, p)
			for _, second := range slices.Concat(allPicks()[s], allPicks()[next]) {
				if checkPlay(t, s, []impl.Pick{p, second}) {
					valid++
				} else {
					wrong++
				}
			}
		}
	}
	if valid < 1000 || wrong < 1000 {
		t.Errorf("%d of the pairs are valid, %d are not", valid, wrong)
	}
}

// P9: a play with one pick made wrong, at any place, has no outcomes at all.
func TestP9PlaySpoiled(t *testing.T) {
	for i, s := range allStates(13) {
		if i%4 != 0 {
			continue
		}
		picks := somePlay(s, 10, i)
		for place := range picks {
			for field := range 8 {
				wrong := slices.Clone(picks)
				f := pickFields(wrong[place])
				f[field] += []int{1, -1, 14, math.MinInt, math.MaxInt}[(place+field)%5]
				wrong[place] = pickFrom(f)
				if checkPlay(t, s, wrong) {
					t.Fatalf("%+v is valid for %+v", wrong, s)
				}
			}
		}
	}
}

// P9: in a state that is not valid nothing is played, not even without picks.
func TestP9PlayInvalid(t *testing.T) {
	plays := [][]impl.Pick{nil, {}, {{}}, {{BothLeft: 1, BothRight: 1}}, {{HeavyLeft: 1, HeavyRight: 1}}, {{LightLeft: 1, LightRight: 1}}, {{GoodLeft: 1, GoodRight: 1}},
		slices.Repeat([]impl.Pick{{GoodLeft: 1, GoodRight: 1}}, 10), slices.Repeat([]impl.Pick{{GoodLeft: 1, GoodRight: 1}}, 11)}
	for _, s := range wrongStates() {
		for _, picks := range plays {
			got, last, ok := impl.PlayAgainst(s, picks)
			if ok || len(got) > 0 || last != (impl.State{}) || impl.CasesLeft(s, picks) != -1 {
				t.Errorf("PlayAgainst(%+v, %+v) = %v, %+v, %v, CasesLeft is %d", s, picks, got, last, ok, impl.CasesLeft(s, picks))
			}
		}
	}
	for _, n := range wrongPicks() {
		checkPlay(t, n.s, []impl.Pick{n.p})
	}
}

// P9: picks and the room behind them stay as they are.
func TestP9PlayArguments(t *testing.T) {
	extra := []impl.Pick{{BothLeft: 71}, {HeavyRight: 72}, {BothLeft: 1, BothRight: 1}}
	for i, s := range append(allStates(8), wrongStates()...) {
		for _, length := range []int{0, 1, 3, 10, 11} {
			whole := append(somePlay(s, length, i), extra...)
			picks := whole[:len(whole)-len(extra)]
			before := slices.Clone(whole)
			for _, list := range [][]impl.Pick{picks, picks[:len(picks)/2], whole[:len(picks)+1], whole} {
				outcomes, _, _ := impl.PlayAgainst(s, list)
				impl.CasesLeft(s, list)
				spoil(outcomes)
				if !slices.Equal(whole, before) {
					t.Fatalf("PlayAgainst(%+v, %+v) or CasesLeft changed %+v to %+v", s, list, before, whole)
				}
			}
		}
	}
}

// P9: no two results share memory.
func TestP9PlayResults(t *testing.T) {
	s := impl.State{Heavy: 3, Good: 2}
	picks := []impl.Pick{{GoodLeft: 1, GoodRight: 1}, {HeavyLeft: 1, HeavyRight: 1}, {GoodLeft: 1, GoodRight: 1}}
	want := []int{0, -1, 0}
	for k := range len(picks) + 1 {
		one, _, _ := impl.PlayAgainst(s, picks[:k])
		two, _, _ := impl.PlayAgainst(s, picks[:k])
		longer, _, _ := impl.PlayAgainst(s, picks)
		spoil(one)
		if !slices.Equal(two, want[:k]) || !slices.Equal(longer, want) {
			t.Errorf("two results of PlayAgainst share memory: %v, %v", two, longer)
		}
		spoil(longer)
		if !slices.Equal(two, want[:k]) {
			t.Errorf("two results of PlayAgainst share memory: %v", two)
		}
		if again, _, ok := impl.PlayAgainst(s, picks[:k]); !ok || !slices.Equal(again, want[:k]) {
			t.Errorf("PlayAgainst(%+v, %+v) = %v, %v after a result was changed", s, picks[:k], again, ok)
		}
	}
}

// P9: a call that is repeated many times, with other calls in between, returns the same.
func TestP9BoundRepeated(t *testing.T) {
	s, other := impl.State{Both: 4}, impl.State{Heavy: 5, Good: 4}
	p, q := impl.Pick{BothLeft: 1, BothRight: 1}, impl.Pick{HeavyLeft: 3, GoodRight: 3}
	picks := []impl.Pick{p, {BothLeft: 1, GoodRight: 1}}
	for range 2000 {
		if impl.InfoBound(25) != 3 || impl.InfoBound(1000000) != 13 || impl.InfoBound(0) != -1 || impl.InfoBound(1) != 0 {
			t.Fatal("InfoBound changes")
		}
		if impl.MostUnknown(12, true) != 265720 || impl.MostUnknown(2, false) != 3 || impl.MostUnknown(13, true) != 0 || impl.MostUnknown(2, true) != 4 {
			t.Fatal("MostUnknown changes")
		}
		one, ok := impl.WorstOutcome(s, p)
		two, fine := impl.WorstOutcome(other, q)
		three, wrong := impl.WorstOutcome(s, q)
		if one != 0 || !ok || two != 1 || !fine || three != 0 || wrong {
			t.Fatalf("WorstOutcome changes: %d, %v, %d, %v, %d, %v", one, ok, two, fine, three, wrong)
		}
		if impl.LostCases(s, p) != 1 || impl.LostCases(other, q) != 1 || impl.LostCases(other, p) != -1 {
			t.Fatal("LostCases changes")
		}
		got, last, ok := impl.PlayAgainst(s, picks)
		none, zero, wrong := impl.PlayAgainst(other, picks)
		if !ok || !slices.Equal(got, []int{0, 0}) || last != (impl.State{Both: 1, Good: 3}) || wrong || len(none) > 0 || zero != (impl.State{}) {
			t.Fatalf("PlayAgainst changes: %v, %+v, %v, %v, %+v, %v", got, last, ok, none, zero, wrong)
		}
		if impl.CasesLeft(s, picks) != 2 || impl.CasesLeft(other, nil) != 5 || impl.CasesLeft(other, picks) != -1 {
			t.Fatal("CasesLeft changes")
		}
		spoil(got, none)
	}
	// The same slice with other contents is another play.
	picks[1] = p
	if got, last, ok := impl.PlayAgainst(s, picks); !ok || !slices.Equal(got, []int{0, -1}) || last != (impl.State{Heavy: 1, Light: 1, Good: 2}) {
		t.Errorf("PlayAgainst(%+v, %+v) = %v, %+v, %v", s, picks, got, last, ok)
	}
}

// P9: calls at the same time do not disturb each other.
func TestP9BoundTogether(t *testing.T) {
	states := allStates(13)
	wrong := make([]int, 8)
	allPicks()
	var group sync.WaitGroup
	for worker := range wrong {
		group.Go(func() {
			for i := worker; i < len(states); i += 5 {
				picks := somePlay(states[i], 5, i)
				want, last, _ := wantPlay(states[i], picks)
				got, state, ok := impl.PlayAgainst(states[i], picks)
				if !ok || state != last || !slices.Equal(got, want) || impl.CasesLeft(states[i], picks) != wantCount(last) {
					wrong[worker]++
				}
			}
		})
	}
	group.Wait()
	if slices.Max(wrong) > 0 {
		t.Errorf("wrong answers: %v", wrong)
	}
}

package tests

import (
	"math"
	"slices"
	"sync"
	"testing"

	"loop.example/g01040/impl"
)

func stateFrom(f [4]int) impl.State {
	return impl.State{Both: f[0], Heavy: f[1], Light: f[2], Good: f[3]}
}

func stateFields(s impl.State) [4]int { return [4]int{s.Both, s.Heavy, s.Light, s.Good} }

func pickFrom(f [8]int) impl.Pick {
	return impl.Pick{BothLeft: f[0], BothRight: f[1], HeavyLeft: f[2], HeavyRight: f[3], LightLeft: f[4], LightRight: f[5], GoodLeft: f[6], GoodRight: f[7]}
}

func pickFields(p impl.Pick) [8]int {
	return [8]int{p.BothLeft, p.BothRight, p.HeavyLeft, p.HeavyRight, p.LightLeft, p.LightRight, p.GoodLeft, p.GoodRight}
}

// allStates returns the valid states of at most so many coins.
func allStates(most int) []impl.State {
	var list []impl.State
	for both := range most + 1 {
		for heavy := range most - both + 1 {
			for light := range most - both - heavy + 1 {
				for good := range most - both - heavy - light + 1 {
					if both+heavy+light+good > 0 {
						list = append(list, stateFrom([4]int{both, heavy, light, good}))
					}
				}
			}
		}
	}
	return list
}

// wrongStates returns states that are not valid, many of them with a sum that is from 1 to MaxCoins if it leaves 64 bits.
func wrongStates() []impl.State {
	const half, quarter = 1 << 62, 1 << 61
	fields := [][4]int{
		{0, 0, 0, 0}, {14, 0, 0, 0}, {0, 14, 0, 0}, {0, 0, 14, 0}, {0, 0, 0, 14}, {13, 1, 0, 0}, {1, 13, 0, 0}, {0, 0, 1, 13}, {0, 0, 13, 1},
		{4, 4, 3, 3}, {3, 3, 4, 4}, {7, 7, 0, 0}, {0, 7, 0, 7}, {13, 13, 13, 13}, {1, 0, 0, -1}, {-1, 1, 1, 1}, {-1, 14, 0, 0}, {14, -1, 0, 0},
		{14, 0, -1, 0}, {14, 0, 0, -1}, {0, 0, 14, -1}, {20, -10, 0, 0}, {5, 5, 5, -5}, {-1, -1, -1, -1}, {-3, 0, 0, 4}, {0, -3, 4, 0},
		{math.MaxInt, math.MaxInt, 3, 0}, {0, 3, math.MaxInt, math.MaxInt}, {math.MaxInt, 4, 0, math.MaxInt}, {4, math.MaxInt, math.MaxInt, 2},
		{math.MaxInt, math.MaxInt, 2, 0}, {math.MinInt, math.MinInt, 5, 0}, {5, 0, math.MinInt, math.MinInt}, {1, math.MinInt, math.MinInt, 0},
		{math.MaxInt, math.MinInt, 6, 0}, {math.MinInt, math.MaxInt, 1, 1}, {6, 0, math.MaxInt, math.MinInt}, {2, math.MinInt, 0, math.MaxInt},
		{half, half, half, half}, {half, half, half, half + 5}, {half + 1, half, half, half}, {half, half + 13, half, half}, {half, half, half + 2, half},
		{-half, half, 3, 0}, {3, 0, half, -half}, {-half, -half, -half, 5 - half}, {quarter, quarter, half, -half + 3}, {half, half, math.MinInt, 7},
		{math.MaxInt, math.MaxInt, math.MaxInt, math.MaxInt}, {math.MinInt, math.MinInt, math.MinInt, math.MinInt}, {math.MaxInt, 0, 0, 3 - math.MaxInt},
		{1 << 32, 1 << 32, 0, 0}, {1<<32 + 3, 0, 0, 0}, {0, 256 + 3, 0, 0}, {0, 0, 1<<31 + 1, 0}, {0, 0, 0, 1<<16 + 2},
	}
	for _, valid := range [][4]int{{3, 0, 0, 0}, {0, 3, 0, 0}, {0, 0, 3, 0}, {0, 0, 0, 3}, {2, 3, 4, 1}, {1, 1, 1, 1}, {12, 0, 0, 1}} {
		for i := range valid {
			for _, n := range []int{-1, -2, -13, -14, math.MinInt, math.MinInt + 1, math.MaxInt, math.MaxInt - 1, 14, 100, half, -half, 1<<32 + 1, -1 << 32} {
				wrong := valid
				wrong[i] = n
				fields = append(fields, wrong)
			}
		}
	}
	var list []impl.State
	for _, f := range fields {
		list = append(list, stateFrom(f))
	}
	return list
}

func wantStateOk(s impl.State) bool {
	left := 13
	for _, n := range stateFields(s) {
		if n < 0 || n > left {
			return false
		}
		left -= n
	}
	return left < 13
}

// wantCount counts the cases of a valid state coin by coin.
func wantCount(s impl.State) int {
	cases := 0
	for range s.Both {
		cases += 2
	}
	for range s.Heavy + s.Light {
		cases++
	}
	return cases
}

func wantPickOk(s impl.State, p impl.Pick) bool {
	coins, lead, placed := stateFields(s), 0, 0
	for i, n := range pickFields(p) {
		if n < 0 || n > coins[i/2] {
			return false
		}
		coins[i/2] -= n
		placed += n
		lead += n * []int{1, -1}[i%2]
	}
	return wantStateOk(s) && lead == 0 && placed > 0
}

// wantPicks counts through all fields in lexicographic order and keeps the valid picks.
func wantPicks(s impl.State) []impl.Pick {
	most := [8]int{s.Both, s.Both, s.Heavy, s.Heavy, s.Light, s.Light, s.Good, s.Good}
	var picks []impl.Pick
	var fields [8]int
	for {
		if p := pickFrom(fields); wantPickOk(s, p) {
			picks = append(picks, p)
		}
		i := len(fields) - 1
		for i >= 0 && fields[i] == most[i] {
			fields[i] = 0
			i--
		}
		if i < 0 {
			return picks
		}
		fields[i]++
	}
}

// allPicks are the valid picks of all valid states; they are many, so the tests share them.
var allPicks = sync.OnceValue(func() map[impl.State][]impl.Pick {
	picks := map[impl.State][]impl.Pick{}
	for _, s := range allStates(13) {
		picks[s] = wantPicks(s)
	}
	return picks
})

// tray says for the coins 1, 2 and so on, class by class, what they may be, and lays those of a pick on the balance.
type tray struct {
	coins int
	cases []int
	w     impl.Weighing
}

func trayOf(s impl.State, p impl.Pick) tray {
	var t tray
	sides := pickFields(p)
	for class, n := range stateFields(s) {
		for i := range n {
			t.coins++
			if class == 0 || class == 1 {
				t.cases = append(t.cases, t.coins)
			}
			if class == 0 || class == 2 {
				t.cases = append(t.cases, -t.coins)
			}
			if i < sides[2*class] {
				t.w.Left = append(t.w.Left, t.coins)
			} else if i < sides[2*class]+sides[2*class+1] {
				t.w.Right = append(t.w.Right, t.coins)
			}
		}
	}
	return t
}

// after sorts the coins into classes by the cases that have the outcome.
func (t tray) after(outcome int) impl.State {
	var next impl.State
	for coin := 1; coin <= t.coins; coin++ {
		heavy := slices.Contains(t.cases, coin) && wantOutcome(t.w, coin) == outcome
		light := slices.Contains(t.cases, -coin) && wantOutcome(t.w, -coin) == outcome
		switch {
		case heavy && light:
			next.Both++
		case heavy:
			next.Heavy++
		case light:
			next.Light++
		default:
			next.Good++
		}
	}
	return next
}

// wantNext returns the states after the outcomes -1, 0 and 1.
func wantNext(s impl.State, p impl.Pick) [3]impl.State {
	coins := s.Both + s.Heavy + s.Light + s.Good
	next := [3]impl.State{
		{Heavy: p.BothRight + p.HeavyRight, Light: p.BothLeft + p.LightLeft},
		{Both: s.Both - p.BothLeft - p.BothRight, Heavy: s.Heavy - p.HeavyLeft - p.HeavyRight, Light: s.Light - p.LightLeft - p.LightRight},
		{Heavy: p.BothLeft + p.HeavyLeft, Light: p.BothRight + p.LightRight},
	}
	for i, n := range next {
		next[i].Good = coins - n.Both - n.Heavy - n.Light
	}
	return next
}

// wantFewest finds all states with no weighing, then all with one, two and three: any valid pick may lead there, good coins alone too.
var wantFewest = sync.OnceValue(func() map[impl.State]int {
	fewest := map[impl.State]int{}
	for s := range allPicks() {
		if wantCount(s) <= 1 {
			fewest[s] = 0
		}
	}
	for k := 1; k <= 3; k++ {
		var found []impl.State
		for s, picks := range allPicks() {
			if _, before := fewest[s]; !before && slices.ContainsFunc(picks, func(p impl.Pick) bool { return allFound(fewest, s, p) }) {
				found = append(found, s)
			}
		}
		for _, s := range found {
			fewest[s] = k
		}
	}
	return fewest
})

func allFound(fewest map[impl.State]int, s impl.State, p impl.Pick) bool {
	for _, next := range wantNext(s, p) {
		if _, found := fewest[next]; !found {
			return false
		}
	}
	return true
}

func wantCanFind(s impl.State, k int) bool {
	fewest, found := wantFewest()[s]
	return found && k <= 3 && fewest <= k
}

// hasSuspect reports whether a coin that is not good is on the balance.
func hasSuspect(p impl.Pick) bool {
	p.GoodLeft, p.GoodRight = 0, 0
	return p != impl.Pick{}
}

func wantFirst(s impl.State, k int) (impl.Pick, bool) {
	if k < 1 || k > 3 {
		return impl.Pick{}, false
	}
	for _, p := range allPicks()[s] {
		next := wantNext(s, p)
		if hasSuspect(p) && wantCanFind(next[0], k-1) && wantCanFind(next[1], k-1) && wantCanFind(next[2], k-1) {
			return p, true
		}
	}
	return impl.Pick{}, false
}

// farNumbers are numbers of weighings that no state can be asked for.
func farNumbers() []int {
	return []int{-1, -2, -3, -256, -1 << 32, 3 - 1<<32, math.MinInt, math.MinInt + 1, math.MinInt + 2, math.MinInt + 3,
		4, 5, 6, 13, 40, 63, 64, 100, 256, 256 + 3, 1 << 32, 1<<32 + 1, 1<<32 + 3, 1 << 62, math.MaxInt - 1, math.MaxInt}
}

func threeTo(k int) int { return []int{1, 3, 9, 27}[k] }

// P3: the cases of a state are divided among the states after the three outcomes, and no coin is lost.
func TestP3CasesDivided(t *testing.T) {
	picks := 0
	for _, s := range allStates(13) {
		coins := s.Both + s.Heavy + s.Light + s.Good
		for _, p := range allPicks()[s] {
			picks++
			cases := 0
			for outcome := -1; outcome <= 1; outcome++ {
				next, ok := impl.AfterPick(s, p, outcome)
				if !ok || !impl.StateOk(next) || next.Both+next.Heavy+next.Light+next.Good != coins || next.Good < s.Good {
					t.Fatalf("AfterPick(%+v, %+v, %d) = %+v, %v", s, p, outcome, next, ok)
				}
				if outcome != 0 && next.Both != 0 {
					t.Fatalf("AfterPick(%+v, %+v, %d) = %+v: a coin may still be heavy or light", s, p, outcome, next)
				}
				cases += impl.CountCases(next)
			}
			if cases != impl.CountCases(s) {
				t.Fatalf("%+v has %d cases, after %+v there are %d", s, impl.CountCases(s), p, cases)
			}
		}
	}
	if picks < 500000 {
		t.Errorf("there are only %d picks", picks)
	}
}

// P3: the state after a weighing says of each coin what the cases with this outcome say of it.
func TestP3CoinsAfterPick(t *testing.T) {
	for _, s := range allStates(13) {
		for i, p := range allPicks()[s] {
			if s.Both+s.Heavy+s.Light+s.Good > 7 && i%23 != 0 {
				continue
			}
			coins := trayOf(s, p)
			for outcome := -1; outcome <= 1; outcome++ {
				if got, ok := impl.AfterPick(s, p, outcome); !ok || got != coins.after(outcome) {
					t.Fatalf("AfterPick(%+v, %+v, %d) = %+v, %v, want %+v", s, p, outcome, got, ok, coins.after(outcome))
				}
			}
		}
	}
}

// worstAfter returns the greatest FewestFor of the states after a pick, or -1 if one of them is not found.
func worstAfter(s impl.State, p impl.Pick) int {
	worst := 0
	for outcome := -1; outcome <= 1; outcome++ {
		next, ok := impl.AfterPick(s, p, outcome)
		fewest := impl.FewestFor(next)
		if !ok || fewest < 0 {
			return -1
		}
		worst = max(worst, fewest)
	}
	return worst
}

// P3: the first pick leads to states that need one weighing fewer, and there is one exactly if so many weighings are enough.
func TestP3FirstPickLeadsOn(t *testing.T) {
	for _, s := range allStates(13) {
		fewest := impl.FewestFor(s)
		for k := 1; k <= 3; k++ {
			p, ok := impl.FirstPick(s, k)
			if fewest > 0 && ok != (fewest <= k) || fewest < 0 && ok {
				t.Fatalf("FirstPick(%+v, %d) = %+v, %v, but FewestFor is %d", s, k, p, ok, fewest)
			}
			if !ok {
				continue
			}
			worst := worstAfter(s, p)
			if !impl.PickOk(s, p) || !hasSuspect(p) || worst < 0 || worst > k-1 || fewest == k && worst != k-1 {
				t.Fatalf("FirstPick(%+v, %d) = %+v needs %d weighings more, FewestFor is %d", s, k, p, worst, fewest)
			}
		}
	}
}

// findBad weighs real coins by the first picks until one case is left, and returns it and the number of weighings, -1 if it fails.
func findBad(s impl.State, k, bad int) (int, int) {
	cases := trayOf(s, impl.Pick{}).cases
	classes := map[int]int{}
	next := 0
	for class, n := range stateFields(s) {
		for range n {
			next++
			classes[next] = class
		}
	}
	weighings := 0
	for len(cases) > 1 {
		p, ok := impl.FirstPick(s, k-weighings)
		if !ok {
			return 0, -1
		}
		weighings++
		w := layCoins(classes, p)
		if !impl.WeighingOk(w, len(classes)) {
			return 0, -1
		}
		outcome := wantOutcome(w, bad)
		cases = slices.DeleteFunc(cases, func(c int) bool { return wantOutcome(w, c) != outcome })
		for coin := range classes {
			classes[coin] = []int{3, 1, 2, 0}[countOf(cases, coin)+2*countOf(cases, -coin)]
		}
		s, _ = impl.AfterPick(s, p, outcome)
	}
	return cases[0], weighings
}

func countOf(cases []int, c int) int {
	if slices.Contains(cases, c) {
		return 1
	}
	return 0
}

func layCoins(classes map[int]int, p impl.Pick) impl.Weighing {
	left := pickFields(p)
	var w impl.Weighing
	for coin := 1; coin <= len(classes); coin++ {
		class := classes[coin]
		if left[2*class] > 0 {
			left[2*class]--
			w.Left = append(w.Left, coin)
		} else if left[2*class+1] > 0 {
			left[2*class+1]--
			w.Right = append(w.Right, coin)
		}
	}
	return w
}

// P3: each case of real coins is found with the fewest weighings, and in some case all of them are needed.
func TestP3CasesFound(t *testing.T) {
	for i, s := range allStates(13) {
		fewest := impl.FewestFor(s)
		if fewest < 1 || s.Both+s.Heavy+s.Light+s.Good > 8 && i%7 != 0 && s.Both < 9 {
			continue
		}
		most := 0
		for _, bad := range trayOf(s, impl.Pick{}).cases {
			found, weighings := findBad(s, fewest, bad)
			if found != bad || weighings < 1 || weighings > fewest {
				t.Fatalf("%+v: the case %d of real coins is taken for %d after %d of %d weighings", s, bad, found, weighings, fewest)
			}
			most = max(most, weighings)
		}
		if most != fewest {
			t.Fatalf("%+v: FewestFor is %d, but %d weighings are enough", s, fewest, most)
		}
	}
}

// P3: no state needs fewer weighings than its cases demand.
func TestP3CasesDemand(t *testing.T) {
	for _, s := range allStates(13) {
		cases := impl.CountCases(s)
		if fewest := impl.FewestFor(s); fewest >= 0 && threeTo(fewest) < cases {
			t.Fatalf("FewestFor(%+v) = %d for %d cases", s, fewest, cases)
		}
		for k := range 4 {
			if impl.CanFind(s, k) && threeTo(k) < cases {
				t.Fatalf("CanFind(%+v, %d) is true for %d cases", s, k, cases)
			}
			if k > 0 && impl.CanFind(s, k-1) && !impl.CanFind(s, k) {
				t.Fatalf("CanFind(%+v, %d) is false, but one weighing fewer is enough", s, k)
			}
		}
	}
}

// P3: a good coin more never harms, and for some states it is needed.
func TestP3GoodCoin(t *testing.T) {
	helped := 0
	for _, s := range allStates(12) {
		more := s
		more.Good++
		for k := range 4 {
			if impl.CanFind(s, k) && !impl.CanFind(more, k) {
				t.Fatalf("CanFind(%+v, %d) is true, with a good coin more it is false", s, k)
			}
			if !impl.CanFind(s, k) && impl.CanFind(more, k) {
				helped++
			}
		}
	}
	if helped == 0 {
		t.Error("a good coin never helps")
	}
	named := []struct {
		s             impl.State
		without, with int
	}{
		{impl.State{Both: 1}, -1, 1},
		{impl.State{Both: 2}, -1, 2},
		{impl.State{Both: 4}, 3, 2},
		{impl.State{Both: 3}, 2, 2},
		{impl.State{Heavy: 1, Light: 1}, -1, 1},
		{impl.State{Heavy: 2}, 1, 1},
		{impl.State{Heavy: 1}, 0, 0},
		{impl.State{Both: 12}, 3, 3},
	}
	for _, n := range named {
		more := n.s
		more.Good++
		if without, with := impl.FewestFor(n.s), impl.FewestFor(more); without != n.without || with != n.with {
			t.Errorf("FewestFor(%+v) = %d, want %d, and with a good coin %d, want %d", n.s, without, n.without, with, n.with)
		}
	}
}

// P3: one of some unknown coins that is heavy or light is found with k weighings exactly for the stated numbers of coins.
func TestP3UnknownCoins(t *testing.T) {
	for n := 1; n <= 13; n++ {
		for good := 0; n+good <= 13; good++ {
			s := impl.State{Both: n, Good: good}
			want := -1
			for k := 3; k >= 1; k-- {
				if good > 0 && n <= (threeTo(k)-1)/2 || n > 2 && n <= (threeTo(k)-3)/2 {
					want = k
				}
				first, ok := impl.FirstPick(s, k)
				found := impl.CanFind(s, k)
				if found != (want == k) || ok != found {
					t.Errorf("%+v: CanFind with %d is %v, FirstPick %+v, %v; the fewest are %d", s, k, found, first, ok, want)
				}
			}
			if got := impl.FewestFor(s); got != want {
				t.Errorf("FewestFor(%+v) = %d, want %d", s, got, want)
			}
		}
	}
	named := []struct{ k, without, with int }{{0, 0, 0}, {1, 0, 1}, {2, 3, 4}, {3, 12, 12}}
	for _, n := range named {
		if without, with := mostBoth(n.k, 0), mostBoth(n.k, 1); without != n.without || with != n.with {
			t.Errorf("with %d weighings, one of %d unknown coins is found, want %d, and with a good coin one of %d, want %d", n.k, without, n.without, with, n.with)
		}
	}
}

// mostBoth is the greatest number of unknown coins beside so many good ones for which k weighings are enough.
func mostBoth(k, good int) int {
	most := 0
	for n := 1; n+good <= 13; n++ {
		if impl.CanFind(impl.State{Both: n, Good: good}, k) {
			most = n
		}
	}
	return most
}

// P3: of coins that may only be heavy, or only be light, as many as the cases ask for.
func TestP3HeavyCoins(t *testing.T) {
	fewest := []int{0, 0, 1, 1, 2, 2, 2, 2, 2, 2, 3, 3, 3, 3}
	for n, want := range fewest {
		for good := 0; n+good <= 13; good++ {
			if n+good == 0 {
				continue
			}
			for _, s := range []impl.State{{Heavy: n, Good: good}, {Light: n, Good: good}} {
				if got := impl.FewestFor(s); got != want {
					t.Errorf("FewestFor(%+v) = %d, want %d", s, got, want)
				}
			}
		}
	}
}

// P3: heavy and light coins can change places.
func TestP3HeavyAndLight(t *testing.T) {
	for _, s := range allStates(13) {
		turned := impl.State{Both: s.Both, Heavy: s.Light, Light: s.Heavy, Good: s.Good}
		if one, other := impl.FewestFor(s), impl.FewestFor(turned); one != other {
			t.Fatalf("FewestFor(%+v) = %d, with the classes exchanged %d", s, one, other)
		}
	}
}

func TestP9StateOkNamed(t *testing.T) {
	for _, s := range []impl.State{{Both: 1}, {Heavy: 1}, {Light: 1}, {Good: 1}, {Both: 13}, {Heavy: 13}, {Light: 13}, {Good: 13},
		{Both: 12, Good: 1}, {Good: 12, Both: 1}, {Both: 4, Heavy: 3, Light: 3, Good: 3}, {Both: 1, Heavy: 1, Light: 1, Good: 1}, {Heavy: 6, Light: 7}} {
		if !impl.StateOk(s) {
			t.Errorf("StateOk(%+v) is false", s)
		}
	}
	for _, s := range wrongStates() {
		if impl.StateOk(s) {
			t.Errorf("StateOk(%+v) is true", s)
		}
	}
}

// P9: all combinations of numbers near the limits and far from them.
func TestP9StateOk(t *testing.T) {
	numbers := []int{math.MinInt, math.MinInt + 5, -1 << 62, -14, -1, 0, 1, 2, 5, 6, 7, 11, 12, 13, 14, 15, 1<<32 + 1, 1 << 62, 1<<62 + 3, math.MaxInt - 1, math.MaxInt}
	valid := 0
	for _, both := range numbers {
		for _, heavy := range numbers {
			for _, light := range numbers {
				for _, good := range numbers {
					s := stateFrom([4]int{both, heavy, light, good})
					want := wantStateOk(s)
					if want {
						valid++
					}
					if got := impl.StateOk(s); got != want {
						t.Fatalf("StateOk(%+v) = %v", s, got)
					}
					if cases := impl.CountCases(s); want && cases != wantCount(s) || !want && cases != -1 {
						t.Fatalf("CountCases(%+v) = %d, valid %v", s, cases, want)
					}
				}
			}
		}
	}
	if valid < 100 {
		t.Errorf("only %d of the states are valid", valid)
	}
}

func TestP9CountCases(t *testing.T) {
	named := []struct {
		s    impl.State
		want int
	}{
		{impl.State{Both: 1}, 2},
		{impl.State{Heavy: 1}, 1},
		{impl.State{Light: 1}, 1},
		{impl.State{Good: 1}, 0},
		{impl.State{Good: 13}, 0},
		{impl.State{Both: 13}, 26},
		{impl.State{Heavy: 13}, 13},
		{impl.State{Light: 13}, 13},
		{impl.State{Both: 2, Heavy: 3, Light: 4, Good: 4}, 11},
		{impl.State{Both: 3, Heavy: 1, Light: 2}, 9},
		{impl.State{Both: 12, Good: 1}, 24},
		{impl.State{}, -1},
		{impl.State{Both: 14}, -1},
		{impl.State{Good: 14}, -1},
		{impl.State{Both: 3, Good: -1}, -1},
		{impl.State{Both: -1, Heavy: 3}, -1},
	}
	for _, n := range named {
		if got := impl.CountCases(n.s); got != n.want {
			t.Errorf("CountCases(%+v) = %d, want %d", n.s, got, n.want)
		}
	}
	for _, s := range allStates(13) {
		if got := impl.CountCases(s); got != wantCount(s) || !impl.StateOk(s) {
			t.Errorf("CountCases(%+v) = %d, StateOk %v", s, got, impl.StateOk(s))
		}
	}
	for _, s := range wrongStates() {
		if got := impl.CountCases(s); got != -1 {
			t.Errorf("CountCases(%+v) = %d", s, got)
		}
	}
}

// wrongPick is a pick that is not valid for its state.
type wrongPick struct {
	label string
	s     impl.State
	p     impl.Pick
}

// wrongPicks returns the named ones, and picks of a mixed state with one or two fields made wrong.
func wrongPicks() []wrongPick {
	const top, low, half = math.MaxInt, math.MinInt, 1 << 62
	mixed := impl.State{Both: 3, Heavy: 3, Light: 3, Good: 4}
	list := []wrongPick{
		{"no coin", mixed, impl.Pick{}},
		{"no coin of one", impl.State{Both: 1}, impl.Pick{}},
		{"no coin of good ones", impl.State{Good: 2}, impl.Pick{}},
		{"left only", mixed, impl.Pick{BothLeft: 1}},
		{"right only", mixed, impl.Pick{BothRight: 1}},
		{"left only, heavy", mixed, impl.Pick{HeavyLeft: 1}},
		{"right only, heavy", mixed, impl.Pick{HeavyRight: 1}},
		{"left only, light", mixed, impl.Pick{LightLeft: 1}},
		{"right only, light", mixed, impl.Pick{LightRight: 1}},
		{"left only, good", mixed, impl.Pick{GoodLeft: 1}},
		{"right only, good", mixed, impl.Pick{GoodRight: 1}},
		{"two against one", mixed, impl.Pick{BothLeft: 2, BothRight: 1}},
		{"one against two", mixed, impl.Pick{HeavyLeft: 1, LightRight: 2}},
		{"three against two of each", mixed, impl.Pick{BothLeft: 1, HeavyLeft: 1, LightLeft: 1, BothRight: 1, GoodRight: 1}},
		{"too many of both", mixed, impl.Pick{BothLeft: 2, BothRight: 2}},
		{"too many heavy", mixed, impl.Pick{HeavyLeft: 2, HeavyRight: 2}},
		{"too many light", mixed, impl.Pick{LightLeft: 2, LightRight: 2}},
		{"too many good", mixed, impl.Pick{GoodLeft: 3, GoodRight: 3}},
		{"too many of both on the left", mixed, impl.Pick{BothLeft: 4, GoodRight: 4}},
		{"too many heavy on the right", mixed, impl.Pick{HeavyRight: 4, GoodLeft: 4}},
		{"too many light on the left", mixed, impl.Pick{LightLeft: 4, GoodRight: 4}},
		{"too many good on the right", mixed, impl.Pick{GoodRight: 5, BothLeft: 3, HeavyLeft: 2}},
		{"enough coins of another class", impl.State{Both: 5, Heavy: 1}, impl.Pick{HeavyLeft: 1, HeavyRight: 1}},
		{"one coin on both sides", impl.State{Both: 1}, impl.Pick{BothLeft: 1, BothRight: 1}},
		{"a good coin that is not there", impl.State{Both: 1}, impl.Pick{BothLeft: 1, GoodRight: 1}},
		{"negative beside enough", mixed, impl.Pick{BothLeft: -1, BothRight: 1, HeavyLeft: 2}},
		{"negative on both sides", mixed, impl.Pick{BothLeft: -1, BothRight: -1, HeavyLeft: 2, HeavyRight: 2}},
		{"negative alone", mixed, impl.Pick{BothLeft: -1, BothRight: -1}},
		{"negative and too many", mixed, impl.Pick{BothLeft: 4, BothRight: -1, GoodRight: 4, HeavyRight: 1}},
		{"negative, more than there are", mixed, impl.Pick{HeavyLeft: -2, HeavyRight: 5, BothLeft: 3, GoodLeft: 4}},
		{"greatest on both sides", mixed, impl.Pick{BothLeft: top, BothRight: top}},
		{"greatest heavy on both sides", mixed, impl.Pick{HeavyLeft: top, HeavyRight: top}},
		{"greatest light on both sides", mixed, impl.Pick{LightLeft: top, LightRight: top}},
		{"greatest good on both sides", mixed, impl.Pick{GoodLeft: top, GoodRight: top}},
		{"greatest on both sides beside valid ones", mixed, impl.Pick{BothLeft: top, BothRight: top, HeavyLeft: 1, HeavyRight: 1}},
		{"greatest on both sides beside two pairs", mixed, impl.Pick{BothLeft: top, BothRight: top, HeavyLeft: 1, HeavyRight: 1, LightLeft: 1, LightRight: 1}},
		{"greatest everywhere", mixed, pickFrom([8]int{top, top, top, top, top, top, top, top})},
		{"greatest on the left", mixed, impl.Pick{BothLeft: top, HeavyLeft: top, LightLeft: 3, HeavyRight: 1}},
		{"greatest and least", mixed, impl.Pick{BothLeft: top, HeavyLeft: low, LightLeft: 2, GoodRight: 1}},
		{"greatest and least of one class", mixed, impl.Pick{BothLeft: top, BothRight: low, HeavyLeft: low, HeavyRight: top}},
		{"least on both sides", mixed, impl.Pick{BothLeft: low, BothRight: low, HeavyLeft: 1, HeavyRight: 1}},
		{"least everywhere", mixed, pickFrom([8]int{low, low, low, low, low, low, low, low})},
		{"halves that come to nothing", mixed, pickFrom([8]int{half, half, half, half, half, half, half + 1, half + 1})},
		{"halves of one class", mixed, impl.Pick{BothLeft: half, BothRight: half, HeavyLeft: 1, HeavyRight: 1}},
		{"rest of 32 bits", mixed, impl.Pick{BothLeft: 1<<32 + 1, BothRight: 1<<32 + 1}},
		{"rest of 8 bits", mixed, impl.Pick{BothLeft: 257, BothRight: 257}},
	}
	for _, valid := range [][8]int{{1, 1, 1, 1, 1, 1, 1, 1}, {1, 1, 0, 0, 0, 0, 0, 0}, {0, 0, 1, 1, 0, 0, 0, 0}, {0, 0, 0, 0, 1, 1, 0, 0}, {0, 0, 0, 0, 0, 0, 2, 2}, {1, 0, 0, 1, 0, 0, 0, 0}} {
		for i := range valid {
			for _, n := range []int{-1, -2, low, low + 1, 4, 5, 14, top, top - 1, half, -half} {
				one, two := valid, valid
				one[i] = n
				two[i], two[i^1] = n, n
				list = append(list, wrongPick{"one field", mixed, pickFrom(one)}, wrongPick{"two fields", mixed, pickFrom(two)})
			}
		}
	}
	for _, s := range wrongStates() {
		list = append(list, wrongPick{"wrong state", s, impl.Pick{}}, wrongPick{"wrong state", s, impl.Pick{BothLeft: 1, BothRight: 1}},
			wrongPick{"wrong state", s, impl.Pick{HeavyLeft: 1, HeavyRight: 1}}, wrongPick{"wrong state", s, impl.Pick{LightLeft: 1, LightRight: 1}},
			wrongPick{"wrong state", s, impl.Pick{GoodLeft: 1, GoodRight: 1}}, wrongPick{"wrong state", s, impl.Pick{BothLeft: 1, GoodRight: 1}})
	}
	return list
}

func TestP9PickOkNamed(t *testing.T) {
	mixed := impl.State{Both: 3, Heavy: 3, Light: 3, Good: 4}
	for _, p := range []impl.Pick{{BothLeft: 1, BothRight: 1}, {BothLeft: 1, BothRight: 2, HeavyLeft: 1}, {HeavyLeft: 1, HeavyRight: 1}, {LightLeft: 1, LightRight: 1},
		{GoodLeft: 1, GoodRight: 1}, {GoodLeft: 2, GoodRight: 2}, {BothLeft: 3, LightRight: 3}, {BothRight: 3, HeavyLeft: 3}, {BothLeft: 1, GoodRight: 1},
		{HeavyRight: 3, LightRight: 1, GoodLeft: 4}, {LightLeft: 3, HeavyLeft: 1, GoodRight: 4}, {BothLeft: 2, BothRight: 1, HeavyLeft: 1, HeavyRight: 2},
		pickFrom([8]int{1, 1, 1, 1, 1, 1, 1, 1}), pickFrom([8]int{2, 1, 1, 2, 2, 1, 1, 2}), pickFrom([8]int{3, 0, 0, 3, 3, 0, 0, 3})} {
		if !impl.PickOk(mixed, p) {
			t.Errorf("PickOk(%+v, %+v) is false", mixed, p)
		}
	}
	ones := []struct {
		s impl.State
		p impl.Pick
	}{
		{impl.State{Both: 13}, impl.Pick{BothLeft: 6, BothRight: 6}},
		{impl.State{Good: 13}, impl.Pick{GoodLeft: 6, GoodRight: 6}},
		{impl.State{Good: 2}, impl.Pick{GoodLeft: 1, GoodRight: 1}},
		{impl.State{Both: 1, Good: 1}, impl.Pick{BothLeft: 1, GoodRight: 1}},
		{impl.State{Heavy: 1, Light: 1}, impl.Pick{HeavyLeft: 1, LightRight: 1}},
	}
	for _, n := range ones {
		if !impl.PickOk(n.s, n.p) {
			t.Errorf("PickOk(%+v, %+v) is false", n.s, n.p)
		}
	}
	for _, n := range wrongPicks() {
		if impl.PickOk(n.s, n.p) {
			t.Errorf("%s: PickOk(%+v, %+v) is true", n.label, n.s, n.p)
		}
	}
}

// P9: all picks with numbers from -1 to 2 for some states.
func TestP9PickOk(t *testing.T) {
	for _, s := range []impl.State{{Both: 2, Heavy: 1, Light: 1, Good: 1}, {Both: 1, Heavy: 2, Light: 2, Good: 2}, {Both: 4, Heavy: 3, Light: 2, Good: 4}, {Both: 2}, {Heavy: 2, Light: 1}, {Good: 3}, {}, {Both: 8, Good: 6}} {
		valid := 0
		for code := range 1 << 16 {
			var f [8]int
			for i := range f {
				f[i] = code>>(2*i)&3 - 1
			}
			want := wantPickOk(s, pickFrom(f))
			if want {
				valid++
			}
			if got := impl.PickOk(s, pickFrom(f)); got != want {
				t.Fatalf("PickOk(%+v, %+v) = %v", s, pickFrom(f), got)
			}
		}
		if wantStateOk(s) != (valid > 0) {
			t.Errorf("%+v has %d picks", s, valid)
		}
	}
}

// P9: all valid picks of all states are valid, and not with a coin more on one side.
func TestP9AllPicks(t *testing.T) {
	for s, picks := range allPicks() {
		for _, p := range picks {
			f := pickFields(p)
			f[len(picks)%8]++
			if !impl.PickOk(s, p) || impl.PickOk(s, pickFrom(f)) {
				t.Fatalf("PickOk(%+v, %+v) = %v, PickOk(.., %v) = %v", s, p, impl.PickOk(s, p), f, impl.PickOk(s, pickFrom(f)))
			}
		}
	}
}

func TestP9AfterPickNamed(t *testing.T) {
	mixed := impl.State{Both: 4, Heavy: 4, Light: 3, Good: 2}
	named := []struct {
		s    impl.State
		p    impl.Pick
		want [3]impl.State
	}{
		// Different numbers of every class on both sides.
		{impl.State{Both: 3, Heavy: 3, Light: 3, Good: 4}, pickFrom([8]int{1, 2, 2, 1, 3, 0, 0, 3}),
			[3]impl.State{{Heavy: 3, Light: 4, Good: 6}, {Good: 13}, {Heavy: 3, Light: 2, Good: 8}}},
		{mixed, pickFrom([8]int{2, 1, 1, 2, 1, 1, 1, 1}), [3]impl.State{{Heavy: 3, Light: 3, Good: 7}, {Both: 1, Heavy: 1, Light: 1, Good: 10}, {Heavy: 3, Light: 2, Good: 8}}},
		{mixed, pickFrom([8]int{1, 0, 0, 1, 0, 0, 0, 0}), [3]impl.State{{Heavy: 1, Light: 1, Good: 11}, {Both: 3, Heavy: 3, Light: 3, Good: 4}, {Heavy: 1, Good: 12}}},
		{mixed, pickFrom([8]int{0, 1, 1, 0, 0, 0, 0, 0}), [3]impl.State{{Heavy: 1, Good: 12}, {Both: 3, Heavy: 3, Light: 3, Good: 4}, {Heavy: 1, Light: 1, Good: 11}}},
		{mixed, pickFrom([8]int{0, 0, 3, 1, 0, 2, 0, 0}), [3]impl.State{{Heavy: 1, Good: 12}, {Both: 4, Light: 1, Good: 8}, {Heavy: 3, Light: 2, Good: 8}}},
		{mixed, pickFrom([8]int{0, 0, 0, 0, 2, 1, 0, 1}), [3]impl.State{{Light: 2, Good: 11}, {Both: 4, Heavy: 4, Good: 5}, {Light: 1, Good: 12}}},
		{impl.State{Both: 4, Good: 1}, impl.Pick{BothLeft: 1, BothRight: 1}, [3]impl.State{{Heavy: 1, Light: 1, Good: 3}, {Both: 2, Good: 3}, {Heavy: 1, Light: 1, Good: 3}}},
		{impl.State{Both: 12, Good: 1}, impl.Pick{BothLeft: 5, BothRight: 4, GoodRight: 1}, [3]impl.State{{Heavy: 4, Light: 5, Good: 4}, {Both: 3, Good: 10}, {Heavy: 5, Light: 4, Good: 4}}},
		{impl.State{Both: 13}, impl.Pick{BothLeft: 6, BothRight: 6}, [3]impl.State{{Heavy: 6, Light: 6, Good: 1}, {Both: 1, Good: 12}, {Heavy: 6, Light: 6, Good: 1}}},
		// Outcomes that cannot come.
		{impl.State{Heavy: 2}, impl.Pick{HeavyLeft: 1, HeavyRight: 1}, [3]impl.State{{Heavy: 1, Good: 1}, {Good: 2}, {Heavy: 1, Good: 1}}},
		{impl.State{Light: 2}, impl.Pick{LightLeft: 1, LightRight: 1}, [3]impl.State{{Light: 1, Good: 1}, {Good: 2}, {Light: 1, Good: 1}}},
		{impl.State{Heavy: 3, Good: 2}, impl.Pick{HeavyLeft: 2, GoodRight: 2}, [3]impl.State{{Good: 5}, {Heavy: 1, Good: 4}, {Heavy: 2, Good: 3}}},
		{impl.State{Light: 3, Good: 2}, impl.Pick{LightLeft: 2, GoodRight: 2}, [3]impl.State{{Light: 2, Good: 3}, {Light: 1, Good: 4}, {Good: 5}}},
		{impl.State{Heavy: 1, Light: 1}, impl.Pick{HeavyLeft: 1, LightRight: 1}, [3]impl.State{{Good: 2}, {Good: 2}, {Heavy: 1, Light: 1}}},
		{impl.State{Both: 1, Good: 1}, impl.Pick{BothLeft: 1, GoodRight: 1}, [3]impl.State{{Light: 1, Good: 1}, {Good: 2}, {Heavy: 1, Good: 1}}},
		// Good coins alone.
		{mixed, impl.Pick{GoodLeft: 1, GoodRight: 1}, [3]impl.State{{Good: 13}, mixed, {Good: 13}}},
		{impl.State{Good: 2}, impl.Pick{GoodLeft: 1, GoodRight: 1}, [3]impl.State{{Good: 2}, {Good: 2}, {Good: 2}}},
	}
	for _, n := range named {
		for outcome := -1; outcome <= 1; outcome++ {
			if got, ok := impl.AfterPick(n.s, n.p, outcome); !ok || got != n.want[outcome+1] {
				t.Errorf("AfterPick(%+v, %+v, %d) = %+v, %v, want %+v", n.s, n.p, outcome, got, ok, n.want[outcome+1])
			}
		}
	}
	if got, ok := impl.AfterPick(impl.State{Heavy: 1, Light: 1}, impl.Pick{HeavyLeft: 1, LightRight: 1}, 0); !ok || impl.CountCases(got) != 0 {
		t.Errorf("an outcome that cannot come leaves %+v, %v", got, ok)
	}
}

func TestP9AfterPick(t *testing.T) {
	for s, picks := range allPicks() {
		for _, p := range picks {
			for i, want := range wantNext(s, p) {
				if got, ok := impl.AfterPick(s, p, i-1); !ok || got != want {
					t.Fatalf("AfterPick(%+v, %+v, %d) = %+v, %v, want %+v", s, p, i-1, got, ok, want)
				}
			}
		}
	}
}

func TestP9AfterPickInvalid(t *testing.T) {
	mixed := impl.State{Both: 3, Heavy: 3, Light: 3, Good: 4}
	for _, p := range []impl.Pick{{BothLeft: 1, BothRight: 1}, pickFrom([8]int{1, 2, 2, 1, 3, 0, 0, 3}), {GoodLeft: 1, GoodRight: 1}} {
		for _, outcome := range append(someInts(), 1<<32-1, 255, -255, 256) {
			got, ok := impl.AfterPick(mixed, p, outcome)
			if known := outcome >= -1 && outcome <= 1; ok != known || !known && got != (impl.State{}) {
				t.Errorf("AfterPick(%+v, %+v, %d) = %+v, %v", mixed, p, outcome, got, ok)
			}
		}
	}
	for _, n := range wrongPicks() {
		for _, outcome := range []int{-1, 0, 1, 2, -2, math.MinInt, math.MaxInt} {
			if got, ok := impl.AfterPick(n.s, n.p, outcome); ok || got != (impl.State{}) {
				t.Errorf("%s: AfterPick(%+v, %+v, %d) = %+v, %v", n.label, n.s, n.p, outcome, got, ok)
			}
		}
	}
}

func TestP9CanFindNamed(t *testing.T) {
	named := []struct {
		s    impl.State
		want string // for k from 0 to 3
	}{
		// No case, one case.
		{impl.State{Good: 1}, "++++"},
		{impl.State{Good: 13}, "++++"},
		{impl.State{Heavy: 1}, "++++"},
		{impl.State{Light: 1}, "++++"},
		{impl.State{Heavy: 1, Good: 12}, "++++"},
		{impl.State{Light: 1, Good: 1}, "++++"},
		// As many cases as the weighings have ways to come out, and one more.
		{impl.State{Heavy: 3}, ".+++"},
		{impl.State{Light: 3}, ".+++"},
		{impl.State{Heavy: 2, Light: 1}, ".+++"},
		{impl.State{Heavy: 1, Light: 2}, ".+++"},
		{impl.State{Heavy: 4}, "..++"},
		{impl.State{Heavy: 2, Light: 2}, "..++"},
		{impl.State{Heavy: 9}, "..++"},
		{impl.State{Light: 9, Good: 1}, "..++"},
		{impl.State{Heavy: 4, Light: 5}, "..++"},
		{impl.State{Heavy: 10}, "...+"},
		{impl.State{Heavy: 5, Light: 5}, "...+"},
		{impl.State{Both: 4, Heavy: 1}, "...+"},
		{impl.State{Both: 4, Heavy: 1, Good: 1}, "..++"},
		{impl.State{Both: 4, Light: 2, Good: 1}, "...+"},
		{impl.State{Both: 3, Heavy: 3}, "..++"},
		{impl.State{Both: 3, Heavy: 1, Light: 2}, "..++"},
		{impl.State{Both: 1, Light: 1, Good: 1}, ".+++"},
		{impl.State{Both: 1, Heavy: 1, Good: 1}, ".+++"},
		{impl.State{Both: 1, Heavy: 2}, "..++"},
		{impl.State{Both: 12, Heavy: 1}, "...+"},
		{impl.State{Both: 11, Heavy: 2}, "...+"},
		{impl.State{Heavy: 13}, "...+"},
		{impl.State{Light: 6, Heavy: 7}, "...+"},
		// Unknown coins, with good ones and without.
		{impl.State{Both: 1}, "...."},
		{impl.State{Both: 1, Good: 1}, ".+++"},
		{impl.State{Both: 2}, "...."},
		{impl.State{Both: 2, Good: 1}, "..++"},
		{impl.State{Both: 2, Good: 11}, "..++"},
		{impl.State{Both: 3}, "..++"},
		{impl.State{Both: 4}, "...+"},
		{impl.State{Both: 4, Good: 1}, "..++"},
		{impl.State{Both: 5, Good: 1}, "...+"},
		{impl.State{Both: 5}, "...+"},
		{impl.State{Both: 12}, "...+"},
		{impl.State{Both: 12, Good: 1}, "...+"},
		{impl.State{Both: 13}, "...."},
		// Two coins that are never told apart.
		{impl.State{Heavy: 1, Light: 1}, "...."},
		{impl.State{Both: 1, Heavy: 1}, "...."},
		{impl.State{Both: 1, Light: 1}, "...."},
		{impl.State{Heavy: 1, Light: 1, Good: 1}, ".+++"},
		{impl.State{Heavy: 2}, ".+++"},
		{impl.State{Light: 2}, ".+++"},
	}
	for _, n := range named {
		for k := range 4 {
			if got := impl.CanFind(n.s, k); got != (n.want[k] == '+') {
				t.Errorf("CanFind(%+v, %d) = %v", n.s, k, got)
			}
		}
		for _, k := range farNumbers() {
			if impl.CanFind(n.s, k) {
				t.Errorf("CanFind(%+v, %d) is true", n.s, k)
			}
		}
	}
}

// P9: all states and all numbers of weighings, against a table that is filled from no weighing on.
func TestP9CanFind(t *testing.T) {
	numbers := map[int]int{}
	for _, s := range allStates(13) {
		want, found := wantFewest()[s]
		if !found {
			want = -1
		}
		numbers[want]++
		for k := -2; k <= 6; k++ {
			if got := impl.CanFind(s, k); got != wantCanFind(s, k) {
				t.Fatalf("CanFind(%+v, %d) = %v", s, k, got)
			}
		}
		if got := impl.FewestFor(s); got != want {
			t.Fatalf("FewestFor(%+v) = %d, want %d", s, got, want)
		}
	}
	for want := -1; want <= 3; want++ {
		if numbers[want] == 0 {
			t.Errorf("no state needs %d weighings", want)
		}
	}
}

func TestP9FewestForNamed(t *testing.T) {
	named := []struct {
		s    impl.State
		want int
	}{
		{impl.State{Good: 1}, 0},
		{impl.State{Heavy: 1}, 0},
		{impl.State{Light: 1, Good: 12}, 0},
		{impl.State{Heavy: 2}, 1},
		{impl.State{Heavy: 3}, 1},
		{impl.State{Both: 1, Good: 1}, 1},
		{impl.State{Heavy: 2, Light: 1}, 1},
		{impl.State{Both: 3}, 2},
		{impl.State{Both: 4, Good: 1}, 2},
		{impl.State{Heavy: 9}, 2},
		{impl.State{Both: 4}, 3},
		{impl.State{Both: 12}, 3},
		{impl.State{Heavy: 10}, 3},
		{impl.State{Both: 1}, -1},
		{impl.State{Both: 2}, -1},
		{impl.State{Both: 13}, -1},
		{impl.State{Heavy: 1, Light: 1}, -1},
		{impl.State{}, -1},
	}
	for _, n := range named {
		if got := impl.FewestFor(n.s); got != n.want {
			t.Errorf("FewestFor(%+v) = %d, want %d", n.s, got, n.want)
		}
	}
}

// P9: for a state that is not valid nothing is found, though some of its numbers alone would allow it.
func TestP9ClassesInvalid(t *testing.T) {
	for _, s := range wrongStates() {
		if got := impl.FewestFor(s); got != -1 {
			t.Errorf("FewestFor(%+v) = %d", s, got)
		}
		for _, k := range append(farNumbers(), 0, 1, 2, 3) {
			if impl.CanFind(s, k) {
				t.Errorf("CanFind(%+v, %d) is true", s, k)
			}
			if p, ok := impl.FirstPick(s, k); ok || p != (impl.Pick{}) {
				t.Errorf("FirstPick(%+v, %d) = %+v, %v", s, k, p, ok)
			}
		}
	}
}

func TestP9FirstPickNamed(t *testing.T) {
	none := [8]int{}
	named := []struct {
		s    impl.State
		k    int
		want [8]int // all 0 if there is none
	}{
		{impl.State{Heavy: 3}, 1, [8]int{0, 0, 1, 1, 0, 0, 0, 0}},
		{impl.State{Heavy: 3}, 2, [8]int{0, 0, 1, 1, 0, 0, 0, 0}},
		{impl.State{Light: 3}, 1, [8]int{0, 0, 0, 0, 1, 1, 0, 0}},
		{impl.State{Heavy: 2, Light: 1}, 1, [8]int{0, 0, 1, 1, 0, 0, 0, 0}},
		{impl.State{Heavy: 1, Light: 2}, 1, [8]int{0, 0, 0, 0, 1, 1, 0, 0}},
		{impl.State{Both: 3}, 1, none},
		{impl.State{Both: 3}, 2, [8]int{1, 1, 0, 0, 0, 0, 0, 0}},
		{impl.State{Both: 3}, 3, [8]int{1, 1, 0, 0, 0, 0, 0, 0}},
		{impl.State{Both: 4}, 2, none},
		{impl.State{Both: 4}, 3, [8]int{1, 1, 0, 0, 0, 0, 0, 0}},
		{impl.State{Both: 4, Good: 1}, 2, [8]int{1, 2, 0, 0, 0, 0, 1, 0}},
		{impl.State{Both: 12}, 3, [8]int{4, 4, 0, 0, 0, 0, 0, 0}},
		{impl.State{Both: 13}, 3, none},
		{impl.State{Heavy: 9}, 2, [8]int{0, 0, 3, 3, 0, 0, 0, 0}},
		{impl.State{Heavy: 10}, 2, none},
		// The right side comes later in the order, so it takes the coins as long as good ones make up for them.
		{impl.State{Heavy: 2, Good: 1}, 1, [8]int{0, 0, 0, 1, 0, 0, 1, 0}},
		{impl.State{Light: 2, Good: 1}, 1, [8]int{0, 0, 0, 0, 0, 1, 1, 0}},
		{impl.State{Both: 1, Good: 1}, 1, [8]int{0, 1, 0, 0, 0, 0, 1, 0}},
		{impl.State{Heavy: 1, Light: 1, Good: 1}, 1, [8]int{0, 0, 0, 0, 0, 1, 1, 0}},
		{impl.State{Heavy: 3, Good: 3}, 1, [8]int{0, 0, 1, 1, 0, 0, 0, 0}},
		// At most one case: a coin that is not good is asked for nevertheless.
		{impl.State{Heavy: 1, Good: 1}, 1, [8]int{0, 0, 0, 1, 0, 0, 1, 0}},
		{impl.State{Heavy: 1, Good: 1}, 3, [8]int{0, 0, 0, 1, 0, 0, 1, 0}},
		{impl.State{Heavy: 1, Good: 12}, 2, [8]int{0, 0, 0, 1, 0, 0, 1, 0}},
		{impl.State{Light: 1, Good: 2}, 1, [8]int{0, 0, 0, 0, 0, 1, 1, 0}},
		{impl.State{Heavy: 1}, 1, none},
		{impl.State{Light: 1}, 3, none},
		{impl.State{Good: 1}, 1, none},
		{impl.State{Good: 2}, 1, none},
		{impl.State{Good: 13}, 1, none},
		{impl.State{Good: 13}, 2, none},
		{impl.State{Good: 13}, 3, none},
		// Never found.
		{impl.State{Both: 1}, 1, none},
		{impl.State{Both: 1}, 3, none},
		{impl.State{Both: 2}, 3, none},
		{impl.State{Heavy: 1, Light: 1}, 1, none},
		{impl.State{Heavy: 1, Light: 1}, 3, none},
	}
	for _, n := range named {
		want := pickFrom(n.want)
		if got, ok := impl.FirstPick(n.s, n.k); ok != (n.want != none) || got != want {
			t.Errorf("FirstPick(%+v, %d) = %+v, %v, want %+v", n.s, n.k, got, ok, want)
		}
	}
	for _, s := range []impl.State{{Heavy: 3}, {Both: 3}, {Heavy: 1, Good: 1}, {Both: 12}, {Good: 5}, {Heavy: 1}, {Both: 1, Good: 1}} {
		for _, k := range append(farNumbers(), 0) {
			if p, ok := impl.FirstPick(s, k); ok || p != (impl.Pick{}) {
				t.Errorf("FirstPick(%+v, %d) = %+v, %v", s, k, p, ok)
			}
		}
	}
}

// P9: all states, against all their picks in order.
func TestP9FirstPick(t *testing.T) {
	for _, s := range allStates(13) {
		for k := -1; k <= 5; k++ {
			want, found := wantFirst(s, k)
			if got, ok := impl.FirstPick(s, k); ok != found || got != want {
				t.Fatalf("FirstPick(%+v, %d) = %+v, %v, want %+v, %v", s, k, got, ok, want, found)
			}
		}
	}
}

// P9: the states with the most picks, and those for which all of them fail, are answered as well.
func TestP9ManyPicks(t *testing.T) {
	most := impl.State{Both: 3, Heavy: 3, Light: 3, Good: 4}
	for s, picks := range allPicks() {
		if len(picks) > len(allPicks()[most]) {
			t.Errorf("%+v has more picks than %+v", s, most)
		}
	}
	for _, s := range []impl.State{most, {Both: 4, Heavy: 3, Light: 3, Good: 3}, {Both: 3, Heavy: 4, Light: 3, Good: 3}, {Both: 3, Heavy: 3, Light: 4, Good: 3}, {Both: 4, Heavy: 4, Light: 5}, {Both: 1, Heavy: 5, Light: 6}} {
		for range 20 {
			p, ok := impl.FirstPick(s, 3)
			if !ok || impl.FewestFor(s) != 3 || worstAfter(s, p) != 2 {
				t.Fatalf("FewestFor(%+v) = %d, FirstPick = %+v, %v", s, impl.FewestFor(s), p, ok)
			}
			if p, ok := impl.FirstPick(s, 2); ok || impl.CanFind(s, 2) {
				t.Fatalf("FirstPick(%+v, 2) = %+v, %v", s, p, ok)
			}
		}
	}
}

// P9: a call that is repeated many times, with other calls in between, returns the same.
func TestP9ClassesRepeated(t *testing.T) {
	s, other := impl.State{Both: 4, Good: 1}, impl.State{Both: 4}
	p := impl.Pick{BothLeft: 1, BothRight: 1}
	for range 2000 {
		if !impl.StateOk(s) || impl.StateOk(impl.State{}) || impl.CountCases(s) != 8 || !impl.PickOk(s, p) || impl.PickOk(s, impl.Pick{}) {
			t.Fatal("StateOk, CountCases or PickOk changes")
		}
		if got, ok := impl.AfterPick(s, p, 1); !ok || got != (impl.State{Heavy: 1, Light: 1, Good: 3}) {
			t.Fatalf("AfterPick changes: %+v, %v", got, ok)
		}
		if !impl.CanFind(s, 2) || impl.CanFind(other, 2) || impl.CanFind(s, 1) || !impl.CanFind(other, 3) || impl.CanFind(s, 4) {
			t.Fatal("CanFind changes")
		}
		if impl.FewestFor(s) != 2 || impl.FewestFor(other) != 3 || impl.FewestFor(impl.State{Both: 2}) != -1 || impl.FewestFor(impl.State{Good: 5}) != 0 {
			t.Fatal("FewestFor changes")
		}
		first, ok := impl.FirstPick(s, 2)
		none, found := impl.FirstPick(other, 2)
		if !ok || first != (impl.Pick{BothLeft: 1, BothRight: 2, GoodLeft: 1}) || found || none != (impl.Pick{}) {
			t.Fatalf("FirstPick changes: %+v, %v, %+v, %v", first, ok, none, found)
		}
	}
}

// P9: calls at the same time do not disturb each other.
func TestP9ClassesTogether(t *testing.T) {
	states := allStates(13)
	wrong := make([]int, 8)
	wantFewest()
	var group sync.WaitGroup
	for worker := range wrong {
		group.Go(func() {
			for i := worker; i < len(states); i += 5 {
				s := states[i]
				want, found := wantFewest()[s]
				if got := impl.FewestFor(s); found && got != want || !found && got != -1 {
					wrong[worker]++
				}
			}
		})
	}
	group.Wait()
	if slices.Max(wrong) > 0 {
		t.Errorf("wrong answers: %v", wrong)
	}
}

package tests

import (
	"math"
	"reflect"
	"slices"
	"strings"
	"testing"

	"loop.example/g01040/impl"
)

func design(texts ...string) []impl.Weighing {
	var list []impl.Weighing
	for _, text := range texts {
		list = append(list, parsed(text))
	}
	return list
}

// twoVectors and threeVectors are the designs of the vectors 01, 12, 20 and 001, 010, 011, 012, 112, 120, 121, 122, 200, 201, 202, 220.
func twoVectors() []impl.Weighing { return design("1:3", "3:2") }

func threeVectors() []impl.Weighing {
	return design("1,2,3,4:9,10,11,12", "1,9,10,11:6,7,8,12", "2,6,9,12:4,5,8,11")
}

// sixWeighings are as many as a design may have.
func sixWeighings() []impl.Weighing { return design("1:2", "1:3", "1:4", "2:3", "2:4", "3:4") }

// allDesigns returns all designs of at most most of the weighings of so many coins.
func allDesigns(coins, most int) [][]impl.Weighing {
	weighings := everyWeighing(coins)
	indices := make([]int, len(weighings))
	for i := range indices {
		indices[i] = i
	}
	var list [][]impl.Weighing
	for _, l := range allLists(indices, most) {
		var one []impl.Weighing
		for _, i := range l {
			one = append(one, weighings[i].w)
		}
		list = append(list, one)
	}
	return list
}

// somePicked returns designs of one to seven weighings of so many coins.
func somePicked(coins int) [][]impl.Weighing {
	weighings := everyWeighing(coins)
	next := 1
	var list [][]impl.Weighing
	for length := 1; length <= 7; length++ {
		for range 12 {
			var one []impl.Weighing
			for range length {
				one = append(one, weighings[next%len(weighings)].w)
				next = (next*31 + 17) % 1000003
			}
			list = append(list, one)
		}
	}
	return list
}

// someDesigns returns designs of up to 13 coins, some of them with too many weighings.
func someDesigns() [][]impl.Weighing {
	list := [][]impl.Weighing{nil, {}, twoVectors(), threeVectors(), sixWeighings(), append(sixWeighings(), parsed("1:2")),
		append(threeVectors(), threeVectors()...), append(threeVectors(), parsed("1:2")), append(design("12:13"), threeVectors()...),
		append(threeVectors(), design("1:2", "1:2", "1:2", "1:2")...), design("1,2,3:4,5,6", "1,4,7:2,5,8"),
		slices.Repeat(design("1:2"), 6), slices.Repeat(design("1:2"), 7), design("1:2", "2:1", "1:2"), design("12:13")}
	list = append(list, allDesigns(2, 3)...)
	list = append(list, allDesigns(3, 3)...)
	list = append(list, allDesigns(4, 2)...)
	for _, coins := range []int{4, 5, 6, 8} {
		list = append(list, somePicked(coins)...)
	}
	return list
}

// spoiledDesigns returns valid designs in which one weighing, at any place, was made wrong.
func spoiledDesigns() [][]impl.Weighing {
	var list [][]impl.Weighing
	for _, valid := range [][]impl.Weighing{design("1:2"), twoVectors(), threeVectors(), sixWeighings(), append(twoVectors(), twoVectors()...)} {
		for i := range valid {
			for _, w := range wrongWeighings() {
				wrong := slices.Clone(valid)
				wrong[i] = w
				list = append(list, wrong)
			}
		}
	}
	return list
}

func wantDesignOk(list []impl.Weighing, coins int) bool {
	for _, w := range list {
		if !wantOk(w, coins) {
			return false
		}
	}
	return coins > 0 && coins < 14 && len(list) < 7
}

func wantSigns(list []impl.Weighing, c int) []int {
	var signs []int
	for _, w := range list {
		signs = append(signs, wantOutcome(w, c))
	}
	return signs
}

// wantTellings returns the cases under the text of their signs; none if the problem or the design is not valid.
func wantTellings(p impl.Problem, list []impl.Weighing) map[string][]int {
	tellings := map[string][]int{}
	if !wantDesignOk(list, p.Coins) {
		return tellings
	}
	for _, c := range wantCases(p) {
		text := signText(wantSigns(list, c))
		tellings[text] = append(tellings[text], c)
	}
	return tellings
}

func wantSolves(p impl.Problem, list []impl.Weighing) bool {
	tellings := wantTellings(p, list)
	return len(tellings) > 0 && len(tellings) == len(wantCases(p))
}

// wantSpares returns the indices of all weighings that can be left out.
func wantSpares(p impl.Problem, list []impl.Weighing) []int {
	var spares []int
	if !wantSolves(p, list) {
		return nil
	}
	for i := range list {
		if wantSolves(p, slices.Delete(slices.Clone(list), i, i+1)) {
			spares = append(spares, i)
		}
	}
	return spares
}

// P2: the signs of a case decode to all cases that have them, and to it alone if the design solves the problem.
func TestP2SignsDecode(t *testing.T) {
	solved := 0
	for _, list := range someDesigns() {
		for _, p := range allProblems(1, 3, 4, 13) {
			if !impl.DesignOk(list, p.Coins) {
				continue
			}
			signs := map[int][]int{}
			for _, c := range impl.CasesOf(p) {
				signs[c], _ = impl.SignsOf(list, p.Coins, c)
			}
			solves := impl.DesignSolves(p, list)
			if solves {
				solved++
			}
			for c := range signs {
				var want []int
				for _, other := range impl.CasesOf(p) {
					if slices.Equal(signs[other], signs[c]) {
						want = append(want, other)
					}
				}
				got := impl.DecodeSigns(p, list, signs[c])
				if !slices.Equal(got, want) || !slices.Contains(got, c) || solves && len(got) != 1 {
					t.Fatalf("DecodeSigns(%+v, %v, %v) = %v, want %v; DesignSolves %v", p, list, signs[c], got, want, solves)
				}
			}
		}
	}
	if solved < 100 {
		t.Errorf("only %d of the designs solve a problem", solved)
	}
}

// P2: all lists of signs together decode to each case exactly once.
func TestP2SignsDivide(t *testing.T) {
	for _, list := range someDesigns() {
		if len(list) > 4 {
			continue
		}
		for _, p := range allProblems(3, 12) {
			var told []int
			for _, signs := range allLists([]int{-1, 0, 1}, len(list)) {
				told = append(told, impl.DecodeSigns(p, list, signs)...)
			}
			slices.Sort(told)
			var want []int
			if impl.DesignOk(list, p.Coins) {
				want = impl.CasesOf(p)
			}
			if !slices.Equal(told, want) {
				t.Fatalf("the signs of %v for %+v tell %v, want %v", list, p, told, want)
			}
		}
	}
}

// P2: the number of different signs is the number of cases exactly if the design solves the problem, and at most 3 to the power of the weighings.
func TestP2CountSigns(t *testing.T) {
	for _, list := range append(someDesigns(), spoiledDesigns()...) {
		for _, p := range allProblems(0, 1, 2, 3, 4, 5, 8, 12, 13, 14) {
			count, solves := impl.CountSigns(p, list), impl.DesignSolves(p, list)
			if solves != (count == len(impl.CasesOf(p))) {
				t.Fatalf("CountSigns(%+v, %v) = %d of %d cases, DesignSolves %v", p, list, count, len(impl.CasesOf(p)), solves)
			}
			valid := impl.ProblemOk(p) && impl.DesignOk(list, p.Coins)
			if valid != (count > 0) || !valid && count != -1 {
				t.Fatalf("CountSigns(%+v, %v) = %d, valid %v", p, list, count, valid)
			}
			if ways := int(math.Pow(3, float64(len(list)))); valid && count > ways {
				t.Fatalf("CountSigns(%+v, %v) = %d of %d ways", p, list, count, ways)
			}
		}
	}
}

// P2: the designs of two and of three weighings tell which of 3 or 12 coins is heavy or light, or that none is, and need all weighings.
func TestP2VectorDesign(t *testing.T) {
	for k, coins := range map[int]int{2: 3, 3: 12} {
		list, n, ok := impl.VectorDesign(k)
		if !ok || n != coins || len(list) != k || !impl.DesignOk(list, n) || impl.DesignOk(list, n-1) {
			t.Fatalf("VectorDesign(%d) = %v, %d, %v", k, list, n, ok)
		}
		for _, p := range allProblems(n) {
			if got := impl.DesignSolves(p, list); got != impl.ProblemOk(p) {
				t.Errorf("DesignSolves(%+v, %v) = %v", p, list, got)
			}
		}
		p := problem(n, "+-0")
		if count := impl.CountSigns(p, list); count != 2*n+1 {
			t.Errorf("VectorDesign(%d) has %d different signs", k, count)
		}
		for c := -n; c <= n; c++ {
			signs, ok := impl.SignsOf(list, n, c)
			if got := impl.DecodeSigns(p, list, signs); !ok || !slices.Equal(got, []int{c}) {
				t.Errorf("VectorDesign(%d): the signs %v of %d are those of %v", k, signs, c, got)
			}
		}
		for i := range list {
			less := slices.Delete(slices.Clone(list), i, i+1)
			if impl.DesignSolves(p, less) || impl.CountSigns(p, less) >= 2*n+1 {
				t.Errorf("VectorDesign(%d) solves %+v without the weighing %d", k, p, i)
			}
		}
		if got := impl.SpareWeighing(p, list); got != -1 {
			t.Errorf("VectorDesign(%d): the weighing %d can be left out", k, got)
		}
	}
}

// P2: a design tells as much as the plan that makes its weighings in turn, whatever the outcomes are.
func TestP2DesignAsPlan(t *testing.T) {
	for _, list := range someDesigns() {
		if len(list) > 3 {
			continue
		}
		var texts []string
		for _, w := range list {
			texts = append(texts, impl.FormatWeighing(w))
		}
		plan := levels(texts...)
		for _, p := range allProblems(1, 2, 3, 4, 8, 12, 14) {
			if design, tree := impl.DesignSolves(p, list), impl.SolvesFor(p, plan); design != tree {
				t.Fatalf("%+v: the design %v solves %v, the plan %v", p, list, design, tree)
			}
			for c := -p.Coins; c <= p.Coins; c++ {
				signs, ok := impl.SignsOf(list, p.Coins, c)
				outcomes, followed := impl.FollowPlan(plan, p.Coins, c)
				if ok != followed || !slices.Equal(signs, outcomes) {
					t.Fatalf("the case %d of %d coins: the design %v has %v, the plan %v", c, p.Coins, list, signs, outcomes)
				}
			}
		}
	}
}

// P2: a weighing can be left out if the others still solve the problem, and the least one is named.
func TestP2SpareWeighing(t *testing.T) {
	spared := 0
	for _, list := range someDesigns() {
		for _, p := range allProblems(2, 3, 4, 6) {
			want := -1
			for i := len(list) - 1; i >= 0 && impl.DesignSolves(p, list); i-- {
				if impl.DesignSolves(p, slices.Delete(slices.Clone(list), i, i+1)) {
					want = i
				}
			}
			if got := impl.SpareWeighing(p, list); got != want {
				t.Fatalf("SpareWeighing(%+v, %v) = %d, want %d", p, list, got, want)
			}
			if want > 0 {
				spared++
			}
		}
	}
	if spared < 50 {
		t.Errorf("in only %d of the designs a later weighing is the first that can be left out", spared)
	}
}

func TestP9DesignOkNamed(t *testing.T) {
	if impl.MaxDesign != 6 {
		t.Errorf("MaxDesign = %d", impl.MaxDesign)
	}
	named := []struct {
		list  []impl.Weighing
		coins int
		want  bool
	}{
		{nil, 1, true},
		{nil, 3, true},
		{nil, 13, true},
		{[]impl.Weighing{}, 1, true},
		{[]impl.Weighing{}, 13, true},
		{nil, 0, false},
		{nil, 14, false},
		{nil, -1, false},
		{[]impl.Weighing{}, 0, false},
		{[]impl.Weighing{}, 14, false},
		{[]impl.Weighing{}, -13, false},
		{nil, math.MinInt, false},
		{nil, math.MaxInt, false},
		{nil, 1<<32 + 3, false},
		{nil, 256 + 3, false},
		{design("1:2"), 2, true},
		{design("1:2"), 1, false},
		{design("1:2"), 0, false},
		{design("1:2"), -2, false},
		{design("1:2"), 13, true},
		{design("1:2"), 14, false},
		{design("12:13"), 13, true},
		{design("12:13"), 12, false},
		{design("1:2", "1:2"), 2, true},
		{design("1:2", "2:1"), 2, true},
		{twoVectors(), 3, true},
		{twoVectors(), 2, false},
		{threeVectors(), 12, true},
		{threeVectors(), 11, false},
		{threeVectors(), 13, true},
		{sixWeighings(), 4, true},
		{sixWeighings(), 3, false},
		{sixWeighings(), 13, true},
		{append(sixWeighings(), parsed("1:2")), 4, false},
		{slices.Repeat(design("1:2"), 6), 2, true},
		{slices.Repeat(design("1:2"), 7), 2, false},
		{slices.Repeat(design("1:2"), 5000), 13, false},
		{make([]impl.Weighing, 1), 3, false},
		{make([]impl.Weighing, 7), 3, false},
		{design("1:2", "1:3", "1:4"), 3, false},
		{design("1:2", "1:4", "1:3"), 3, false},
		{design("1:4", "1:2", "1:3"), 3, false},
	}
	for _, n := range named {
		if got := impl.DesignOk(n.list, n.coins); got != n.want {
			t.Errorf("DesignOk(%v, %d) = %v", n.list, n.coins, got)
		}
	}
}

// P9: a design with one weighing that is not valid, at any place, is not valid, and nothing can be told by it.
func TestP9DesignSpoiled(t *testing.T) {
	problems := allProblems(2, 3, 4, 12, 13)
	for _, list := range spoiledDesigns() {
		for coins := -1; coins <= 15; coins++ {
			if impl.DesignOk(list, coins) {
				t.Errorf("DesignOk(%v, %d) = true", list, coins)
			}
			for _, c := range []int{-1, 0, 1} {
				if signs, ok := impl.SignsOf(list, coins, c); ok || len(signs) > 0 {
					t.Errorf("SignsOf(%v, %d, %d) = %v, %v", list, coins, c, signs, ok)
				}
			}
		}
		for _, p := range problems {
			signs := make([]int, len(list))
			if impl.DesignSolves(p, list) || len(impl.DecodeSigns(p, list, signs)) > 0 || impl.CountSigns(p, list) != -1 || impl.SpareWeighing(p, list) != -1 {
				t.Errorf("%v tells something for %+v", list, p)
			}
		}
	}
}

func TestP9DesignOk(t *testing.T) {
	for _, list := range someDesigns() {
		for _, coins := range someCoins() {
			if got := impl.DesignOk(list, coins); got != wantDesignOk(list, coins) {
				t.Errorf("DesignOk(%v, %d) = %v", list, coins, got)
			}
		}
	}
}

func TestP9SignsOfNamed(t *testing.T) {
	named := []struct {
		list  []impl.Weighing
		coins int
		c     int
		want  []int
		ok    bool
	}{
		{twoVectors(), 3, -3, []int{1, -1}, true},
		{twoVectors(), 3, -2, []int{0, 1}, true},
		{twoVectors(), 3, -1, []int{-1, 0}, true},
		{twoVectors(), 3, 0, []int{0, 0}, true},
		{twoVectors(), 3, 1, []int{1, 0}, true},
		{twoVectors(), 3, 2, []int{0, -1}, true},
		{twoVectors(), 3, 3, []int{-1, 1}, true},
		{twoVectors(), 3, 4, nil, false},
		{twoVectors(), 3, -4, nil, false},
		{twoVectors(), 3, math.MinInt, nil, false},
		{twoVectors(), 3, math.MaxInt, nil, false},
		{twoVectors(), 3, math.MinInt + 1, nil, false},
		{twoVectors(), 3, 1 << 32, nil, false},
		{twoVectors(), 3, 256 + 1, nil, false},
		{twoVectors(), 4, 4, []int{0, 0}, true},
		{twoVectors(), 4, -4, []int{0, 0}, true},
		{twoVectors(), 4, 5, nil, false},
		{twoVectors(), 4, -5, nil, false},
		{twoVectors(), 13, 13, []int{0, 0}, true},
		{twoVectors(), 13, -13, []int{0, 0}, true},
		{twoVectors(), 13, 14, nil, false},
		{twoVectors(), 13, -14, nil, false},
		{twoVectors(), 2, 1, nil, false},
		{twoVectors(), 0, 0, nil, false},
		{twoVectors(), 14, 1, nil, false},
		{twoVectors(), -3, 0, nil, false},
		{twoVectors(), -3, 1, nil, false},
		{twoVectors(), math.MinInt, 0, nil, false},
		{twoVectors(), math.MinInt, math.MinInt, nil, false},
		{twoVectors(), math.MaxInt, 0, nil, false},
		{design("1:2"), 2, 2, []int{-1}, true},
		{design("1:2"), 2, -2, []int{1}, true},
		{design("1:2"), 2, 0, []int{0}, true},
		{design("1:2"), 2, 3, nil, false},
		{nil, 1, 1, nil, true},
		{nil, 1, 0, nil, true},
		{nil, 1, -1, nil, true},
		{nil, 1, 2, nil, false},
		{nil, 1, -2, nil, false},
		{[]impl.Weighing{}, 13, -13, nil, true},
		{[]impl.Weighing{}, 13, 14, nil, false},
		{nil, 0, 0, nil, false},
		{nil, 14, 0, nil, false},
		{nil, -1, 0, nil, false},
		{nil, 3, math.MinInt, nil, false},
		{nil, 3, math.MaxInt, nil, false},
		{sixWeighings(), 4, 2, []int{-1, 0, 0, 1, 1, 0}, true},
		{sixWeighings(), 4, -4, []int{0, 0, 1, 0, 1, 1}, true},
		{append(sixWeighings(), parsed("1:2")), 4, 2, nil, false},
		{design("1:2", "1:2", "2:1"), 2, 1, []int{1, 1, -1}, true},
		{threeVectors(), 12, 4, []int{1, 0, -1}, true},
		{threeVectors(), 12, -8, []int{0, 1, 1}, true},
		{threeVectors(), 13, 13, []int{0, 0, 0}, true},
		{threeVectors(), 12, 13, nil, false},
		{threeVectors(), 12, -13, nil, false},
		{threeVectors(), 11, 1, nil, false},
		{make([]impl.Weighing, 1), 3, 0, nil, false},
	}
	for _, n := range named {
		if got, ok := impl.SignsOf(n.list, n.coins, n.c); !slices.Equal(got, n.want) || ok != n.ok {
			t.Errorf("SignsOf(%v, %d, %d) = %v, %v, want %v, %v", n.list, n.coins, n.c, got, ok, n.want, n.ok)
		}
	}
}

func TestP9SignsOf(t *testing.T) {
	cases := someCases()
	for _, list := range someDesigns() {
		for _, coins := range []int{math.MinInt, -3, 0, 1, 2, 3, 4, 8, 12, 13, 14, math.MaxInt} {
			valid := wantDesignOk(list, coins)
			for _, c := range cases {
				var want []int
				wantOk := valid && c >= -coins && c <= coins
				if wantOk {
					want = wantSigns(list, c)
				}
				if got, ok := impl.SignsOf(list, coins, c); !slices.Equal(got, want) || ok != wantOk {
					t.Fatalf("SignsOf(%v, %d, %d) = %v, %v, want %v, %v", list, coins, c, got, ok, want, wantOk)
				}
			}
		}
	}
}

// P9: what named designs tell for named problems: the number of different signs, if it is that of the cases, and what can be left out.
func TestP9DesignTellsNamed(t *testing.T) {
	spareAt := func(i int) []impl.Weighing { return slices.Insert(threeVectors(), i, parsed("1:2")) }
	named := []struct {
		label  string
		p      impl.Problem
		list   []impl.Weighing
		count  int
		solves bool
		spare  int
	}{
		{"two vectors", problem(3, "+-0"), twoVectors(), 7, true, -1},
		{"two vectors, a bad coin", problem(3, "+-"), twoVectors(), 6, true, -1},
		{"two vectors, a heavy coin", problem(3, "+"), twoVectors(), 3, true, 0},
		{"two vectors, a heavy coin or none", problem(3, "+0"), twoVectors(), 4, true, -1},
		{"two vectors, four heavy coins", problem(4, "+"), twoVectors(), 4, true, -1},
		{"two vectors, four heavy coins or none", problem(4, "+0"), twoVectors(), 4, false, -1},
		{"two vectors, four coins", problem(4, "+-"), twoVectors(), 7, false, -1},
		{"two vectors, thirteen coins", problem(13, "-"), twoVectors(), 4, false, -1},
		{"two vectors, two coins", problem(2, "+-0"), twoVectors(), -1, false, -1},
		{"three vectors", problem(12, "+-0"), threeVectors(), 25, true, -1},
		{"three vectors, a light coin", problem(12, "-"), threeVectors(), 12, true, -1},
		{"three vectors, thirteen light coins", problem(13, "-"), threeVectors(), 13, true, -1},
		{"three vectors, thirteen coins", problem(13, "+-"), threeVectors(), 25, false, -1},
		{"three vectors, thirteen heavy coins or none", problem(13, "+0"), threeVectors(), 13, false, -1},
		{"three vectors, eleven coins", problem(11, "-"), threeVectors(), -1, false, -1},
		{"a spare at the first place", problem(12, "+-0"), spareAt(0), 25, true, 0},
		{"a spare at the second place", problem(12, "+-0"), spareAt(1), 25, true, 1},
		{"a spare at the third place", problem(12, "+-0"), spareAt(2), 25, true, 2},
		{"a spare at the last place", problem(12, "+-0"), spareAt(3), 25, true, 3},
		{"two spares", problem(12, "+-0"), append(spareAt(1), parsed("3:4")), 25, true, 1},
		{"three spares, six weighings", problem(12, "+-0"), append(spareAt(3), design("1:2", "2:1")...), 25, true, 3},
		{"four spares, seven weighings", problem(12, "+-0"), append(spareAt(3), design("1:2", "2:1", "3:4")...), -1, false, -1},
		{"each weighing twice", problem(12, "+-0"), append(threeVectors(), threeVectors()...), 25, true, 0},
		{"the last weighing twice", problem(3, "+-0"), design("1:2", "1:3", "1:3"), 7, true, 1},
		{"the last weighing twice, twelve coins", problem(12, "+-0"), append(threeVectors(), threeVectors()[2]), 25, true, 2},
		{"the same weighing turned", problem(12, "+-0"), append(threeVectors(), impl.TurnWeighing(threeVectors()[1])), 25, true, 1},
		{"one weighing", problem(2, "+"), design("1:2"), 2, true, -1},
		{"one weighing, or none", problem(2, "-0"), design("1:2"), 3, true, -1},
		{"one weighing, a bad coin", problem(2, "+-"), design("1:2"), 2, false, -1},
		{"one weighing, three heavy coins", problem(3, "+"), design("1:2"), 3, true, -1},
		{"one weighing, three heavy coins or none", problem(3, "+0"), design("1:2"), 3, false, -1},
		{"one weighing, thirteen coins", problem(13, "+-0"), design("12:13"), 3, false, -1},
		{"the same weighing twice", problem(2, "+"), design("1:2", "1:2"), 2, true, 0},
		{"the same weighing twice, a bad coin", problem(2, "+-"), design("1:2", "1:2"), 2, false, -1},
		{"the same weighing six times", problem(2, "-"), slices.Repeat(design("2:1"), 6), 2, true, 0},
		{"the same weighing seven times", problem(2, "-"), slices.Repeat(design("2:1"), 7), -1, false, -1},
		{"six weighings", problem(4, "+-0"), sixWeighings(), 9, true, 0},
		{"empty, a heavy coin", problem(1, "+"), nil, 1, true, -1},
		{"empty, a light coin", problem(1, "-"), []impl.Weighing{}, 1, true, -1},
		{"empty, one coin", problem(1, "+-"), nil, 1, false, -1},
		{"empty, one heavy coin or none", problem(1, "+0"), []impl.Weighing{}, 1, false, -1},
		{"empty, two coins", problem(2, "+"), nil, 1, false, -1},
		{"empty, thirteen coins", problem(13, "+-0"), []impl.Weighing{}, 1, false, -1},
		{"no kind", problem(3, ""), twoVectors(), -1, false, -1},
		{"no bad coin", problem(3, "0"), twoVectors(), -1, false, -1},
		{"no bad coin, empty", problem(1, "0"), nil, -1, false, -1},
		{"no coins", problem(0, "+-0"), nil, -1, false, -1},
		{"no coins, two vectors", problem(0, "+-0"), twoVectors(), -1, false, -1},
		{"too many coins", problem(14, "+"), nil, -1, false, -1},
		{"too many coins, three vectors", problem(14, "+-0"), threeVectors(), -1, false, -1},
		{"coins below 0", problem(-1, "+"), nil, -1, false, -1},
		{"coins below 0, two vectors", problem(-3, "+-0"), twoVectors(), -1, false, -1},
		{"least coins", problem(math.MinInt, "+-0"), nil, -1, false, -1},
		{"greatest coins", problem(math.MaxInt, "+-0"), threeVectors(), -1, false, -1},
		{"the zero value", impl.Problem{}, nil, -1, false, -1},
		{"neither is valid", problem(0, "+"), make([]impl.Weighing, 1), -1, false, -1},
		{"one coin, a weighing", problem(1, "+"), design("1:2"), -1, false, -1},
		// What remains without the weighing that is not valid would solve the problem.
		{"wrong first", problem(3, "+-0"), append(make([]impl.Weighing, 1), twoVectors()...), -1, false, -1},
		{"wrong last", problem(3, "+-0"), append(twoVectors(), parsed("1:4")), -1, false, -1},
		{"wrong between", problem(3, "+-0"), slices.Insert(twoVectors(), 1, weigh([]int{1}, []int{1})), -1, false, -1},
	}
	for _, n := range named {
		if got := impl.CountSigns(n.p, n.list); got != n.count {
			t.Errorf("%s: CountSigns = %d, want %d", n.label, got, n.count)
		}
		if got := impl.DesignSolves(n.p, n.list); got != n.solves {
			t.Errorf("%s: DesignSolves = %v, want %v", n.label, got, n.solves)
		}
		if got := impl.SpareWeighing(n.p, n.list); got != n.spare {
			t.Errorf("%s: SpareWeighing = %d, want %d", n.label, got, n.spare)
		}
	}
}

func TestP9DesignTells(t *testing.T) {
	spares := map[int]int{}
	for _, list := range someDesigns() {
		for _, p := range allProblems(-1, 0, 1, 2, 3, 4, 5, 8, 12, 13, 14) {
			solves := wantSolves(p, list)
			if got := impl.DesignSolves(p, list); got != solves {
				t.Fatalf("DesignSolves(%+v, %v) = %v", p, list, got)
			}
			count := len(wantTellings(p, list))
			if count == 0 {
				count = -1
			}
			if got := impl.CountSigns(p, list); got != count {
				t.Fatalf("CountSigns(%+v, %v) = %d, want %d", p, list, got, count)
			}
			spare := -1
			all := wantSpares(p, list)
			if len(all) > 0 {
				spare = all[0]
			}
			if solves {
				spares[min(len(all), 2)]++
			}
			if got := impl.SpareWeighing(p, list); got != spare {
				t.Fatalf("SpareWeighing(%+v, %v) = %d, want %d", p, list, got, spare)
			}
		}
	}
	if spares[0] < 20 || spares[1] < 20 || spares[2] < 20 {
		t.Errorf("designs that solve a problem, by the number of weighings that can be left out: %v", spares)
	}
}

func TestP9DecodeSignsNamed(t *testing.T) {
	named := []struct {
		p     impl.Problem
		list  []impl.Weighing
		signs []int
		want  []int
	}{
		{problem(3, "+-0"), twoVectors(), []int{0, 0}, []int{0}},
		{problem(3, "+-0"), twoVectors(), []int{1, 0}, []int{1}},
		{problem(3, "+-0"), twoVectors(), []int{-1, 0}, []int{-1}},
		{problem(3, "+-0"), twoVectors(), []int{-1, 1}, []int{3}},
		{problem(3, "+-0"), twoVectors(), []int{1, -1}, []int{-3}},
		// No case has these.
		{problem(3, "+-0"), twoVectors(), []int{1, 1}, nil},
		{problem(3, "+-0"), twoVectors(), []int{-1, -1}, nil},
		{problem(3, "+-"), twoVectors(), []int{0, 0}, nil},
		{problem(3, "+0"), twoVectors(), []int{1, -1}, nil},
		{problem(3, "-0"), twoVectors(), []int{1, 0}, nil},
		// Several cases have these.
		{problem(5, "+-0"), twoVectors(), []int{0, 0}, []int{-5, -4, 0, 4, 5}},
		{problem(5, "+-"), twoVectors(), []int{0, 0}, []int{-5, -4, 4, 5}},
		{problem(5, "+"), twoVectors(), []int{0, 0}, []int{4, 5}},
		{problem(5, "-0"), twoVectors(), []int{0, 0}, []int{-5, -4, 0}},
		{problem(6, "+-0"), design("1,5:2,6"), []int{1}, []int{-6, -2, 1, 5}},
		{problem(6, "+-0"), design("1,5:2,6"), []int{-1}, []int{-5, -1, 2, 6}},
		{problem(13, "+-0"), threeVectors(), []int{0, 0, 0}, []int{-13, 0, 13}},
		{problem(13, "+-0"), slices.Repeat(design("2:13"), 6), []int{1, 1, 1, 1, 1, 1}, []int{-13, 2}},
		{problem(13, "+-0"), slices.Repeat(design("2:13"), 6), []int{1, 1, 1, 1, 1, -1}, nil},
		{problem(13, "+"), slices.Repeat(design("2:13"), 6), []int{-1, -1, -1, -1, -1, -1}, []int{13}},
		// Too few, too many.
		{problem(3, "+-0"), twoVectors(), nil, nil},
		{problem(3, "+-0"), twoVectors(), []int{}, nil},
		{problem(3, "+-0"), twoVectors(), []int{0}, nil},
		{problem(3, "+-0"), twoVectors(), []int{1}, nil},
		{problem(3, "+-0"), twoVectors(), []int{0, 0, 0}, nil},
		{problem(3, "+-0"), twoVectors(), []int{1, 0, 0}, nil},
		{problem(3, "+-0"), twoVectors(), make([]int, 6), nil},
		{problem(3, "+-0"), twoVectors(), make([]int, 7), nil},
		{problem(3, "+-0"), twoVectors(), make([]int, 100000), nil},
		{problem(4, "+-0"), sixWeighings(), make([]int, 6), []int{0}},
		{problem(4, "+-0"), sixWeighings(), make([]int, 5), nil},
		{problem(4, "+-0"), sixWeighings(), make([]int, 7), nil},
		{problem(4, "+-0"), sixWeighings(), make([]int, 256+6), nil},
		{problem(4, "+-0"), sixWeighings(), []int{1, 1, 1, 0, 0, 0}, []int{1}},
		{problem(4, "+-0"), sixWeighings(), []int{1, 1, 1, 0, 0, 0, 0}, nil},
		{problem(4, "+-0"), sixWeighings(), []int{1, 1, 1, 0, 0, 0, 1}, nil},
		// Numbers that are no signs.
		{problem(3, "+-0"), twoVectors(), []int{2, 0}, nil},
		{problem(3, "+-0"), twoVectors(), []int{-2, 0}, nil},
		{problem(3, "+-0"), twoVectors(), []int{1, 3}, nil},
		{problem(3, "+-0"), twoVectors(), []int{0, 256}, nil},
		{problem(3, "+-0"), twoVectors(), []int{257, 0}, nil},
		{problem(3, "+-0"), twoVectors(), []int{255, 0}, nil},
		{problem(3, "+-0"), twoVectors(), []int{1<<32 + 1, 0}, nil},
		{problem(3, "+-0"), twoVectors(), []int{1<<32 - 1, 0}, nil},
		{problem(3, "+-0"), twoVectors(), []int{math.MinInt, 0}, nil},
		{problem(3, "+-0"), twoVectors(), []int{0, math.MaxInt}, nil},
		{problem(3, "+-0"), twoVectors(), []int{math.MaxInt, math.MinInt}, nil},
		{problem(3, "+-0"), twoVectors(), []int{-1, 4}, nil},
		// The empty design has the same signs, none, in all cases.
		{problem(1, "+"), nil, nil, []int{1}},
		{problem(2, "+-0"), nil, nil, []int{-2, -1, 0, 1, 2}},
		{problem(2, "+-0"), []impl.Weighing{}, []int{}, []int{-2, -1, 0, 1, 2}},
		{problem(3, "-"), nil, []int{}, []int{-3, -2, -1}},
		{problem(3, "-"), nil, []int{0}, nil},
		{problem(3, "-"), []impl.Weighing{}, []int{1}, nil},
		// The problem or the design is not valid.
		{problem(3, ""), twoVectors(), []int{0, 0}, nil},
		{problem(3, "0"), twoVectors(), []int{0, 0}, nil},
		{problem(3, "0"), nil, nil, nil},
		{problem(0, "+-0"), nil, nil, nil},
		{problem(14, "+-0"), nil, nil, nil},
		{problem(14, "+-0"), twoVectors(), []int{0, 0}, nil},
		{problem(-3, "+-0"), twoVectors(), []int{0, 0}, nil},
		{problem(math.MinInt, "+-0"), nil, nil, nil},
		{problem(math.MaxInt, "+-0"), twoVectors(), []int{0, 0}, nil},
		{problem(2, "+-0"), twoVectors(), []int{0, 0}, nil},
		{problem(3, "+-0"), make([]impl.Weighing, 1), []int{0}, nil},
		{problem(3, "+-0"), make([]impl.Weighing, 1), nil, nil},
		{problem(2, "+-0"), slices.Repeat(design("1:2"), 7), make([]int, 7), nil},
		{problem(2, "+-0"), slices.Repeat(design("1:2"), 7), make([]int, 6), nil},
		{impl.Problem{}, nil, nil, nil},
	}
	for _, n := range named {
		if got := impl.DecodeSigns(n.p, n.list, n.signs); !slices.Equal(got, n.want) {
			t.Errorf("DecodeSigns(%+v, %v, %v) = %v, want %v", n.p, n.list, n.signs[:min(len(n.signs), 9)], got, n.want)
		}
	}
}

// P9: of all short lists of numbers, exactly those that are the signs of cases decode to something.
func TestP9DecodeSigns(t *testing.T) {
	lists := allLists([]int{-2, -1, 0, 1, 2, 256}, 4)
	for _, list := range [][]impl.Weighing{nil, design("1:2"), design("3:4"), twoVectors(), threeVectors(), design("1:2", "1:2"), design("1,2:3,4", "1:3", "2:4", "1,4:2,3"),
		design("1,5:2,6", "1:5", "2:6"), make([]impl.Weighing, 2), sixWeighings(), slices.Repeat(design("1:2"), 7)} {
		for _, p := range allProblems(0, 1, 2, 3, 4, 6, 13, 14) {
			tellings := wantTellings(p, list)
			for _, signs := range lists {
				if got := impl.DecodeSigns(p, list, signs); !slices.Equal(got, tellings[signText(signs)]) {
					t.Fatalf("DecodeSigns(%+v, %v, %v) = %v, want %v", p, list, signs, got, tellings[signText(signs)])
				}
			}
		}
	}
}

func designText(list []impl.Weighing) string {
	var texts []string
	for _, w := range list {
		texts = append(texts, impl.FormatWeighing(w))
	}
	return strings.Join(texts, " ")
}

func TestP9VectorDesignNamed(t *testing.T) {
	named := []struct {
		k, coins int
		want     []impl.Weighing
	}{{2, 3, twoVectors()}, {3, 12, threeVectors()}}
	for _, n := range named {
		got, coins, ok := impl.VectorDesign(n.k)
		if !ok || coins != n.coins || !slices.EqualFunc(got, n.want, sameWeighing) {
			t.Errorf("VectorDesign(%d) = %v, %d, %v, want %v, %d", n.k, designText(got), coins, ok, designText(n.want), n.coins)
		}
	}
	for _, k := range append(someInts(), 1, 4, 0, -1, -2, -3, 5, 6, 7, 13, 256+2, 256+3, 1<<32+2, 1<<32+3, math.MinInt+2, math.MinInt, math.MaxInt) {
		if k == 2 || k == 3 {
			continue
		}
		if list, coins, ok := impl.VectorDesign(k); ok || coins != 0 || len(list) > 0 {
			t.Errorf("VectorDesign(%d) = %v, %d, %v", k, list, coins, ok)
		}
	}
}

// P9: the coins of the vector designs lie where their vectors say.
func TestP9VectorDesign(t *testing.T) {
	for k := 2; k <= 3; k++ {
		want := make([]impl.Weighing, k)
		coins := 0
		// As numbers with the digits 0 to 2 the vectors are in lexicographic order.
		for number := range int(math.Pow(3, float64(k))) {
			var vector []int
			for i := range k {
				vector = append(vector, number/int(math.Pow(3, float64(k-1-i)))%3)
			}
			change := 0
			for i := k - 1; i > 0; i-- {
				if vector[i] != vector[i-1] {
					change = vector[i] - vector[i-1]
				}
			}
			if change != 1 && change != -2 {
				continue
			}
			coins++
			for i, n := range vector {
				if n == 0 {
					want[i].Left = append(want[i].Left, coins)
				} else if n == 2 {
					want[i].Right = append(want[i].Right, coins)
				}
			}
		}
		got, n, ok := impl.VectorDesign(k)
		if !ok || n != coins || !slices.EqualFunc(got, want, sameWeighing) {
			t.Errorf("VectorDesign(%d) = %v, %d, %v, want %v, %d", k, designText(got), n, ok, designText(want), coins)
		}
	}
}

// guardedDesign has room behind its weighings and behind their sides.
func guardedDesign(list []impl.Weighing) ([]impl.Weighing, []impl.Weighing) {
	var whole []impl.Weighing
	for _, w := range list {
		whole = append(whole, weigh(guarded(w.Left...).list, guarded(w.Right...).list))
	}
	whole = append(whole, parsed("1:2"), weigh([]int{71}, []int{72, 73}), parsed("3:4"))
	return whole[:len(list)], whole
}

// weighingsInFull copies weighings with all that lies behind their sides.
func weighingsInFull(list []impl.Weighing) []impl.Weighing {
	var full []impl.Weighing
	for _, w := range list {
		full = append(full, weigh(slices.Clone(w.Left[:cap(w.Left)]), slices.Clone(w.Right[:cap(w.Right)])))
	}
	return full
}

// P9: designs and signs and the room behind them stay as they are, and results share no memory with them.
func TestP9DesignArguments(t *testing.T) {
	designs := [][]impl.Weighing{nil, twoVectors(), threeVectors(), sixWeighings(), slices.Repeat(design("1:2"), 7), design("1:2"),
		slices.Insert(threeVectors(), 1, parsed("1:2")), make([]impl.Weighing, 2), {weigh([]int{2, 1}, []int{3}), weigh([]int{1}, []int{1})}}
	for _, list := range designs {
		held, whole := guardedDesign(list)
		before := weighingsInFull(whole)
		signs := guarded(make([]int, len(list))...)
		odd := guarded(5, -1, 0, 1, math.MinInt, 0, 0, 1, 1)
		for _, p := range allProblems(0, 1, 2, 3, 4, 12, 13, 14) {
			impl.DesignOk(held, p.Coins)
			impl.DesignSolves(p, held)
			impl.CountSigns(p, held)
			impl.SpareWeighing(p, held)
			spoil(impl.DecodeSigns(p, held, signs.list), impl.DecodeSigns(p, held, odd.list))
			for _, c := range []int{-3, 0, 3, 40} {
				got, _ := impl.SignsOf(held, p.Coins, c)
				spoil(got)
			}
		}
		if !reflect.DeepEqual(weighingsInFull(whole), before) {
			t.Errorf("a design was changed: %v, before it was %v", weighingsInFull(whole), before)
		}
		if !signs.same() || !odd.same() {
			t.Errorf("signs were changed: %v, %v", signs.whole, odd.whole)
		}
	}
}

// P9: no two results share memory.
func TestP9DesignResults(t *testing.T) {
	p, list := problem(5, "+-0"), twoVectors()
	one, _ := impl.SignsOf(list, 5, 3)
	two, _ := impl.SignsOf(list, 5, 3)
	first, second := impl.DecodeSigns(p, list, []int{0, 0}), impl.DecodeSigns(p, list, []int{0, 0})
	other := impl.DecodeSigns(p, list, []int{1, 0})
	spoil(one, first)
	if !slices.Equal(two, []int{-1, 1}) || !slices.Equal(second, []int{-5, -4, 0, 4, 5}) || !slices.Equal(other, []int{1}) {
		t.Errorf("results share memory: %v, %v, %v", two, second, other)
	}
	spoil(two, second)
	if again, _ := impl.SignsOf(list, 5, 3); !slices.Equal(again, []int{-1, 1}) {
		t.Errorf("SignsOf(%v, 5, 3) = %v after a result was changed", list, again)
	}
	if again := impl.DecodeSigns(p, list, []int{0, 0}); !slices.Equal(again, []int{-5, -4, 0, 4, 5}) || !slices.Equal(other, []int{1}) {
		t.Errorf("results share memory: %v, %v", again, other)
	}
}

// P9: the sides of a vector design share no memory with each other or with those of another call.
func TestP9VectorDesignResults(t *testing.T) {
	for k, want := range map[int][]impl.Weighing{2: twoVectors(), 3: threeVectors()} {
		untouched, _, _ := impl.VectorDesign(k)
		list, _, _ := impl.VectorDesign(k)
		for i := range list {
			spoil(list[i].Left)
			if !slices.Equal(list[i].Right, want[i].Right) || !slices.EqualFunc(list[i+1:], want[i+1:], sameWeighing) {
				t.Errorf("VectorDesign(%d) shares memory: %v", k, list)
			}
			spoil(list[i].Right)
			if !slices.EqualFunc(list[i+1:], want[i+1:], sameWeighing) {
				t.Errorf("VectorDesign(%d) shares memory: %v", k, list)
			}
		}
		clear(list[:cap(list)])
		if !slices.EqualFunc(untouched, want, sameWeighing) {
			t.Errorf("two results of VectorDesign(%d) share memory: %v", k, untouched)
		}
		if again, _, _ := impl.VectorDesign(k); !slices.EqualFunc(again, want, sameWeighing) {
			t.Errorf("VectorDesign(%d) = %v after a result was changed", k, again)
		}
	}
}

// P9: a call that is repeated many times, with other calls in between, returns the same.
func TestP9DesignRepeated(t *testing.T) {
	p, mixed := problem(12, "+-0"), problem(13, "+-")
	list := slices.Insert(threeVectors(), 2, parsed("1:2"))
	for range 2000 {
		if !impl.DesignSolves(p, list) || impl.DesignSolves(mixed, list) || impl.DesignSolves(p, list[:3]) {
			t.Fatal("DesignSolves changes")
		}
		if impl.CountSigns(p, list) != 25 || impl.CountSigns(mixed, list) != 25 || impl.CountSigns(p, list[:3]) != 13 {
			t.Fatalf("CountSigns changes: %d, %d, %d", impl.CountSigns(p, list), impl.CountSigns(mixed, list), impl.CountSigns(p, list[:3]))
		}
		if got := impl.DecodeSigns(mixed, list, []int{0, 0, 0, 0}); !slices.Equal(got, []int{-13, 13}) {
			t.Fatalf("DecodeSigns changes: %v", got)
		}
		if impl.SpareWeighing(p, list) != 2 || impl.SpareWeighing(mixed, list) != -1 {
			t.Fatal("SpareWeighing changes")
		}
		if got, ok := impl.SignsOf(list, 12, -8); !ok || !slices.Equal(got, []int{0, 1, 0, 1}) {
			t.Fatalf("SignsOf changes: %v, %v", got, ok)
		}
		if got, n, ok := impl.VectorDesign(3); !ok || n != 12 || !slices.EqualFunc(got, threeVectors(), sameWeighing) {
			t.Fatalf("VectorDesign changes: %v, %d, %v", got, n, ok)
		}
		if !impl.DesignOk(list, 12) || impl.DesignOk(list, 11) {
			t.Fatal("DesignOk changes")
		}
	}
	// The same slice with other contents is another design.
	list[0] = parsed("1:2")
	if impl.DesignSolves(p, list) || impl.SpareWeighing(p, list) != -1 {
		t.Error("a design is still that of an earlier call")
	}
}

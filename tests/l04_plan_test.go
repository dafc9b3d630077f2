package tests

import (
	"math"
	"reflect"
	"slices"
	"strconv"
	"testing"

	"loop.example/g01040/impl"
)

func node(text string, less, even, more int) impl.Node {
	return impl.Node{Weigh: parsed(text), Less: less, Even: even, More: more}
}

// lastNode is a node at which a plan ends, whatever the outcome.
func lastNode(text string) impl.Node { return node(text, -1, -1, -1) }

// leadsTo changes the next node after an outcome.
func leadsTo(n *impl.Node, outcome, next int) {
	switch outcome {
	case -1:
		n.Less = next
	case 0:
		n.Even = next
	case 1:
		n.More = next
	}
}

func nextOf(n impl.Node, outcome int) int { return []int{n.Less, n.Even, n.More}[outcome+1] }

// levels is the plan that makes the same weighings one after the other, whatever the outcomes are.
func levels(texts ...string) []impl.Node {
	var plan []impl.Node
	width := 1
	for level, text := range texts {
		for range width {
			i := 3 * len(plan)
			n := node(text, i+1, i+2, i+3)
			if level == len(texts)-1 {
				n = lastNode(text)
			}
			plan = append(plan, n)
		}
		width *= 3
	}
	return plan
}

// chain is a plan of nodes that follow each other after the given outcomes, taken in turn.
func chain(nodes int, outcomes ...int) []impl.Node {
	var plan []impl.Node
	for i := range nodes {
		n := lastNode("1:2")
		if i < nodes-1 {
			leadsTo(&n, outcomes[i%len(outcomes)], i+1)
		}
		plan = append(plan, n)
	}
	return plan
}

// threeCoins finds one of three coins, and if it is heavy or light, with two weighings.
func threeCoins() []impl.Node { return levels("1:2", "1:3") }

// oneThenTwo ends after the first weighing unless it is even.
func oneThenTwo() []impl.Node { return []impl.Node{node("1:2", -1, 1, -1), lastNode("1:3")} }

// twelveCoins finds one of twelve coins, and if it is heavy or light, with three weighings.
func twelveCoins() []impl.Node {
	return levels("1,4,6,10:5,7,9,12", "2,4,5,11:6,7,8,10", "3,5,6,12:4,8,9,11")
}

// everyShape returns all ways to link so many nodes: each node in turn takes any place that is free after an earlier one.
func everyShape(nodes int) [][]impl.Node {
	list := [][]impl.Node{{lastNode("1:2")}}
	for i := 1; i < nodes; i++ {
		var longer [][]impl.Node
		for _, plan := range list {
			for before := range plan {
				for outcome := -1; outcome <= 1; outcome++ {
					if nextOf(plan[before], outcome) != -1 {
						continue
					}
					more := append(slices.Clone(plan), lastNode("1:2"))
					leadsTo(&more[before], outcome, i)
					longer = append(longer, more)
				}
			}
		}
		list = longer
	}
	return list
}

// shapes are the valid ways to link one to five nodes, with weighings of so many coins.
func shapes(coins int) [][]impl.Node {
	weighings := everyWeighing(coins)
	next := 0
	var list [][]impl.Node
	for nodes := 1; nodes <= 5; nodes++ {
		for _, plan := range everyShape(nodes) {
			for i := range plan {
				plan[i].Weigh = weighings[next%len(weighings)].w
				next += 7
			}
			list = append(list, plan)
		}
	}
	return list
}

// thrifty is the plan that always makes the first weighing that leaves the fewest cases, as long as it tells any two apart.
func thrifty(p impl.Problem) []impl.Node {
	weighings := everyWeighing(p.Coins)
	var plan []impl.Node
	var grow func(cases []int) int
	grow = func(cases []int) int {
		var best impl.Weighing
		fewest := len(cases)
		for _, one := range weighings {
			if most := impl.TellsMost(one.w, cases); most < fewest {
				best, fewest = one.w, most
			}
		}
		if fewest == len(cases) {
			return -1
		}
		i := len(plan)
		plan = append(plan, impl.Node{Weigh: best})
		less, even, more := impl.SplitBy(best, cases)
		plan[i].Less, plan[i].Even, plan[i].More = -1, -1, -1
		for outcome, part := range [][]int{less, even, more} {
			next := grow(part)
			leadsTo(&plan[i], outcome-1, next)
		}
		return i
	}
	grow(wantCases(p))
	return plan
}

// somePlans returns valid plans, some for three coins and some for up to thirteen.
func somePlans() [][]impl.Node {
	list := [][]impl.Node{nil, {}, {lastNode("1:2")}, {lastNode("12:13")}, threeCoins(), oneThenTwo(), twelveCoins(),
		chain(60, -1), chain(60, 0), chain(60, 1), chain(60, -1, 1), chain(60, 1, 0), chain(59, 1, 1, 0),
		levels("1:2", "3:4", "5:6", "1,3:2,4"), levels("1:2", "1:2", "1:2"), levels("1,2,3:4,5,6", "1,4,7:2,5,8")}
	for _, coins := range []int{2, 3, 5} {
		list = append(list, shapes(coins)...)
	}
	for _, p := range allProblems(2, 3, 4, 5, 6) {
		list = append(list, thrifty(p))
	}
	return list
}

// wantPlanOk looks at all links together: they are the numbers of all nodes but the first, each of them once.
func wantPlanOk(plan []impl.Node, coins int) bool {
	links := []int{0}
	for i, n := range plan {
		for outcome := -1; outcome <= 1; outcome++ {
			next := nextOf(n, outcome)
			if next != -1 {
				links = append(links, next)
			}
			if next != -1 && next <= i {
				return false
			}
		}
		if !wantOk(n.Weigh, coins) {
			return false
		}
	}
	slices.Sort(links)
	for i, link := range links {
		if link != i {
			return false
		}
	}
	return coins > 0 && coins < 14 && len(plan) <= 60 && len(links) == max(1, len(plan))
}

func wantOutcome(w impl.Weighing, c int) int {
	sign := 1
	if c < 0 {
		c, sign = -c, -1
	}
	if slices.Contains(w.Left, c) {
		return sign
	}
	if slices.Contains(w.Right, c) {
		return -sign
	}
	return 0
}

func wantOutcomes(plan []impl.Node, c int) []int {
	var outcomes []int
	for i := 0; i >= 0 && i < len(plan); {
		outcome := wantOutcome(plan[i].Weigh, c)
		outcomes = append(outcomes, outcome)
		i = nextOf(plan[i], outcome)
	}
	return outcomes
}

// wantDepth counts the nodes from each node back to the first one.
func wantDepth(plan []impl.Node) int {
	depth := 0
	level := make([]int, len(plan))
	for i, n := range plan {
		level[i]++
		depth = max(depth, level[i])
		for outcome := -1; outcome <= 1; outcome++ {
			if next := nextOf(n, outcome); next != -1 {
				level[next] = level[i]
			}
		}
	}
	return depth
}

func signText(outcomes []int) string {
	text := ""
	for _, outcome := range outcomes {
		text += strconv.Itoa(outcome) + " "
	}
	return text
}

// wantTold reports whether all cases have different outcomes, and whether all cases with the same outcomes have one coin.
func wantTold(p impl.Problem, plan []impl.Node) (bool, bool) {
	coins := map[string]int{}
	solves, finds := true, true
	for _, c := range wantCases(p) {
		text := signText(wantOutcomes(plan, c))
		coin, twice := coins[text]
		if twice {
			solves = false
			finds = finds && coin == max(c, -c)
		}
		coins[text] = max(c, -c)
	}
	return solves, finds
}

// P2: a valid plan ends in every case after at most PlanDepth weighings, and each outcome is that of the node that was reached.
func TestP2PlanOutcomes(t *testing.T) {
	for _, plan := range somePlans() {
		for _, coins := range []int{2, 3, 5, 12, 13} {
			depth := impl.PlanDepth(plan, coins)
			if (depth >= 0) != impl.PlanOk(plan, coins) {
				t.Fatalf("PlanDepth(%v, %d) = %d", plan, coins, depth)
			}
			for c := -coins; c <= coins; c++ {
				outcomes, ok := impl.FollowPlan(plan, coins, c)
				if ok != (depth >= 0) || len(outcomes) > max(depth, 0) {
					t.Fatalf("FollowPlan(%v, %d, %d) = %v, %v with the depth %d", plan, coins, c, outcomes, ok, depth)
				}
				if !ok || len(plan) == 0 {
					continue
				}
				at := 0
				for _, outcome := range outcomes {
					if at == -1 || outcome != impl.OutcomeOf(plan[at].Weigh, c) {
						t.Fatalf("FollowPlan(%v, %d, %d) = %v, wrong at node %d", plan, coins, c, outcomes, at)
					}
					at = nextOf(plan[at], outcome)
				}
				if at != -1 {
					t.Fatalf("FollowPlan(%v, %d, %d) = %v ends before node %d", plan, coins, c, outcomes, at)
				}
			}
		}
	}
}

// P2: TotalCost is the sum of the numbers of weighings over all cases, and WorstCase the least of the cases with the most.
func TestP2PlanCosts(t *testing.T) {
	problems := allProblems(2, 3, 5, 13)
	for _, plan := range somePlans() {
		for _, p := range problems {
			total, worst, most := 0, 0, -1
			for _, c := range impl.CasesOf(p) {
				outcomes, _ := impl.FollowPlan(plan, p.Coins, c)
				total += len(outcomes)
				if len(outcomes) > most {
					worst, most = c, len(outcomes)
				}
			}
			valid := impl.ProblemOk(p) && impl.PlanOk(plan, p.Coins)
			if !valid {
				total, worst = -1, 0
			}
			if got := impl.TotalCost(p, plan); got != total {
				t.Fatalf("TotalCost(%+v, %v) = %d, want %d", p, plan, got, total)
			}
			if c, ok := impl.WorstCase(p, plan); c != worst || ok != valid {
				t.Fatalf("WorstCase(%+v, %v) = %d, %v, want %d, %v", p, plan, c, ok, worst, valid)
			}
		}
	}
}

// P2: a plan that tells all cases apart finds the coin too, and has three outcomes for each of its weighings.
func TestP2PlanSolving(t *testing.T) {
	solved, found := 0, 0
	problems := allProblems(1, 2, 3, 4, 5, 6, 9, 12, 13)
	for _, plan := range somePlans() {
		for _, p := range problems {
			finds := impl.FindsCoin(p, plan)
			if finds {
				found++
			}
			if !impl.SolvesFor(p, plan) {
				continue
			}
			solved++
			ways := 1
			for range min(impl.PlanDepth(plan, p.Coins), 3) {
				ways *= 3
			}
			if !finds || ways < len(impl.CasesOf(p)) {
				t.Fatalf("SolvesFor(%+v, %v) is true: FindsCoin %v, %d ways for %d cases", p, plan, finds, ways, len(impl.CasesOf(p)))
			}
		}
	}
	if solved < 100 || found < solved+100 {
		t.Errorf("%d plans solve a problem and %d find the coin", solved, found)
	}
}

// P2: plans that were made to solve a problem do so.
func TestP2PlanSolutions(t *testing.T) {
	named := []struct {
		p           impl.Problem
		plan        []impl.Node
		depth, cost int
		worst       int
	}{
		{impl.Problem{Coins: 12, Heavy: true, Light: true, None: true}, twelveCoins(), 3, 75, -12},
		{impl.Problem{Coins: 12, Heavy: true, Light: true}, twelveCoins(), 3, 72, -12},
		{impl.Problem{Coins: 9, Heavy: true}, levels("1,2,3:4,5,6", "1,4,7:2,5,8"), 2, 18, 1},
		{impl.Problem{Coins: 9, Light: true}, levels("1,2,3:4,5,6", "1,4,7:2,5,8"), 2, 18, -9},
		{impl.Problem{Coins: 8, Light: true, None: true}, levels("1,2,3:4,5,6", "1,4,7:2,5,8"), 2, 18, -8},
		{impl.Problem{Coins: 3, Heavy: true, Light: true, None: true}, threeCoins(), 2, 14, -3},
		{impl.Problem{Coins: 3, Heavy: true, None: true}, oneThenTwo(), 2, 6, 0},
		{impl.Problem{Coins: 3, Heavy: true}, []impl.Node{lastNode("1:3")}, 1, 3, 1},
		{impl.Problem{Coins: 1, Light: true}, nil, 0, 0, -1},
	}
	for _, n := range named {
		if !impl.SolvesFor(n.p, n.plan) || !impl.FindsCoin(n.p, n.plan) || impl.PlanDepth(n.plan, n.p.Coins) != n.depth {
			t.Errorf("%v for %+v: %v, %v, %d", n.plan, n.p, impl.SolvesFor(n.p, n.plan), impl.FindsCoin(n.p, n.plan), impl.PlanDepth(n.plan, n.p.Coins))
		}
		c, ok := impl.WorstCase(n.p, n.plan)
		if cost := impl.TotalCost(n.p, n.plan); cost != n.cost || c != n.worst || !ok {
			t.Errorf("%v for %+v: %d, %d, %v", n.plan, n.p, cost, c, ok)
		}
	}
	for _, p := range allProblems(2, 3, 4, 5, 6) {
		plan := thrifty(p)
		solves, finds := wantTold(p, plan)
		if got := impl.FindsCoin(p, plan); got != (finds && impl.ProblemOk(p)) {
			t.Errorf("FindsCoin(%+v, %v) = %v", p, plan, got)
		}
		if got := impl.SolvesFor(p, plan); got != (solves && impl.ProblemOk(p)) {
			t.Errorf("SolvesFor(%+v, %v) = %v", p, plan, got)
		}
		// One kind of bad coin alone can always be found, even if there may be none, as soon as there are three coins.
		if p.Coins > 2 && p.Heavy != p.Light && !solves {
			t.Errorf("the test's plan %v does not solve %+v", plan, p)
		}
	}
}

func TestP9PlanOkNamed(t *testing.T) {
	one := parsed("1:2")
	last := lastNode("1:2")
	named := []struct {
		label string
		plan  []impl.Node
		coins int
		want  bool
	}{
		{"nil", nil, 1, true},
		{"empty", []impl.Node{}, 13, true},
		{"nil, no coins", nil, 0, false},
		{"nil, too many coins", nil, 14, false},
		{"nil, coins below 0", nil, -1, false},
		{"nil, least coins", nil, math.MinInt, false},
		{"nil, greatest coins", nil, math.MaxInt, false},
		{"nil, coins of 33 bits", nil, 1<<32 + 1, false},
		{"one node", []impl.Node{last}, 2, true},
		{"one node, one coin", []impl.Node{last}, 1, false},
		{"one node, no coins", []impl.Node{last}, 0, false},
		{"one node, thirteen coins", []impl.Node{last}, 13, true},
		{"one node, fourteen coins", []impl.Node{last}, 14, false},
		{"one node, coins below 0", []impl.Node{last}, -2, false},
		{"one node of zero values", []impl.Node{{}}, 3, false},
		{"one node that follows itself", []impl.Node{{Weigh: one}}, 3, false},
		{"one node without a weighing", []impl.Node{{Less: -1, Even: -1, More: -1}}, 3, false},
		{"one node before a further one", []impl.Node{node("1:2", -1, 1, -1)}, 3, false},
		{"three coins", threeCoins(), 3, true},
		{"three coins of four", threeCoins(), 4, true},
		{"three coins of two", threeCoins(), 2, false},
		{"sixty nodes", chain(60, -1), 2, true},
		{"sixty nodes in turn", chain(60, -1, 0, 1), 13, true},
		{"sixty-one nodes", chain(61, -1), 2, false},
		{"sixty-one nodes in turn", chain(61, 1, 0), 13, false},
		{"very many nodes", chain(5000, 0), 2, false},
		{"levels of 40 nodes", levels("1:2", "3:4", "5:6", "1,3:2,4"), 6, true},
		{"levels of 121 nodes", levels("1:2", "3:4", "5:6", "1,3:2,4", "1:3"), 6, false},
		{"two nodes beside each other", []impl.Node{last, last}, 2, false},
		{"a later node", []impl.Node{node("1:2", -1, 2, -1), last, last}, 2, false},
		{"two orders", []impl.Node{node("1:2", 2, -1, 1), last, last}, 2, true},
		{"two nodes after the last one", []impl.Node{node("1:2", -1, -1, 1), node("1:2", 3, -1, 2), last, last}, 2, true},
		{"a node after two nodes", []impl.Node{node("1:2", 1, 2, -1), node("1:2", 3, -1, -1), node("1:2", 3, -1, -1), last}, 2, false},
		{"a node after two nodes, one of nobody", []impl.Node{node("1:2", 1, 2, -1), node("1:2", 2, -1, -1), last, last}, 2, false},
		{"a node twice after one node", []impl.Node{node("1:2", 1, 1, -1), last}, 2, false},
		{"a node twice after one node, the ends", []impl.Node{node("1:2", 1, -1, 1), last}, 2, false},
		{"a node three times after one node", []impl.Node{node("1:2", 1, 1, 1), last}, 2, false},
		{"a circle beside", []impl.Node{last, node("1:2", 2, -1, -1), node("1:2", 1, -1, -1)}, 2, false},
		{"a circle of all", []impl.Node{node("1:2", 1, -1, -1), node("1:2", -1, 0, -1)}, 2, false},
		{"a node after itself beside", []impl.Node{last, node("1:2", 1, -1, -1)}, 2, false},
		{"a node after itself", []impl.Node{node("1:2", 1, -1, -1), node("1:2", -1, -1, 1)}, 2, false},
		{"an unequal weighing", []impl.Node{{Weigh: weigh([]int{1}, []int{2, 3}), Less: -1, Even: -1, More: -1}}, 3, false},
		{"a wrong weighing that no case meets", []impl.Node{node("1:2", 1, -1, -1), node("1:2", -1, -1, 2), lastNode("1:1")}, 3, false},
	}
	for _, n := range named {
		if got := impl.PlanOk(n.plan, n.coins); got != n.want {
			t.Errorf("%s: PlanOk(%v, %d) = %v", n.label, n.plan, n.coins, got)
		}
	}
}

// P9: of all links of one node and of two, and of those of three that do not lead before the second, exactly the stated ones are valid.
func TestP9PlanOkLinks(t *testing.T) {
	if impl.MaxNodes != 60 {
		t.Errorf("MaxNodes = %d", impl.MaxNodes)
	}
	for _, links := range []struct {
		nodes, ways int
		values      []int
	}{
		{1, 1, []int{math.MinInt, -2, -1, 0, 1, 2, math.MaxInt}},
		{2, 3, []int{math.MinInt, -3, -2, -1, 0, 1, 2, 3, math.MaxInt}},
		{3, 15, []int{-1, 1, 2, 3}},
	} {
		plan := make([]impl.Node, links.nodes)
		for i := range plan {
			plan[i] = lastNode("1:2")
		}
		valid := 0
		var link func(place int)
		link = func(place int) {
			if place == 3*links.nodes {
				got := impl.PlanOk(plan, 2)
				if got != wantPlanOk(plan, 2) {
					t.Errorf("PlanOk(%v, 2) = %v", plan, got)
				}
				if got {
					valid++
				}
				return
			}
			for _, value := range links.values {
				leadsTo(&plan[place/3], place%3-1, value)
				link(place + 1)
			}
		}
		link(0)
		if valid != links.ways {
			t.Errorf("%d ways to link %d nodes are valid, want %d", valid, links.nodes, links.ways)
		}
	}
}

// P9: a valid plan with one link changed.
func TestP9PlanOkOneLink(t *testing.T) {
	plans := append(everyShape(4), everyShape(5)[:100]...)
	plans = append(plans, chain(60, -1, 0, 1), twelveCoins())
	for _, plan := range plans {
		values := []int{math.MinInt, math.MinInt + 1, -60, -2, -1, 0, 1, 2, 3, 4, 5, 59, 60, 61, 1 << 32, 1<<32 + 1, math.MaxInt}
		values = append(values, len(plan)-1, len(plan), len(plan)+1)
		for i := range plan {
			before := plan[i]
			for outcome := -1; outcome <= 1; outcome++ {
				for _, value := range append(values, i-1, i, i+1, i+2) {
					leadsTo(&plan[i], outcome, value)
					if got := impl.PlanOk(plan, 12); got != wantPlanOk(plan, 12) {
						t.Errorf("PlanOk(%v, 12) = %v", plan, got)
					}
					plan[i] = before
				}
			}
		}
	}
}

func TestP9PlanOkWeighings(t *testing.T) {
	for _, plan := range somePlans() {
		for coins := -1; coins <= 15; coins++ {
			if got := impl.PlanOk(plan, coins); got != wantPlanOk(plan, coins) {
				t.Errorf("PlanOk(%v, %d) = %v", plan, coins, got)
			}
		}
		for _, coins := range someCoins() {
			if (coins < 1 || coins > 13) && impl.PlanOk(plan, coins) {
				t.Errorf("PlanOk(%v, %d) = true", plan, coins)
			}
		}
	}
	for _, plan := range [][]impl.Node{{lastNode("1:2")}, threeCoins(), chain(60, -1, 0, 1)} {
		for i := range plan {
			before := plan[i]
			for _, w := range wrongWeighings() {
				plan[i].Weigh = w
				if impl.PlanOk(plan, 13) {
					t.Errorf("PlanOk(%v, 13) = true", plan)
				}
			}
			plan[i].Weigh = parsed("2:5")
			if !impl.PlanOk(plan, 5) || impl.PlanOk(plan, 4) {
				t.Errorf("PlanOk(%v, 5 and 4) = %v, %v", plan, impl.PlanOk(plan, 5), impl.PlanOk(plan, 4))
			}
			plan[i] = before
		}
	}
}

func TestP9FollowPlanNamed(t *testing.T) {
	repeated := slices.Repeat([]int{-1}, 60)
	named := []struct {
		plan  []impl.Node
		coins int
		c     int
		want  []int
		ok    bool
	}{
		{threeCoins(), 3, -3, []int{0, 1}, true},
		{threeCoins(), 3, -2, []int{1, 0}, true},
		{threeCoins(), 3, -1, []int{-1, -1}, true},
		{threeCoins(), 3, 0, []int{0, 0}, true},
		{threeCoins(), 3, 1, []int{1, 1}, true},
		{threeCoins(), 3, 2, []int{-1, 0}, true},
		{threeCoins(), 3, 3, []int{0, -1}, true},
		{threeCoins(), 3, 4, nil, false},
		{threeCoins(), 3, -4, nil, false},
		{threeCoins(), 4, 4, []int{0, 0}, true},
		{threeCoins(), 4, -4, []int{0, 0}, true},
		{threeCoins(), 4, 5, nil, false},
		{threeCoins(), 13, 13, []int{0, 0}, true},
		{threeCoins(), 13, -13, []int{0, 0}, true},
		{threeCoins(), 13, 14, nil, false},
		{threeCoins(), 13, -14, nil, false},
		{threeCoins(), 2, 1, nil, false},
		{threeCoins(), 0, 0, nil, false},
		{threeCoins(), 14, 1, nil, false},
		{threeCoins(), -3, 0, nil, false},
		{threeCoins(), -3, 3, nil, false},
		{threeCoins(), math.MinInt, 0, nil, false},
		{threeCoins(), math.MaxInt, 0, nil, false},
		{threeCoins(), 3, math.MinInt, nil, false},
		{threeCoins(), 3, math.MaxInt, nil, false},
		{threeCoins(), 3, 1 << 32, nil, false},
		{threeCoins(), 3, math.MinInt + 1, nil, false},
		{oneThenTwo(), 3, 1, []int{1}, true},
		{oneThenTwo(), 3, -1, []int{-1}, true},
		{oneThenTwo(), 3, 3, []int{0, -1}, true},
		{oneThenTwo(), 3, 0, []int{0, 0}, true},
		{nil, 3, 3, nil, true},
		{[]impl.Node{}, 13, -13, nil, true},
		{nil, 1, 0, nil, true},
		{nil, 1, 2, nil, false},
		{nil, 0, 0, nil, false},
		{nil, 14, 0, nil, false},
		{nil, 3, math.MinInt, nil, false},
		{nil, math.MinInt, math.MinInt, nil, false},
		{[]impl.Node{lastNode("2:1")}, 2, 1, []int{-1}, true},
		{[]impl.Node{lastNode("2:1")}, 2, -1, []int{1}, true},
		{chain(60, -1), 2, 2, repeated, true},
		{chain(60, -1), 2, -1, repeated, true},
		{chain(60, -1), 2, 1, []int{1}, true},
		{chain(60, -1), 2, 0, []int{0}, true},
		{chain(60, 0), 3, 3, make([]int, 60), true},
		{chain(60, -1, 1), 2, 2, []int{-1, -1}, true},
		{chain(61, -1), 2, 2, nil, false},
		{[]impl.Node{node("1:2", 1, 1, -1), lastNode("1:2")}, 2, 1, nil, false},
		{[]impl.Node{node("1:2", 0, 0, 0)}, 2, 1, nil, false},
		{twelveCoins(), 12, 4, []int{1, 1, -1}, true},
		{twelveCoins(), 12, -7, []int{1, 1, 0}, true},
		{twelveCoins(), 12, 3, []int{0, 0, 1}, true},
	}
	for _, n := range named {
		if got, ok := impl.FollowPlan(n.plan, n.coins, n.c); !slices.Equal(got, n.want) || ok != n.ok {
			t.Errorf("FollowPlan(%v, %d, %d) = %v, %v, want %v, %v", n.plan, n.coins, n.c, got, ok, n.want, n.ok)
		}
	}
}

func TestP9FollowPlan(t *testing.T) {
	cases := someCases()
	for _, plan := range somePlans() {
		for _, coins := range []int{-3, 0, 1, 2, 3, 4, 12, 13, 14} {
			valid := wantPlanOk(plan, coins)
			for _, c := range cases {
				var want []int
				wantOk := valid && c >= -coins && c <= coins
				if wantOk {
					want = wantOutcomes(plan, c)
				}
				if got, ok := impl.FollowPlan(plan, coins, c); !slices.Equal(got, want) || ok != wantOk {
					t.Fatalf("FollowPlan(%v, %d, %d) = %v, %v, want %v, %v", plan, coins, c, got, ok, want, wantOk)
				}
			}
		}
	}
}

func TestP9PlanDepth(t *testing.T) {
	named := []struct {
		plan        []impl.Node
		coins, want int
	}{
		{nil, 1, 0}, {nil, 13, 0}, {[]impl.Node{}, 3, 0}, {nil, 0, -1}, {nil, 14, -1}, {nil, -1, -1}, {nil, math.MinInt, -1}, {nil, math.MaxInt, -1},
		{[]impl.Node{lastNode("1:2")}, 2, 1}, {[]impl.Node{lastNode("1:2")}, 1, -1}, {[]impl.Node{lastNode("1:2")}, 14, -1},
		{threeCoins(), 3, 2}, {threeCoins(), 2, -1}, {oneThenTwo(), 3, 2}, {twelveCoins(), 12, 3}, {twelveCoins(), 11, -1},
		{chain(60, -1), 2, 60}, {chain(60, 0), 2, 60}, {chain(60, 1), 2, 60}, {chain(61, 1), 2, -1},
		// No case gets further than to the second node of this plan.
		{chain(60, -1, 1), 2, 60},
		{[]impl.Node{node("1:2", 1, -1, 2), lastNode("1:2"), node("1:2", -1, 3, -1), lastNode("1:2")}, 2, 3},
		{[]impl.Node{node("1:2", 2, -1, 1), lastNode("1:2"), node("1:2", -1, 3, -1), lastNode("1:2")}, 2, 3},
		{[]impl.Node{node("1:2", 1, 3, 2), lastNode("1:2"), lastNode("1:2"), node("1:2", 4, -1, -1), lastNode("1:2")}, 2, 3},
		{[]impl.Node{node("1:2", 1, -1, -1), node("1:2", 0, -1, -1)}, 2, -1},
		{[]impl.Node{node("1:2", 0, -1, -1)}, 2, -1},
		{[]impl.Node{{}}, 2, -1},
	}
	for _, n := range named {
		if got := impl.PlanDepth(n.plan, n.coins); got != n.want {
			t.Errorf("PlanDepth(%v, %d) = %d, want %d", n.plan, n.coins, got, n.want)
		}
	}
	for _, plan := range somePlans() {
		for coins := -1; coins <= 15; coins++ {
			want := -1
			if wantPlanOk(plan, coins) {
				want = wantDepth(plan)
			}
			if got := impl.PlanDepth(plan, coins); got != want {
				t.Errorf("PlanDepth(%v, %d) = %d, want %d", plan, coins, got, want)
			}
		}
	}
}

func TestP9SolvesForNamed(t *testing.T) {
	named := []struct {
		p             impl.Problem
		plan          []impl.Node
		solves, finds bool
	}{
		{problem(3, "+-0"), threeCoins(), true, true},
		{problem(3, "+-"), threeCoins(), true, true},
		{problem(2, "+-"), threeCoins(), false, false},
		{problem(2, "+-"), []impl.Node{lastNode("1:2")}, false, false},
		{problem(2, "+"), []impl.Node{lastNode("1:2")}, true, true},
		{problem(2, "-0"), []impl.Node{lastNode("1:2")}, true, true},
		{problem(3, "-"), []impl.Node{lastNode("1:2")}, true, true},
		{problem(3, "-0"), []impl.Node{lastNode("1:2")}, false, false},
		{problem(4, "+"), []impl.Node{lastNode("1:2")}, false, false},
		// The coin is found, but not if it is heavy or light.
		{problem(4, "+-"), threeCoins(), false, true},
		{problem(4, "+-0"), threeCoins(), false, false},
		{problem(4, "+"), threeCoins(), true, true},
		{problem(4, "+0"), threeCoins(), false, false},
		{problem(5, "-"), threeCoins(), false, false},
		{problem(12, "+-0"), twelveCoins(), true, true},
		{problem(13, "+-"), twelveCoins(), false, true},
		{problem(13, "+-0"), twelveCoins(), false, false},
		{problem(13, "-"), twelveCoins(), true, true},
		{problem(11, "-"), twelveCoins(), false, false},
		{problem(1, "+"), nil, true, true},
		{problem(1, "-"), []impl.Node{}, true, true},
		{problem(1, "+-"), nil, false, true},
		{problem(1, "+0"), nil, false, false},
		{problem(1, "+-0"), nil, false, false},
		{problem(2, "+"), nil, false, false},
		{problem(3, "+"), oneThenTwo(), true, true},
		{problem(3, "+0"), oneThenTwo(), true, true},
		{problem(3, "+-"), oneThenTwo(), false, false},
		// Valid plans, but no valid problem.
		{problem(3, ""), threeCoins(), false, false},
		{problem(3, "0"), threeCoins(), false, false},
		{problem(0, "+"), threeCoins(), false, false},
		{problem(0, "+-0"), nil, false, false},
		{problem(1, "0"), nil, false, false},
		{problem(1, ""), nil, false, false},
		{problem(14, "+"), nil, false, false},
		{problem(14, "+"), threeCoins(), false, false},
		{problem(-3, "+"), threeCoins(), false, false},
		{problem(math.MinInt, "+-0"), nil, false, false},
		{problem(math.MaxInt, "+-0"), nil, false, false},
		// Valid problems, but no valid plan.
		{problem(1, "+"), []impl.Node{lastNode("1:2")}, false, false},
		{problem(2, "+"), chain(61, -1), false, false},
		{problem(2, "+"), []impl.Node{node("1:2", 1, 1, -1), lastNode("1:2")}, false, false},
		{problem(2, "+"), []impl.Node{lastNode("1:2"), lastNode("1:2")}, false, false},
		{problem(2, "+"), []impl.Node{node("1:2", -1, -1, 0)}, false, false},
		{problem(1, "+"), []impl.Node{{}}, false, false},
		// Neither of both.
		{problem(0, "+"), []impl.Node{{}}, false, false},
		{impl.Problem{}, nil, false, false},
	}
	for _, n := range named {
		if got := impl.SolvesFor(n.p, n.plan); got != n.solves {
			t.Errorf("SolvesFor(%+v, %v) = %v", n.p, n.plan, got)
		}
		if got := impl.FindsCoin(n.p, n.plan); got != n.finds {
			t.Errorf("FindsCoin(%+v, %v) = %v", n.p, n.plan, got)
		}
	}
}

func TestP9SolvesFor(t *testing.T) {
	problems := allProblems(-1, 0, 1, 2, 3, 4, 5, 6, 12, 13, 14)
	for _, plan := range somePlans() {
		for _, p := range problems {
			solves, finds := wantTold(p, plan)
			valid := len(wantCases(p)) > 0 && wantPlanOk(plan, p.Coins)
			if got := impl.SolvesFor(p, plan); got != (solves && valid) {
				t.Fatalf("SolvesFor(%+v, %v) = %v", p, plan, got)
			}
			if got := impl.FindsCoin(p, plan); got != (finds && valid) {
				t.Fatalf("FindsCoin(%+v, %v) = %v", p, plan, got)
			}
		}
	}
}

func TestP9PlanCosts(t *testing.T) {
	heavy := impl.Problem{Coins: 3, Heavy: true}
	light := impl.Problem{Coins: 3, Light: true}
	both := impl.Problem{Coins: 3, Heavy: true, Light: true}
	all := impl.Problem{Coins: 3, Heavy: true, Light: true, None: true}
	heavyOrNone := impl.Problem{Coins: 3, Heavy: true, None: true}
	lessThenTwo := []impl.Node{node("1:2", 1, -1, -1), lastNode("2:3")}
	moreThenTwo := []impl.Node{node("1:2", -1, -1, 1), lastNode("2:3")}
	named := []struct {
		p           impl.Problem
		plan        []impl.Node
		cost, worst int
		ok          bool
	}{
		{all, threeCoins(), 14, -3, true},
		{both, threeCoins(), 12, -3, true},
		{heavy, threeCoins(), 6, 1, true},
		{heavyOrNone, threeCoins(), 8, 0, true},
		{heavy, oneThenTwo(), 4, 3, true},
		{heavyOrNone, oneThenTwo(), 6, 0, true},
		{light, oneThenTwo(), 4, -3, true},
		{both, oneThenTwo(), 8, -3, true},
		{all, oneThenTwo(), 10, -3, true},
		{heavy, lessThenTwo, 4, 2, true},
		{light, lessThenTwo, 4, -1, true},
		{both, lessThenTwo, 8, -1, true},
		{heavyOrNone, lessThenTwo, 5, 2, true},
		{heavy, moreThenTwo, 4, 1, true},
		{both, moreThenTwo, 8, -2, true},
		{all, nil, 0, -3, true},
		{heavy, nil, 0, 1, true},
		{heavyOrNone, []impl.Node{}, 0, 0, true},
		{impl.Problem{Coins: 13, Light: true}, nil, 0, -13, true},
		{impl.Problem{Coins: 2, Heavy: true}, chain(60, -1), 61, 2, true},
		{impl.Problem{Coins: 2, Light: true}, chain(60, -1), 61, -1, true},
		{impl.Problem{Coins: 13, Heavy: true, None: true}, chain(60, 0), 722, 0, true},
		{impl.Problem{Coins: 13, Heavy: true}, chain(60, 0), 662, 3, true},
		{impl.Problem{Coins: 13, Heavy: true, Light: true, None: true}, chain(60, 0), 1384, -13, true},
		{impl.Problem{Coins: 13, Heavy: true, Light: true, None: true}, twelveCoins(), 81, -13, true},
		// Valid plans, but no valid problem.
		{impl.Problem{}, nil, -1, 0, false},
		{impl.Problem{Coins: 3}, threeCoins(), -1, 0, false},
		{impl.Problem{Coins: 3, None: true}, threeCoins(), -1, 0, false},
		{impl.Problem{Coins: 3, None: true}, nil, -1, 0, false},
		{impl.Problem{Coins: 0, Heavy: true}, nil, -1, 0, false},
		{impl.Problem{Coins: 14, Heavy: true, None: true}, threeCoins(), -1, 0, false},
		{impl.Problem{Coins: -1, Light: true}, nil, -1, 0, false},
		{impl.Problem{Coins: math.MinInt, Light: true}, threeCoins(), -1, 0, false},
		{impl.Problem{Coins: math.MaxInt, Light: true}, threeCoins(), -1, 0, false},
		// Valid problems, but no valid plan.
		{impl.Problem{Coins: 2, Heavy: true, Light: true}, threeCoins(), -1, 0, false},
		{heavy, chain(61, -1), -1, 0, false},
		{both, []impl.Node{node("1:2", 1, -1, -1)}, -1, 0, false},
		{both, []impl.Node{node("1:2", -1, 0, -1)}, -1, 0, false},
		{both, []impl.Node{{}}, -1, 0, false},
		// Neither of both.
		{impl.Problem{Coins: 3}, []impl.Node{{}}, -1, 0, false},
	}
	for _, n := range named {
		c, ok := impl.WorstCase(n.p, n.plan)
		if cost := impl.TotalCost(n.p, n.plan); cost != n.cost || c != n.worst || ok != n.ok {
			t.Errorf("%+v with %v: cost %d, worst case %d, %v, want %d, %d, %v", n.p, n.plan, cost, c, ok, n.cost, n.worst, n.ok)
		}
	}
}

// guardedPlan has room behind its nodes and behind their sides.
func guardedPlan(nodes ...impl.Node) ([]impl.Node, []impl.Node) {
	for i, n := range nodes {
		nodes[i].Weigh = weigh(guarded(n.Weigh.Left...).list, guarded(n.Weigh.Right...).list)
	}
	whole := append(slices.Clone(nodes), lastNode("1:2"), impl.Node{Less: 71, Even: 72, More: 73}, lastNode("3:4"))
	return whole[:len(nodes)], whole
}

// inFull copies nodes with all that lies behind their sides.
func inFull(nodes []impl.Node) []impl.Node {
	nodes = slices.Clone(nodes)
	for i, n := range nodes {
		nodes[i].Weigh = weigh(slices.Clone(n.Weigh.Left[:cap(n.Weigh.Left)]), slices.Clone(n.Weigh.Right[:cap(n.Weigh.Right)]))
	}
	return nodes
}

// P9: plans and the room behind them stay as they are, and outcomes share no memory with them.
func TestP9PlanArguments(t *testing.T) {
	for _, nodes := range [][]impl.Node{nil, threeCoins(), oneThenTwo(), twelveCoins(), chain(60, -1), chain(61, -1),
		{node("1:2", 1, 1, 1), lastNode("1:2")}, {node("1:2", 1, 2, -1), lastNode("1:2")}, {{Weigh: weigh([]int{2, 1}, []int{3}), Less: 5, Even: -2}}} {
		plan, whole := guardedPlan(nodes...)
		before := inFull(whole)
		for _, p := range allProblems(0, 3, 12, 14) {
			impl.PlanOk(plan, p.Coins)
			impl.PlanDepth(plan, p.Coins)
			impl.SolvesFor(p, plan)
			impl.FindsCoin(p, plan)
			impl.TotalCost(p, plan)
			impl.WorstCase(p, plan)
			for _, c := range []int{-3, 0, 3, 40} {
				outcomes, _ := impl.FollowPlan(plan, p.Coins, c)
				spoil(outcomes)
			}
		}
		if !reflect.DeepEqual(inFull(whole), before) {
			t.Errorf("a plan was changed: %v, before it was %v", inFull(whole), before)
		}
	}
}

// P9: the outcomes of two calls share no memory, and a call leaves nothing behind for the next one.
func TestP9PlanResults(t *testing.T) {
	plan := threeCoins()
	one, _ := impl.FollowPlan(plan, 3, 3)
	two, _ := impl.FollowPlan(plan, 3, 3)
	other, _ := impl.FollowPlan(plan, 3, -2)
	spoil(one)
	if !slices.Equal(two, []int{0, -1}) || !slices.Equal(other, []int{1, 0}) {
		t.Errorf("outcomes share memory: %v, %v", two, other)
	}
	spoil(two)
	if again, _ := impl.FollowPlan(plan, 3, 3); !slices.Equal(again, []int{0, -1}) || !slices.Equal(other, []int{1, 0}) {
		t.Errorf("outcomes share memory: %v, %v", again, other)
	}
	// The same slice with other contents is another plan.
	plan[0].Weigh.Left[0], plan[0].Weigh.Right[0] = 2, 1
	plan[0].Less = -1
	if outcomes, ok := impl.FollowPlan(plan, 3, 3); ok || len(outcomes) != 0 {
		t.Errorf("FollowPlan(%v, 3, 3) = %v, %v", plan, outcomes, ok)
	}
	plan[0].Less = 1
	if outcomes, ok := impl.FollowPlan(plan, 3, 2); !ok || !slices.Equal(outcomes, []int{1, 0}) {
		t.Errorf("FollowPlan(%v, 3, 2) = %v, %v", plan, outcomes, ok)
	}
}

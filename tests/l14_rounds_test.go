package tests

import (
	"math"
	"runtime"
	"slices"
	"sync"
	"testing"

	"loop.example/g01040/impl"
)

// wantRoundsOk counts how often each index is in a list, and compares each pool of a list with each one before it.
func wantRoundsOk(n int, pools []int, machines int, rounds [][]int) bool {
	if !wantPoolsOk(n, pools) || machines < 1 || machines > 12 {
		return false
	}
	count := map[int]int{}
	for _, indices := range rounds {
		if len(indices) > machines {
			return false
		}
		for k, i := range indices {
			if i < 0 || i > len(pools)-1 {
				return false
			}
			for _, other := range indices[:k] {
				if wantResult(pools[i], pools[other]) {
					return false
				}
			}
			count[i]++
		}
	}
	for i := range pools {
		if count[i] != 1 {
			return false
		}
	}
	return true
}

// wantGreedy goes, for each of some valid pools, from one round to the next until it fits.
func wantGreedy(pools []int, machines int) [][]int {
	var rounds [][]int
	for i, pool := range pools {
		at := 0
		for at < len(rounds) {
			full := len(rounds[at]) == machines
			if !full && !slices.ContainsFunc(rounds[at], func(other int) bool { return wantResult(pool, pools[other]) }) {
				break
			}
			at++
		}
		if at == len(rounds) {
			rounds = append(rounds, nil)
		}
		rounds[at] = append(rounds[at], i)
	}
	return rounds
}

// wantUses looks for each item in all of some valid pools.
func wantUses(n int, pools []int) []int {
	uses := make([]int, n)
	for item := range n {
		for _, pool := range pools {
			if slices.Contains(wantItems(pool), item) {
				uses[item]++
			}
		}
	}
	return uses
}

// wantParts counts how often so many must be taken until all are.
func wantTimes(all, each int) int {
	parts := 0
	for ; all > 0; all -= each {
		parts++
	}
	return parts
}

func wantRoundBound(n int, pools []int, machines int) int {
	return max(wantTimes(len(pools), machines), slices.Max(wantUses(n, pools)))
}

// divisions returns all ways to divide the numbers from 0 up to count into lists, without regard to the order of the lists.
func divisions(count int) [][][]int {
	all := [][][]int{nil}
	for i := range count {
		var next [][][]int
		for _, lists := range all {
			for at := range len(lists) + 1 {
				more := slices.Clone(lists)
				if at == len(lists) {
					more = append(more, nil)
				}
				more[at] = append(slices.Clone(more[at]), i)
				next = append(next, more)
			}
		}
		all = next
	}
	return all
}

// allDivisions are those of up to seven pools.
func allDivisions() [][][][]int {
	var all [][][][]int
	for count := range 8 {
		all = append(all, divisions(count))
	}
	return all
}

// wantFewestRounds looks for the shortest one of these divisions in which no list is too long and no two pools of a list have an item in common.
func wantFewestRounds(pools []int, machines int, divided [][][]int) int {
	apart := make([][]bool, len(pools))
	for i, pool := range pools {
		for _, other := range pools {
			apart[i] = append(apart[i], !wantResult(pool, other))
		}
	}
	fewest := math.MaxInt
	for _, lists := range divided {
		if len(lists) < fewest && !slices.ContainsFunc(lists, func(indices []int) bool { return !fitsTogether(apart, indices, machines) }) {
			fewest = len(lists)
		}
	}
	return fewest
}

func fitsTogether(apart [][]bool, indices []int, machines int) bool {
	for k, i := range indices {
		for _, other := range indices[:k] {
			if !apart[i][other] {
				return false
			}
		}
	}
	return len(indices) <= machines
}

// ring returns pools of two neighbours each in a circle of n items.
func ring(n int) []int {
	var pools []int
	for item := range n {
		pools = append(pools, setOf(item, (item+1)%n))
	}
	return pools
}

// crossed are pools that, one after the other, do not come into the fewest rounds.
func crossed() []int { return []int{1, 4, 3, 6} }

// ringBenches are pools of which some need more rounds than RoundBound, or are put into more than the fewest.
func ringBenches() []bench {
	list := []bench{{3, crossed()}, {10, crossed()}, {4, []int{2, 4, 8, 1, 1, 1}}, {4, []int{3, 5, 8}}, {10, []int{1023, 0, 1023, 512, 511}}, {5, []int{1, 8, 3, 12, 6, 24, 16}}, {6, []int{1, 32, 3, 48, 6, 24, 12}}}
	for n := 3; n <= 10; n++ {
		list = append(list, bench{n, ring(n)}, bench{n, ring(n)[1:]}, bench{n, append([]int{0}, ring(n)...)}, bench{10, append(ring(n), 0)})
	}
	for n := 1; n <= 10; n++ {
		for count := 1; count <= 7; count++ {
			for seed := range 4 {
				list = append(list, bench{n, mixedPools(n, count, 7919*n+31*count+seed)})
			}
		}
		list = append(list, bench{n, make([]int, 7)}, bench{n, make([]int, 8)}, bench{n, slices.Repeat([]int{1}, 7)}, bench{n, slices.Repeat([]int{setsUpTo(n) - 1, 0}, 6)})
	}
	return list
}

// roundBenches are valid pools of all kinds.
func roundBenches() []bench { return append(allBenches(), ringBenches()...) }

// shortRoundBenches are fewer of them, for what takes long.
func shortRoundBenches() []bench {
	var list []bench
	for i, b := range allBenches() {
		if i%19 == 5 || len(b.pools) > 5 {
			list = append(list, b)
		}
	}
	return append(list, ringBenches()...)
}

// wrongMachines are no valid numbers of machines.
func wrongMachines() []int {
	return slices.DeleteFunc(append(someInts(), wrongItems()...), func(machines int) bool { return machines >= 1 && machines <= 12 })
}

// fewWrongMachines are some of them.
func fewWrongMachines() []int {
	return []int{-1, 0, 13, 14, -12, 64, 1 << 32, 1<<32 + 1, math.MinInt, math.MinInt + 1, math.MinInt + 2, math.MaxInt, math.MaxInt - 1}
}

// greedy returns the rounds of valid pools.
func greedy(t *testing.T, b bench, machines int) [][]int {
	t.Helper()
	rounds, ok := impl.GreedyRounds(b.n, b.pools, machines)
	if !ok {
		t.Fatalf("GreedyRounds(%d, %v, %d) = %v, false", b.n, b.pools, machines, rounds)
	}
	return rounds
}

func sameRounds(a, b [][]int) bool {
	return slices.EqualFunc(a, b, func(x, y []int) bool { return slices.Equal(x, y) })
}

// P8: GreedyRounds returns rounds that are valid, for RoundsOk too, none of them empty, and not fewer than RoundBound.
func TestP8GreedyRounds(t *testing.T) {
	more := 0
	for _, b := range roundBenches() {
		for machines := 1; machines <= 12; machines++ {
			rounds := greedy(t, b, machines)
			if !wantRoundsOk(b.n, b.pools, machines, rounds) || !impl.RoundsOk(b.n, b.pools, machines, rounds) {
				t.Fatalf("GreedyRounds(%d, %v, %d) = %v, RoundsOk is %v", b.n, b.pools, machines, rounds, impl.RoundsOk(b.n, b.pools, machines, rounds))
			}
			if slices.ContainsFunc(rounds, func(indices []int) bool { return len(indices) == 0 }) {
				t.Fatalf("GreedyRounds(%d, %v, %d) = %v", b.n, b.pools, machines, rounds)
			}
			if bound := impl.RoundBound(b.n, b.pools, machines); len(rounds) < bound {
				t.Fatalf("GreedyRounds(%d, %v, %d) = %v, RoundBound is %d", b.n, b.pools, machines, rounds, bound)
			} else if len(rounds) > bound {
				more++
			}
		}
	}
	if more < 1000 {
		t.Errorf("only %d times more rounds than the bound", more)
	}
}

// P8: no pool fits into an earlier one of the rounds, as they were before it.
func TestP8GreedyFirst(t *testing.T) {
	for _, b := range roundBenches() {
		for _, machines := range []int{1, 2, 3, 12} {
			rounds := greedy(t, b, machines)
			for at, indices := range rounds {
				for _, i := range indices {
					for _, earlier := range rounds[:at] {
						before := slices.DeleteFunc(slices.Clone(earlier), func(other int) bool { return other > i })
						shared := slices.ContainsFunc(before, func(other int) bool { return wantResult(b.pools[i], b.pools[other]) })
						if len(before) < machines && !shared {
							t.Fatalf("GreedyRounds(%d, %v, %d) = %v, but pool %d fits with %v", b.n, b.pools, machines, rounds, i, before)
						}
					}
				}
			}
		}
	}
}

// P8: of all ways to divide the pools into rounds, none for which RoundsOk is true has fewer than RoundBound or FewestRounds, and one has as many as FewestRounds.
func TestP8FewestRounds(t *testing.T) {
	all := allDivisions()
	above, below := 0, 0
	for _, b := range shortRoundBenches() {
		if len(b.pools) > 7 {
			continue
		}
		for _, machines := range []int{1, 2, 3, 4, 6, 7, 12} {
			fewest := math.MaxInt
			for _, rounds := range all[len(b.pools)] {
				if len(rounds) < fewest && impl.RoundsOk(b.n, b.pools, machines, rounds) {
					fewest = len(rounds)
				}
			}
			got, bound := impl.FewestRounds(b.n, b.pools, machines), impl.RoundBound(b.n, b.pools, machines)
			if got != fewest || bound > fewest {
				t.Fatalf("FewestRounds(%d, %v, %d) = %d, RoundBound is %d, the fewest valid rounds are %d", b.n, b.pools, machines, got, bound, fewest)
			}
			if count := len(greedy(t, b, machines)); count < got {
				t.Fatalf("GreedyRounds(%d, %v, %d) has %d rounds, FewestRounds is %d", b.n, b.pools, machines, count, got)
			} else if count > got {
				below++
			}
			if got > bound {
				above++
			}
		}
	}
	if above < 50 || below < 50 {
		t.Errorf("more than the bound %d times, fewer than the greedy rounds %d times", above, below)
	}
}

// P8: more machines never ask for more rounds, and neither does the order of the pools.
func TestP8FewestRoundsOrder(t *testing.T) {
	for _, b := range shortRoundBenches() {
		if len(b.pools) > 7 {
			continue
		}
		turned := slices.Clone(b.pools)
		slices.Reverse(turned)
		last := len(b.pools)
		for machines := 1; machines <= 12; machines++ {
			fewest := impl.FewestRounds(b.n, b.pools, machines)
			if fewest > last || impl.FewestRounds(b.n, turned, machines) != fewest || machines == 1 && fewest != last {
				t.Fatalf("FewestRounds(%d, %v, %d) = %d, turned it is %d, with fewer machines %d", b.n, b.pools, machines, fewest, impl.FewestRounds(b.n, turned, machines), last)
			}
			if impl.RoundBound(b.n, turned, machines) != impl.RoundBound(b.n, b.pools, machines) {
				t.Fatalf("RoundBound(%d, %v, %d) depends on the order", b.n, b.pools, machines)
			}
			last = fewest
		}
	}
}

// P8: valid rounds of up to 12 pools, put together in other orders of the pools, are not fewer than RoundBound.
func TestP8RoundBoundOrders(t *testing.T) {
	for i, b := range shortRoundBenches() {
		for machines := 1; machines <= 12; machines += 1 + i%3 {
			for step := range max(len(b.pools), 1) {
				order := append(slices.Clone(b.pools[step:]), b.pools[:step]...)
				rounds := greedy(t, bench{b.n, order}, machines)
				for _, indices := range rounds {
					for k, index := range indices {
						indices[k] = (index + step) % len(b.pools)
					}
				}
				if !impl.RoundsOk(b.n, b.pools, machines, rounds) || len(rounds) < impl.RoundBound(b.n, b.pools, machines) {
					t.Fatalf("%d items, pools %v, %d machines: rounds %v, RoundBound is %d", b.n, b.pools, machines, rounds, impl.RoundBound(b.n, b.pools, machines))
				}
			}
		}
	}
}

// P8: no item is used more often than RoundBound says, and the numbers of UsesOf are those of the pools' items.
func TestP8Uses(t *testing.T) {
	for _, b := range roundBenches() {
		uses := impl.UsesOf(b.n, b.pools)
		if len(uses) != b.n {
			t.Fatalf("UsesOf(%d, %v) = %v", b.n, b.pools, uses)
		}
		total := 0
		for _, pool := range b.pools {
			total += impl.CountItems(pool)
		}
		for item, count := range uses {
			total -= count
			positive := 0
			for _, result := range tested(t, b, setOf(item)) {
				if result {
					positive++
				}
			}
			if positive != count {
				t.Fatalf("UsesOf(%d, %v) = %v, but item %d is in %d pools", b.n, b.pools, uses, item, positive)
			}
		}
		if total != 0 {
			t.Fatalf("UsesOf(%d, %v) = %v, the items of the pools are %d more", b.n, b.pools, uses, total)
		}
		for machines := 1; machines <= 12; machines++ {
			bound := impl.RoundBound(b.n, b.pools, machines)
			if slices.Max(uses) > bound || bound*machines < len(b.pools) || bound > slices.Max(uses) && (bound-1)*machines >= len(b.pools) {
				t.Fatalf("RoundBound(%d, %v, %d) = %d, UsesOf is %v", b.n, b.pools, machines, bound, uses)
			}
		}
	}
}

// P8: rounds stay valid in another order and with empty ones among them, and are not valid with one pool less or more.
func TestP8RoundsChanged(t *testing.T) {
	for i, b := range roundBenches() {
		machines := 1 + i%12
		rounds := greedy(t, b, machines)
		turned := [][]int{{}}
		for _, indices := range slices.Backward(rounds) {
			other := slices.Clone(indices)
			slices.Reverse(other)
			turned = append(turned, other, nil)
		}
		if !impl.RoundsOk(b.n, b.pools, machines, turned) {
			t.Fatalf("RoundsOk(%d, %v, %d, %v) = false", b.n, b.pools, machines, turned)
		}
		if wrong := append(rounds, []int{len(b.pools)}); impl.RoundsOk(b.n, b.pools, machines, wrong) {
			t.Fatalf("RoundsOk(%d, %v, %d, %v)", b.n, b.pools, machines, wrong)
		}
		for k, indices := range rounds {
			left := append(slices.Clone(rounds[:k]), rounds[k+1:]...)
			twice := append(slices.Clone(rounds), []int{indices[0]})
			short := slices.Clone(rounds)
			short[k] = indices[1:]
			for _, wrong := range [][][]int{left, twice, short} {
				if impl.RoundsOk(b.n, b.pools, machines, wrong) {
					t.Fatalf("RoundsOk(%d, %v, %d, %v), the greedy rounds are %v", b.n, b.pools, machines, wrong, rounds)
				}
			}
		}
	}
}

// P8: the days have room for the rounds, and one day fewer has not.
func TestP8Days(t *testing.T) {
	for i, b := range roundBenches() {
		machines := 1 + i%12
		rounds := len(greedy(t, b, machines))
		for perDay := 1; perDay <= 24; perDay++ {
			days := impl.DaysFor(b.n, b.pools, machines, perDay)
			if days*perDay < rounds || days > 0 && (days-1)*perDay >= rounds || days < 0 {
				t.Fatalf("DaysFor(%d, %v, %d, %d) = %d for %d rounds", b.n, b.pools, machines, perDay, days, rounds)
			}
		}
	}
}

func TestP9RoundsOkNamed(t *testing.T) {
	three, nulls := []int{3, 5, 8}, make([]int, 12)
	all := itemsUpTo(12)
	named := []struct {
		n        int
		pools    []int
		machines int
		rounds   [][]int
		want     bool
	}{
		{4, three, 2, [][]int{{0, 2}, {1}}, true}, {4, three, 2, [][]int{{1}, {2, 0}}, true}, {4, three, 2, [][]int{{0}, {2, 1}}, true}, {4, three, 1, [][]int{{2}, {0}, {1}}, true}, {4, three, 12, [][]int{{0}, {1}, {2}}, true},
		{4, three, 2, [][]int{{}, {0, 2}, {1}}, true}, {4, three, 2, [][]int{{0, 2}, nil, {1}, {}, {}}, true}, {4, three, 1, [][]int{{}, {}, {}, {}, {0}, {1}, {2}}, true},
		{4, three, 2, [][]int{{0, 1}, {2}}, false}, {4, three, 2, [][]int{{2}, {1, 0}}, false}, {4, three, 3, [][]int{{0, 1, 2}}, false}, {4, three, 3, [][]int{{0, 2, 1}}, false}, {4, three, 12, [][]int{{2, 0, 1}}, false},
		{4, three, 1, [][]int{{0, 2}, {1}}, false}, {4, three, 1, [][]int{{1}, {0, 2}}, false}, {4, []int{1, 2, 4}, 2, [][]int{{0, 1, 2}}, false}, {4, []int{1, 2, 4}, 3, [][]int{{0, 1, 2}}, true}, {4, []int{1, 2, 4, 8}, 3, [][]int{{0, 1, 2, 3}}, false},
		{4, three, 2, nil, false}, {4, three, 2, [][]int{}, false}, {4, three, 2, [][]int{{}}, false}, {4, three, 2, [][]int{nil, {}}, false}, {4, three, 2, [][]int{{0, 2}}, false}, {4, three, 2, [][]int{{1}, {2}}, false}, {4, three, 2, [][]int{{0}, {1}, {}}, false},
		{4, three, 2, [][]int{{0, 5}, {1}, {2}}, false}, {4, three, 2, [][]int{{0, 2}, {1}, {3}}, false}, {4, three, 2, [][]int{{0, 2}, {1, 3}}, false}, {4, three, 2, [][]int{{0}, {1}, {3}}, false}, {4, three, 2, [][]int{{0, 2}, {1}, {64}}, false}, {4, three, 2, [][]int{{0, 2}, {1}, {math.MaxInt}}, false}, {4, three, 2, [][]int{{0, 1 << 32}, {1}, {2}}, false},
		{4, three, 2, [][]int{{0, 2}, {1}, {-1}}, false}, {4, three, 2, [][]int{{-1, 0}, {1}, {2}}, false}, {4, three, 2, [][]int{{0, -1}, {1}, {2}}, false}, {4, three, 2, [][]int{{0, 2}, {-2}}, false}, {4, three, 2, [][]int{{0, 2}, {1}, {math.MinInt}}, false}, {4, three, 2, [][]int{{0, 2}, {math.MinInt + 1}}, false},
		{4, three, 3, [][]int{{0, 2, 2}, {1}}, false}, {4, three, 3, [][]int{{0, 0}, {2, 2}, {1}}, false}, {4, three, 2, [][]int{{0, 2}, {1}, {0}}, false}, {4, three, 2, [][]int{{2}, {0, 2}, {1}}, false}, {4, three, 2, [][]int{{0, 2}, {1, 2}}, false}, {4, three, 2, [][]int{{0, 2}, {0, 2}, {1}}, false}, {4, three, 2, [][]int{{0, 2}, {2}}, false},
		{4, []int{0, 0}, 2, [][]int{{0, 1}}, true}, {4, []int{0, 0}, 2, [][]int{{0, 0}}, false}, {4, []int{0, 0}, 3, [][]int{{0, 1, 1}}, false}, {4, []int{0, 0}, 2, [][]int{{0, 1}, {0}}, false}, {4, []int{0, 0}, 1, [][]int{{0, 1}}, false}, {4, []int{0}, 2, [][]int{{0, 0}}, false}, {4, []int{0}, 2, [][]int{{0}, {0}}, false},
		{4, []int{6, 6}, 2, [][]int{{0, 1}}, false}, {4, []int{6, 6}, 2, [][]int{{0}, {1}}, true}, {4, []int{15, 0, 15}, 2, [][]int{{0, 1}, {2}}, true}, {4, []int{15, 0, 15}, 2, [][]int{{0, 2}, {1}}, false}, {4, []int{15, 8}, 2, [][]int{{0, 1}}, false}, {4, []int{7, 8}, 2, [][]int{{0, 1}}, true},
		{4, nil, 1, nil, true}, {4, nil, 1, [][]int{}, true}, {4, []int{}, 12, [][]int{{}}, true}, {4, nil, 1, [][]int{{}, nil, {}}, true}, {4, nil, 1, [][]int{{0}}, false}, {4, nil, 1, [][]int{{-1}}, false}, {4, nil, 0, nil, false}, {4, nil, 13, nil, false}, {4, nil, -1, nil, false}, {4, nil, math.MinInt, nil, false}, {4, nil, math.MaxInt, nil, false},
		{4, three, 0, [][]int{{0, 2}, {1}}, false}, {4, three, -1, [][]int{{0, 2}, {1}}, false}, {4, three, 13, [][]int{{0, 2}, {1}}, false}, {4, three, math.MinInt, [][]int{{0, 2}, {1}}, false}, {4, three, math.MaxInt, [][]int{{0, 2}, {1}}, false}, {4, three, 12, [][]int{{0, 2}, {1}}, true},
		{10, nulls, 12, [][]int{all}, true}, {10, nulls, 11, [][]int{all}, false}, {10, nulls, 11, [][]int{all[:11], {11}}, true}, {10, nulls, 12, [][]int{all[1:]}, false}, {10, nulls, 12, [][]int{append(all[1:12:12], 11)}, false}, {10, nulls, 12, [][]int{append(all[:12:12], 0)}, false}, {10, nulls, 12, [][]int{append(all[:12:12], 12)}, false},
		{10, make([]int, 13), 12, [][]int{all, {12}}, false}, {10, make([]int, 13), 12, nil, false}, {10, make([]int, 7), 7, [][]int{all[:7]}, true}, {10, make([]int, 8), 8, [][]int{all[:8]}, true}, {10, make([]int, 8), 8, [][]int{all[:7]}, false}, {10, make([]int, 8), 8, [][]int{all[:9]}, false},
		{1, []int{1, 0}, 2, [][]int{{0, 1}}, true}, {1, []int{1, 1}, 2, [][]int{{0, 1}}, false}, {1, []int{2}, 2, [][]int{{0}}, false}, {1, []int{-1}, 2, [][]int{{0}}, false}, {10, []int{1023}, 1, [][]int{{0}}, true}, {10, []int{1024}, 1, [][]int{{0}}, false}, {10, []int{0, math.MinInt}, 1, [][]int{{0}, {1}}, false}, {10, []int{math.MaxInt}, 1, [][]int{{0}}, false},
		{0, nil, 1, nil, false}, {11, nil, 1, nil, false}, {-1, nil, 1, nil, false}, {math.MinInt, nil, 1, nil, false}, {math.MaxInt, nil, 1, nil, false}, {0, []int{0}, 1, [][]int{{0}}, false}, {11, []int{0}, 1, [][]int{{0}}, false}, {1, nil, 1, nil, true}, {10, nil, 1, nil, true}, {3, []int{3, 8}, 2, [][]int{{0, 1}}, false},
	}
	for _, c := range named {
		if got := impl.RoundsOk(c.n, c.pools, c.machines, c.rounds); got != c.want {
			t.Errorf("RoundsOk(%d, %v, %d, %v) = %v", c.n, c.pools, c.machines, c.rounds, got)
		}
	}
}

// P9: all rounds of short lists, also with indices that are none, are valid or not as the reference says.
func TestP9RoundsOk(t *testing.T) {
	count := map[bool]int{}
	lists := allLists([]int{-1, 0, 1, 2, 3}, 2)
	var all [][][]int
	for _, places := range allLists(itemsUpTo(len(lists)), 3) {
		var rounds [][]int
		for _, place := range places {
			rounds = append(rounds, lists[place])
		}
		all = append(all, rounds)
	}
	for _, b := range []bench{{3, nil}, {3, []int{0}}, {3, []int{3, 5}}, {3, []int{3, 4}}, {3, []int{0, 0, 0}}, {3, []int{3, 5, 4}}, {2, []int{1, 2, 3}}, {3, []int{1, 8}}} {
		for _, machines := range []int{0, 1, 2, 13} {
			for _, rounds := range all {
				want := wantRoundsOk(b.n, b.pools, machines, rounds)
				if got := impl.RoundsOk(b.n, b.pools, machines, rounds); got != want {
					t.Fatalf("RoundsOk(%d, %v, %d, %v) = %v", b.n, b.pools, machines, rounds, got)
				}
				count[want]++
			}
		}
	}
	if count[true] < 100 {
		t.Errorf("valid or not: %v", count)
	}
}

// P9: of all ways to divide pools, those are valid that the reference says.
func TestP9RoundsOkDivisions(t *testing.T) {
	all := allDivisions()
	for i, b := range roundBenches() {
		if len(b.pools) > 6 || i%7 > 1 {
			continue
		}
		for _, machines := range []int{1, 2, 3, 12} {
			for _, rounds := range all[len(b.pools)] {
				if got := impl.RoundsOk(b.n, b.pools, machines, rounds); got != wantRoundsOk(b.n, b.pools, machines, rounds) {
					t.Fatalf("RoundsOk(%d, %v, %d, %v) = %v", b.n, b.pools, machines, rounds, got)
				}
			}
		}
	}
}

// P9: rounds may be very many, and lists very long.
func TestP9RoundsOkLong(t *testing.T) {
	many := make([][]int, 100000)
	many[77], many[99999] = []int{0, 2}, []int{1}
	if !impl.RoundsOk(4, []int{3, 5, 8}, 2, many) {
		t.Error("RoundsOk with many empty rounds = false")
	}
	many[0] = []int{1}
	if impl.RoundsOk(4, []int{3, 5, 8}, 2, many) {
		t.Error("RoundsOk with an index in the first round and in the last one")
	}
	for _, i := range []int{-1, 0, 1, 11, 12, 64} {
		if impl.RoundsOk(4, make([]int, 12), 12, [][]int{slices.Repeat([]int{i}, 100000)}) {
			t.Errorf("RoundsOk with the index %d again and again", i)
		}
	}
}

// roundCase is what the functions of one argument more or less return for some pools and machines.
type roundCase struct {
	n        int
	pools    []int
	machines int
	rounds   [][]int
	bound    int
	fewest   int
}

// roundCases are the pools and machines that the document's edge cases name; those without a bound are not valid.
func roundCases() []roundCase {
	nulls, ones := make([]int, 13), slices.Repeat([]int{1}, 13)
	all := itemsUpTo(12)
	apart := [][]int{{0}, {1}, {2}, {3}, {4}, {5}, {6}, {7}, {8}, {9}, {10}, {11}}
	valid := []roundCase{
		{4, []int{3, 5, 8}, 2, [][]int{{0, 2}, {1}}, 2, 2}, {4, []int{3, 5, 8}, 1, apart[:3], 3, 3}, {4, []int{3, 5, 8}, 3, [][]int{{0, 2}, {1}}, 2, 2}, {4, []int{3, 5, 8}, 12, [][]int{{0, 2}, {1}}, 2, 2}, {10, []int{3, 5, 8}, 2, [][]int{{0, 2}, {1}}, 2, 2},
		{3, crossed(), 2, [][]int{{0, 1}, {2}, {3}}, 2, 2}, {3, crossed(), 12, [][]int{{0, 1}, {2}, {3}}, 2, 2}, {3, crossed(), 1, apart[:4], 4, 4}, {3, []int{3, 5, 6}, 12, apart[:3], 2, 3}, {3, []int{3, 5, 6}, 1, apart[:3], 3, 3}, {3, []int{3, 5, 6, 0}, 2, [][]int{{0, 3}, {1}, {2}}, 2, 3},
		{4, []int{2, 4, 8, 1, 1, 1}, 2, [][]int{{0, 1}, {2, 3}, {4}, {5}}, 3, 3}, {4, []int{2, 4, 8, 1, 1, 1}, 3, [][]int{{0, 1, 2}, {3}, {4}, {5}}, 3, 3}, {4, []int{2, 4, 8, 1, 1, 1}, 4, [][]int{{0, 1, 2, 3}, {4}, {5}}, 3, 3},
		{5, ring(5), 12, [][]int{{0, 2}, {1, 3}, {4}}, 2, 3}, {7, ring(7), 2, [][]int{{0, 2}, {1, 3}, {4, 6}, {5}}, 4, 4}, {7, ring(7), 3, [][]int{{0, 2, 4}, {1, 3, 5}, {6}}, 3, 3}, {7, ring(7), 4, [][]int{{0, 2, 4}, {1, 3, 5}, {6}}, 2, 3}, {8, ring(8), 4, [][]int{{0, 2, 4, 6}, {1, 3, 5, 7}}, 2, -1}, {6, ring(6), 3, [][]int{{0, 2, 4}, {1, 3, 5}}, 2, 2},
		{10, []int{1023, 0, 1023, 512, 511}, 2, [][]int{{0, 1}, {2}, {3, 4}}, 3, 3}, {10, []int{1023, 0, 1023, 512, 511}, 12, [][]int{{0, 1}, {2}, {3, 4}}, 3, 3}, {10, []int{1023}, 1, [][]int{{0}}, 1, 1}, {10, []int{0}, 12, [][]int{{0}}, 1, 1}, {1, []int{1, 1, 0}, 12, [][]int{{0, 2}, {1}}, 2, 2}, {1, []int{1}, 12, [][]int{{0}}, 1, 1}, {1, []int{0}, 1, [][]int{{0}}, 1, 1},
		{4, []int{6, 6}, 2, [][]int{{0}, {1}}, 2, 2}, {4, []int{0, 0}, 2, [][]int{{0, 1}}, 1, 1}, {4, []int{0, 0}, 1, [][]int{{0}, {1}}, 2, 2}, {4, []int{15, 15, 0}, 2, [][]int{{0, 2}, {1}}, 2, 2},
		{4, nil, 1, nil, 0, 0}, {4, []int{}, 12, [][]int{}, 0, 0}, {1, nil, 12, nil, 0, 0}, {10, nil, 1, nil, 0, 0},
		{4, nulls[:7], 1, apart[:7], 7, 7}, {4, nulls[:7], 3, [][]int{{0, 1, 2}, {3, 4, 5}, {6}}, 3, 3}, {4, nulls[:7], 6, [][]int{all[:6], {6}}, 2, 2}, {4, nulls[:7], 7, [][]int{all[:7]}, 1, 1}, {4, nulls[:7], 12, [][]int{all[:7]}, 1, 1}, {4, ones[:7], 12, apart[:7], 7, 7}, {10, singles(7), 3, [][]int{{0, 1, 2}, {3, 4, 5}, {6}}, 3, 3},
		{4, nulls[:8], 1, apart[:8], 8, -1}, {4, nulls[:8], 12, [][]int{all[:8]}, 1, -1}, {4, ones[:8], 12, apart[:8], 8, -1}, {10, singles(8), 3, [][]int{{0, 1, 2}, {3, 4, 5}, {6, 7}}, 3, -1},
		{4, nulls[:12], 12, [][]int{all}, 1, -1}, {4, nulls[:12], 11, [][]int{all[:11], {11}}, 2, -1}, {4, nulls[:12], 6, [][]int{all[:6], all[6:]}, 2, -1}, {4, nulls[:12], 5, [][]int{all[:5], all[5:10], all[10:]}, 3, -1}, {1, ones[:12], 12, apart, 12, -1}, {10, nulls[:12], 1, apart, 12, -1},
	}
	for _, n := range []int{0, 11, -1, -2, 12, 64, math.MinInt, math.MaxInt} {
		valid = append(valid, roundCase{n, nil, 1, nil, -1, -1}, roundCase{n, []int{0}, 1, nil, -1, -1}, roundCase{n, []int{1}, 12, nil, -1, -1})
	}
	for _, machines := range fewWrongMachines() {
		valid = append(valid, roundCase{4, []int{3, 5, 8}, machines, nil, -1, -1}, roundCase{4, nil, machines, nil, -1, -1}, roundCase{10, nulls[:12], machines, nil, -1, -1}, roundCase{0, nil, machines, nil, -1, -1})
	}
	return append(valid, roundCase{4, []int{3, 16}, 2, nil, -1, -1}, roundCase{4, []int{-1, 3}, 2, nil, -1, -1}, roundCase{1, []int{2}, 2, nil, -1, -1}, roundCase{10, []int{1024}, 2, nil, -1, -1}, roundCase{10, []int{math.MinInt}, 2, nil, -1, -1}, roundCase{10, []int{math.MaxInt}, 2, nil, -1, -1}, roundCase{4, nulls, 12, nil, -1, -1}, roundCase{4, ones, 1, nil, -1, -1})
}

func TestP9RoundsNamed(t *testing.T) {
	for _, c := range roundCases() {
		rounds, ok := impl.GreedyRounds(c.n, c.pools, c.machines)
		if ok != (c.bound >= 0) || !sameRounds(rounds, c.rounds) {
			t.Errorf("GreedyRounds(%d, %v, %d) = %v, %v, want %v", c.n, c.pools, c.machines, rounds, ok, c.rounds)
		}
		if got := impl.RoundBound(c.n, c.pools, c.machines); got != c.bound {
			t.Errorf("RoundBound(%d, %v, %d) = %d, want %d", c.n, c.pools, c.machines, got, c.bound)
		}
		if got := impl.FewestRounds(c.n, c.pools, c.machines); got != c.fewest {
			t.Errorf("FewestRounds(%d, %v, %d) = %d, want %d", c.n, c.pools, c.machines, got, c.fewest)
		}
		if ok && !impl.RoundsOk(c.n, c.pools, c.machines, c.rounds) || !ok && impl.RoundsOk(c.n, c.pools, c.machines, c.rounds) {
			t.Errorf("RoundsOk(%d, %v, %d, %v) = %v", c.n, c.pools, c.machines, c.rounds, !ok)
		}
		for perDay := -1; perDay <= 26; perDay++ {
			want := -1
			if ok && perDay >= 1 && perDay <= 24 {
				want = wantTimes(len(c.rounds), perDay)
			}
			if got := impl.DaysFor(c.n, c.pools, c.machines, perDay); got != want {
				t.Errorf("DaysFor(%d, %v, %d, %d) = %d, want %d", c.n, c.pools, c.machines, perDay, got, want)
			}
		}
	}
}

func TestP9GreedyRounds(t *testing.T) {
	for _, b := range roundBenches() {
		for machines := 1; machines <= 12; machines++ {
			want := wantGreedy(b.pools, machines)
			if got := greedy(t, b, machines); !sameRounds(got, want) {
				t.Fatalf("GreedyRounds(%d, %v, %d) = %v, want %v", b.n, b.pools, machines, got, want)
			}
		}
	}
}

func TestP9RoundBound(t *testing.T) {
	for _, b := range roundBenches() {
		for machines := 1; machines <= 12; machines++ {
			want := wantRoundBound(b.n, b.pools, machines)
			if got := impl.RoundBound(b.n, b.pools, machines); got != want {
				t.Fatalf("RoundBound(%d, %v, %d) = %d, want %d", b.n, b.pools, machines, got, want)
			}
		}
	}
}

func TestP9FewestRounds(t *testing.T) {
	all := allDivisions()
	for _, b := range roundBenches() {
		for machines := 1; machines <= 12; machines++ {
			want := -1
			if len(b.pools) <= 7 {
				want = wantFewestRounds(b.pools, machines, all[len(b.pools)])
			}
			if got := impl.FewestRounds(b.n, b.pools, machines); got != want {
				t.Fatalf("FewestRounds(%d, %v, %d) = %d, want %d", b.n, b.pools, machines, got, want)
			}
		}
	}
}

func TestP9UsesOfNamed(t *testing.T) {
	named := []struct {
		n     int
		pools []int
		want  []int
	}{
		{4, []int{3, 5, 8}, []int{2, 1, 1, 1}}, {4, []int{0}, []int{0, 0, 0, 0}}, {4, nil, []int{0, 0, 0, 0}}, {4, []int{}, []int{0, 0, 0, 0}}, {4, []int{15}, []int{1, 1, 1, 1}}, {4, []int{6, 6, 15}, []int{1, 3, 3, 1}}, {5, []int{15, 16}, []int{1, 1, 1, 1, 1}},
		{1, nil, []int{0}}, {1, []int{1}, []int{1}}, {1, []int{1, 0, 1}, []int{2}}, {1, slices.Repeat([]int{1}, 12), []int{12}}, {1, slices.Repeat([]int{1}, 13), nil}, {1, []int{2}, nil},
		{10, nil, make([]int, 10)}, {10, []int{1023, 512, 1}, []int{2, 1, 1, 1, 1, 1, 1, 1, 1, 2}}, {10, slices.Repeat([]int{1023}, 12), slices.Repeat([]int{12}, 10)}, {10, []int{1024}, nil}, {10, []int{1023, -1}, nil}, {10, make([]int, 13), nil}, {10, []int{math.MinInt}, nil}, {10, []int{math.MaxInt}, nil},
		{4, []int{3, 16}, nil}, {4, []int{-1}, nil}, {0, nil, nil}, {0, []int{0}, nil}, {11, nil, nil}, {11, []int{1}, nil}, {-1, nil, nil}, {math.MinInt, nil, nil}, {math.MaxInt, nil, nil},
	}
	for _, c := range named {
		if got := impl.UsesOf(c.n, c.pools); !slices.Equal(got, c.want) {
			t.Errorf("UsesOf(%d, %v) = %v, want %v", c.n, c.pools, got, c.want)
		}
	}
}

func TestP9UsesOf(t *testing.T) {
	for _, b := range roundBenches() {
		want := wantUses(b.n, b.pools)
		if got := impl.UsesOf(b.n, b.pools); !slices.Equal(got, want) {
			t.Fatalf("UsesOf(%d, %v) = %v, want %v", b.n, b.pools, got, want)
		}
	}
}

func TestP9DaysForNamed(t *testing.T) {
	ones := slices.Repeat([]int{1}, 12)
	named := []struct {
		n        int
		pools    []int
		machines int
		perDay   int
		want     int
	}{
		{4, []int{3, 5, 8}, 2, 1, 2}, {4, []int{3, 5, 8}, 2, 2, 1}, {4, []int{3, 5, 8}, 2, 24, 1}, {4, []int{3, 5, 8}, 2, 25, -1}, {4, []int{3, 5, 8}, 2, 0, -1}, {4, []int{3, 5, 8}, 1, 1, 3}, {4, []int{3, 5, 8}, 1, 2, 2}, {4, []int{3, 5, 8}, 1, 3, 1},
		{4, []int{3, 5, 8}, 2, -1, -1}, {4, []int{3, 5, 8}, 2, math.MinInt, -1}, {4, []int{3, 5, 8}, 2, math.MaxInt, -1}, {4, []int{3, 5, 8}, 2, 1<<32 + 1, -1}, {4, []int{3, 5, 8}, 0, 1, -1}, {4, []int{3, 5, 8}, 13, 1, -1}, {4, []int{3, 5, 8}, -1, -1, -1}, {4, []int{3, 5, 16}, 2, 1, -1}, {4, []int{3, -5, 8}, 2, 1, -1},
		{3, crossed(), 2, 1, 3}, {3, crossed(), 2, 2, 2}, {3, crossed(), 2, 3, 1}, {1, ones, 12, 1, 12}, {1, ones, 12, 2, 6}, {1, ones, 12, 5, 3}, {1, ones, 12, 6, 2}, {1, ones, 12, 7, 2}, {1, ones, 12, 11, 2}, {1, ones, 12, 12, 1}, {1, ones, 12, 13, 1}, {1, append(ones[:12:12], 1), 12, 12, -1},
		{4, nil, 1, 1, 0}, {4, []int{}, 12, 24, 0}, {4, nil, 1, 25, -1}, {4, nil, 1, 0, -1}, {4, nil, 0, 1, -1}, {4, nil, 13, 1, -1}, {0, nil, 1, 1, -1}, {11, nil, 1, 1, -1}, {1, nil, 1, 1, 0}, {10, nil, 1, 1, 0}, {math.MinInt, nil, 1, 1, -1}, {math.MaxInt, nil, 1, 1, -1}, {4, nil, math.MinInt, 1, -1}, {4, nil, math.MaxInt, 1, -1},
	}
	for _, c := range named {
		if got := impl.DaysFor(c.n, c.pools, c.machines, c.perDay); got != c.want {
			t.Errorf("DaysFor(%d, %v, %d, %d) = %d, want %d", c.n, c.pools, c.machines, c.perDay, got, c.want)
		}
	}
}

func TestP9DaysFor(t *testing.T) {
	for i, b := range roundBenches() {
		for machines := 1 + i%3; machines <= 12; machines += 3 {
			rounds := len(wantGreedy(b.pools, machines))
			for perDay := 1; perDay <= 24; perDay++ {
				if got := impl.DaysFor(b.n, b.pools, machines, perDay); got != wantTimes(rounds, perDay) {
					t.Fatalf("DaysFor(%d, %v, %d, %d) = %d, want %d", b.n, b.pools, machines, perDay, got, wantTimes(rounds, perDay))
				}
			}
		}
	}
	for _, perDay := range someInts() {
		want := -1
		if perDay >= 1 && perDay <= 24 {
			want = wantTimes(12, perDay)
		}
		if got := impl.DaysFor(1, slices.Repeat([]int{1}, 12), 12, perDay); got != want {
			t.Fatalf("DaysFor(1, 12 times the same, 12, %d) = %d, want %d", perDay, got, want)
		}
		if got := impl.DaysFor(1, nil, 12, perDay); got != min(want, 0) {
			t.Fatalf("DaysFor(1, nil, 12, %d) = %d, want %d", perDay, got, min(want, 0))
		}
	}
}

// checkNoRounds reports what does not fail for pools or machines that are not valid, whatever the rounds are.
func checkNoRounds(t *testing.T, b bench, machines int) {
	t.Helper()
	rounds, ok := impl.GreedyRounds(b.n, b.pools, machines)
	if ok || len(rounds) > 0 {
		t.Fatalf("GreedyRounds(%d, %v, %d) = %v, %v", b.n, b.pools[:min(len(b.pools), 14)], machines, rounds, ok)
	}
	for _, perDay := range []int{1, 24, 0, 25} {
		if got := impl.DaysFor(b.n, b.pools, machines, perDay); got != -1 {
			t.Fatalf("DaysFor(%d, %v, %d, %d) = %d", b.n, b.pools[:min(len(b.pools), 14)], machines, perDay, got)
		}
	}
	bound, fewest := impl.RoundBound(b.n, b.pools, machines), impl.FewestRounds(b.n, b.pools, machines)
	if bound != -1 || fewest != -1 {
		t.Fatalf("RoundBound(%d, %v, %d) = %d, FewestRounds is %d", b.n, b.pools[:min(len(b.pools), 14)], machines, bound, fewest)
	}
	var single [][]int
	for i := range b.pools {
		single = append(single, []int{i})
	}
	for _, rounds := range [][][]int{nil, {}, {{}}, {{0}}, single, {itemsUpTo(len(b.pools))}} {
		if impl.RoundsOk(b.n, b.pools, machines, rounds) {
			t.Fatalf("RoundsOk(%d, %v, %d, ..)", b.n, b.pools[:min(len(b.pools), 14)], machines)
		}
	}
}

func TestP9RoundsInvalid(t *testing.T) {
	for _, b := range wrongBenches() {
		for _, machines := range []int{1, 2, 12, 0, 13, math.MaxInt} {
			checkNoRounds(t, b, machines)
		}
		if got := impl.UsesOf(b.n, b.pools); len(got) > 0 {
			t.Fatalf("UsesOf(%d, %v) = %v", b.n, b.pools[:min(len(b.pools), 14)], got)
		}
	}
	for _, n := range someInts() {
		if n < 1 || n > 10 {
			checkNoRounds(t, bench{n, nil}, 1)
			checkNoRounds(t, bench{n, []int{0, 0}}, 12)
		}
	}
	for _, machines := range wrongMachines() {
		for _, b := range []bench{{1, nil}, {4, []int{3, 5, 8}}, {10, make([]int, 12)}} {
			checkNoRounds(t, b, machines)
		}
	}
	for _, b := range someBenches() {
		for _, machines := range fewWrongMachines() {
			checkNoRounds(t, b, machines)
		}
	}
}

// guardedRounds returns rounds with more behind each list and behind all of them, and those behind.
func guardedRounds(rounds [][]int) ([][]int, [][]int) {
	var whole [][]int
	for _, indices := range rounds {
		whole = append(whole, guarded(indices...).list)
	}
	whole = append(whole, []int{71}, []int{72, 73}, nil)
	return whole[:len(rounds)], whole
}

// roundsInFull copies rounds with all that lies behind them.
func roundsInFull(rounds [][]int) [][]int {
	var full [][]int
	for _, indices := range rounds {
		full = append(full, slices.Clone(indices[:cap(indices)]))
	}
	return full
}

// P9: pools, rounds and the room behind them stay as they are, and results share no memory with them.
func TestP9RoundsArguments(t *testing.T) {
	wrong := []bench{{0, []int{1}}, {11, []int{1}}, {3, []int{8, 1}}, {3, []int{1, -1}}, {3, make([]int, 13)}, {math.MinInt, []int{1, 2}}, {math.MaxInt, nil}}
	for _, b := range slices.Concat(someBenches(), ringBenches(), wrong) {
		for _, machines := range []int{1, 2, 3, 12, 0, 13} {
			pools := guarded(b.pools...)
			for _, list := range [][][]int{wantGreedy(b.pools, max(machines, 1)), {{2, 1, 0}, {}, {-1, 5}}, {{0, 0}, {1}}, nil} {
				rounds, whole := guardedRounds(list)
				before := roundsInFull(whole)
				impl.RoundsOk(b.n, pools.list, machines, rounds)
				if !pools.same() || !sameRounds(roundsInFull(whole), before) {
					t.Fatalf("RoundsOk changes an argument: %v, %v", pools.whole, whole)
				}
			}
			made, _ := impl.GreedyRounds(b.n, pools.list, machines)
			uses := impl.UsesOf(b.n, pools.list)
			impl.RoundBound(b.n, pools.list, machines)
			impl.FewestRounds(b.n, pools.list, machines)
			impl.DaysFor(b.n, pools.list, machines, 2)
			if !pools.same() {
				t.Fatalf("the pools were changed: %v", pools.whole)
			}
			spoil(append(made, uses)...)
			if !pools.same() {
				t.Fatalf("a result shares memory with the pools: %v", pools.whole)
			}
		}
	}
}

// P9: no result depends on the room behind an argument.
func TestP9RoundsCapacity(t *testing.T) {
	for i, b := range append(someBenches(), ringBenches()...) {
		machines := 1 + i%12
		short, long := slices.Clip(slices.Clone(b.pools)), append(make([]int, 0, 40), b.pools...)
		rounds, _ := guardedRounds(wantGreedy(b.pools, machines))
		clipped := slices.Clip(rounds)
		if !sameRounds(greedy(t, bench{b.n, short}, machines), greedy(t, bench{b.n, long}, machines)) || !impl.RoundsOk(b.n, short, machines, clipped) || !impl.RoundsOk(b.n, long, machines, rounds) {
			t.Fatalf("%d items, pools %v, %d machines: the rounds depend on a capacity", b.n, b.pools, machines)
		}
		if impl.RoundBound(b.n, short, machines) != impl.RoundBound(b.n, long, machines) || impl.FewestRounds(b.n, short, machines) != impl.FewestRounds(b.n, long, machines) || !slices.Equal(impl.UsesOf(b.n, short), impl.UsesOf(b.n, long)) {
			t.Fatalf("%d items, pools %v, %d machines: a number depends on a capacity", b.n, b.pools, machines)
		}
	}
}

// P9: no two rounds of one result share memory, nor do two results.
func TestP9RoundsResults(t *testing.T) {
	for i, b := range append(someBenches(), ringBenches()...) {
		machines := 1 + i%12
		want := wantGreedy(b.pools, machines)
		first, second := greedy(t, b, machines), greedy(t, b, machines)
		for k := range first {
			spoil(first[k])
			if !sameRounds(first[k+1:], want[k+1:]) {
				t.Fatalf("GreedyRounds(%d, %v, %d): two rounds share memory: %v, want %v", b.n, b.pools, machines, first, want)
			}
		}
		for k := len(second) - 1; k > 0; k-- {
			spoil(second[k])
			if !sameRounds(second[:k], want[:k]) {
				t.Fatalf("GreedyRounds(%d, %v, %d): two rounds share memory: %v, want %v", b.n, b.pools, machines, second, want)
			}
		}
		if got := greedy(t, b, machines); !sameRounds(got, want) {
			t.Fatalf("GreedyRounds(%d, %v, %d): two results share memory: %v, want %v", b.n, b.pools, machines, got, want)
		}
	}
	checkApart(t, []func(n int) ([]int, bool){
		func(n int) ([]int, bool) { return impl.UsesOf(n, singles(n)), true },
		func(n int) ([]int, bool) { return impl.UsesOf(n, nil), true },
		func(n int) ([]int, bool) { return slices.Concat(greedy(t, bench{n, bitPairs(n)}, n)...), true }})
}

// P9: a nil slice and an empty one are the same.
func TestP9RoundsNil(t *testing.T) {
	for n := -1; n <= 12; n++ {
		for machines := -1; machines <= 14; machines++ {
			valid := n >= 1 && n <= 10 && machines >= 1 && machines <= 12
			want := map[bool]int{true: 0, false: -1}[valid]
			for _, pools := range [][]int{nil, {}} {
				rounds, ok := impl.GreedyRounds(n, pools, machines)
				if ok != valid || len(rounds) > 0 || impl.RoundBound(n, pools, machines) != want || impl.FewestRounds(n, pools, machines) != want || impl.DaysFor(n, pools, machines, 1) != want {
					t.Errorf("%d items, pools %#v, %d machines: GreedyRounds is %v, %v", n, pools, machines, rounds, ok)
				}
				for _, none := range [][][]int{nil, {}, {nil}, {{}}, {nil, {}}} {
					if impl.RoundsOk(n, pools, machines, none) != valid {
						t.Errorf("RoundsOk(%d, %#v, %d, %#v) = %v", n, pools, machines, none, !valid)
					}
					if impl.RoundsOk(n, []int{0}, machines, none) {
						t.Errorf("RoundsOk(%d, [0], %d, %#v)", n, machines, none)
					}
				}
				if uses := impl.UsesOf(n, pools); n >= 1 && n <= 10 && !slices.Equal(uses, make([]int, n)) || (n < 1 || n > 10) && len(uses) > 0 {
					t.Errorf("UsesOf(%d, %#v) = %v", n, pools, uses)
				}
			}
		}
	}
}

// P9: a call that is repeated many times, with other calls in between, returns the same.
func TestP9RoundsRepeated(t *testing.T) {
	pools := []int{3, 5, 8}
	for range 2000 {
		two, ok := impl.GreedyRounds(4, pools, 2)
		one, fine := impl.GreedyRounds(4, pools, 1)
		none, wrong := impl.GreedyRounds(3, pools, 2)
		if !ok || !sameRounds(two, [][]int{{0, 2}, {1}}) || !fine || !sameRounds(one, [][]int{{0}, {1}, {2}}) || wrong || len(none) > 0 {
			t.Fatalf("GreedyRounds changes: %v, %v, %v, %v, %v, %v", two, ok, one, fine, none, wrong)
		}
		if !impl.RoundsOk(4, pools, 2, two) || impl.RoundsOk(4, pools, 1, two) || !impl.RoundsOk(4, pools, 2, one) || impl.RoundsOk(4, pools, 2, two[:1]) || impl.RoundsOk(3, pools, 2, two) {
			t.Fatal("RoundsOk changes")
		}
		uses, few := impl.UsesOf(4, pools), impl.UsesOf(3, pools[:2])
		if !slices.Equal(uses, []int{2, 1, 1, 1}) || !slices.Equal(few, []int{2, 1, 1}) || len(impl.UsesOf(3, pools)) > 0 {
			t.Fatalf("UsesOf changes: %v, %v", uses, few)
		}
		if impl.RoundBound(4, pools, 2) != 2 || impl.RoundBound(4, pools, 1) != 3 || impl.RoundBound(4, pools, 13) != -1 || impl.RoundBound(3, []int{3, 5, 6}, 3) != 2 {
			t.Fatal("RoundBound changes")
		}
		if impl.FewestRounds(4, pools, 2) != 2 || impl.FewestRounds(3, []int{3, 5, 6}, 3) != 3 || impl.FewestRounds(3, crossed(), 2) != 2 || impl.FewestRounds(3, make([]int, 8), 2) != -1 || impl.FewestRounds(7, ring(7), 2) != 4 {
			t.Fatal("FewestRounds changes")
		}
		if impl.DaysFor(4, pools, 2, 1) != 2 || impl.DaysFor(4, pools, 1, 2) != 2 || impl.DaysFor(4, pools, 1, 3) != 1 || impl.DaysFor(4, pools, 1, 25) != -1 {
			t.Fatal("DaysFor changes")
		}
		spoil(slices.Concat(two, one, [][]int{uses, few})...)
	}
	// The same slice with other contents are other pools.
	pools[2] = 9
	if rounds, _ := impl.GreedyRounds(4, pools, 2); !sameRounds(rounds, [][]int{{0}, {1}, {2}}) || impl.RoundBound(4, pools, 2) != 3 || impl.FewestRounds(4, pools, 2) != 3 || impl.DaysFor(4, pools, 2, 2) != 2 {
		t.Errorf("pools %v: GreedyRounds is %v", pools, rounds)
	}
}

// P9: every goroutine that a call starts has ended when it returns, also where the call fails.
func TestP9RoundsGoroutines(t *testing.T) {
	before := runtime.NumGoroutine()
	for i, b := range slices.Concat(smallBenches()[:200], someBenches(), ringBenches(), wrongBenches()[:100]) {
		machines := i % 14
		rounds, _ := impl.GreedyRounds(b.n, b.pools, machines)
		impl.RoundsOk(b.n, b.pools, machines, rounds)
		impl.RoundsOk(b.n, b.pools, machines, [][]int{{0, 1}, {-1}})
		impl.UsesOf(b.n, b.pools)
		impl.RoundBound(b.n, b.pools, machines)
		impl.FewestRounds(b.n, b.pools, machines)
		impl.DaysFor(b.n, b.pools, machines, i%26)
		if !endsWith(before) {
			t.Fatalf("%d items, pools %v: a goroutine does not end", b.n, b.pools[:min(len(b.pools), 14)])
		}
	}
}

// P9: calls at the same time do not disturb each other, also with the same pools.
func TestP9RoundsTogether(t *testing.T) {
	benches, all := append(someBenches(), ringBenches()...), allDivisions()
	wrong := make([]int, 8)
	var group sync.WaitGroup
	for worker := range wrong {
		group.Go(func() {
			for i := worker; i < len(benches); i += 5 {
				b, machines := benches[i], 1+i%12
				want := wantGreedy(b.pools, machines)
				rounds, ok := impl.GreedyRounds(b.n, b.pools, machines)
				if !ok || !sameRounds(rounds, want) || !impl.RoundsOk(b.n, b.pools, machines, want) || impl.RoundsOk(b.n, b.pools, machines, [][]int{{12}}) {
					wrong[worker]++
				}
				if !slices.Equal(impl.UsesOf(b.n, b.pools), wantUses(b.n, b.pools)) || impl.RoundBound(b.n, b.pools, machines) != wantRoundBound(b.n, b.pools, machines) || impl.DaysFor(b.n, b.pools, machines, 1) != len(want) {
					wrong[worker]++
				}
				if len(b.pools) <= 7 && impl.FewestRounds(b.n, b.pools, machines) != wantFewestRounds(b.pools, machines, all[len(b.pools)]) {
					wrong[worker]++
				}
			}
		})
	}
	group.Wait()
	if slices.Max(wrong) > 0 {
		t.Errorf("wrong answers: %v", wrong)
	}
}

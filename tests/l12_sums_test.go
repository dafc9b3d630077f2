package tests

import (
	"fmt"
	"math"
	"runtime"
	"slices"
	"sync"
	"testing"

	"loop.example/g01040/impl"
)

// wantSums counts, for each pool, its items that are among the bad ones.
func wantSums(pools []int, bad int) []int {
	var sums []int
	for _, pool := range pools {
		count := 0
		for _, item := range wantItems(pool) {
			if slices.Contains(wantItems(bad), item) {
				count++
			}
		}
		sums = append(sums, count)
	}
	return sums
}

// sumText tells lists of numbers apart: their counts too.
func sumText(sums []int) string { return fmt.Sprint(len(sums), sums) }

// wantSameSums notes, in ascending order, the sets that have the same numbers.
func wantSameSums(n int, pools []int) map[string][]int {
	same := map[string][]int{}
	for set := range setsUpTo(n) {
		text := sumText(wantSums(pools, set))
		same[text] = append(same[text], set)
	}
	return same
}

// wantTell takes for granted that the pools are valid.
func wantTell(n int, pools []int) int { return len(wantSameSums(n, pools)) }

// wantDetecting takes it for granted too.
func wantDetecting(n int, pools []int) bool {
	for _, sets := range wantSameSums(n, pools) {
		if len(sets) > 1 {
			return false
		}
	}
	return true
}

// wantFirstDetecting tries all ascending lists of pools, the shorter ones first.
func wantFirstDetecting(n int) []int {
	var first []int
	for _, pools := range poolLists(n, n) {
		if first != nil && len(pools) > len(first) {
			break
		}
		if wantDetecting(n, pools) && (first == nil || slices.Compare(pools, first) < 0) {
			first = pools
		}
	}
	return first
}

// fourInThree are detecting pools of four items, in all orders.
func fourInThree() [][]int {
	return [][]int{{3, 5, 14}, {3, 14, 5}, {5, 3, 14}, {5, 14, 3}, {14, 3, 5}, {14, 5, 3}}
}

// detectingBenches are detecting pools of up to ten items, as few and as many as there may be.
func detectingBenches() []bench {
	list := []bench{{8, []int{3, 5, 14, 48, 80, 224}}, {9, []int{3, 5, 14, 48, 80, 224, 256}}, {10, []int{3, 5, 14, 48, 80, 224, 256, 512}}, {9, lines()}}
	for n := 1; n <= 10; n++ {
		list = append(list, bench{n, singles(n)}, bench{n, append(slices.Repeat([]int{0}, 12-n), singles(n)...)}, bench{n, append(singles(n), slices.Repeat([]int{setsUpTo(n) - 1}, 12-n)...)}, bench{n, append(singles(n)[1:], setsUpTo(n)-1)})
	}
	for n := 4; n <= 10; n++ {
		for _, pools := range fourInThree() {
			list = append(list, bench{n, append(pools, singles(n)[4:]...)})
		}
	}
	return list
}

// sumBenches are valid pools of all kinds.
func sumBenches() []bench { return append(allBenches(), detectingBenches()...) }

// shortSumBenches are fewer of them, for what takes long.
func shortSumBenches() []bench {
	var list []bench
	for i, b := range sumBenches() {
		if i%17 == 3 || b.n > 3 && i%5 == 2 {
			list = append(list, b)
		}
	}
	return append(list, detectingBenches()...)
}

// summed returns the numbers of valid pools for a bad set.
func summed(t *testing.T, b bench, bad int) []int {
	t.Helper()
	sums, ok := impl.SumPools(b.n, b.pools, bad)
	if !ok || len(sums) != len(b.pools) {
		t.Fatalf("SumPools(%d, %v, %d) = %v, %v", b.n, b.pools, bad, sums, ok)
	}
	return sums
}

// someSums returns numbers of the pools for some bad sets, and others, which mostly no set has.
func someSums(b bench) [][]int {
	list := [][]int{make([]int, len(b.pools)), slices.Repeat([]int{1}, len(b.pools)), slices.Repeat([]int{b.n}, len(b.pools)), slices.Repeat([]int{-1}, len(b.pools))}
	if len(b.pools) == 0 {
		return list
	}
	for i, bad := range someBad(b.n, 211) {
		sums := wantSums(b.pools, bad)
		list = append(list, sums)
		for _, wrong := range []int{sums[i%len(sums)] + 1, sums[i%len(sums)] - 1, -sums[i%len(sums)], sums[i%len(sums)] + 256, sums[i%len(sums)] + 1<<32, math.MinInt, math.MaxInt} {
			other := slices.Clone(sums)
			other[i%len(other)] = wrong
			list = append(list, other)
		}
	}
	return list
}

// wrongSumCounts returns fewer and more numbers than these.
func wrongSumCounts(sums []int) [][]int {
	list := [][]int{append(slices.Clone(sums), 0), append(slices.Clone(sums), 1), append(slices.Clone(sums), -1), append(slices.Clone(sums), make([]int, 12-min(len(sums), 11))...), append(slices.Clone(sums), make([]int, 13)...), append(slices.Clone(sums), make([]int, 65536)...)}
	if len(sums) > 0 {
		list = append(list, nil, []int{}, sums[1:], sums[:len(sums)-1])
	}
	return list
}

// P6: the numbers tell at least as much as the results of the same pools: a result is positive exactly if its number is not 0,
// so that sets with the same numbers have the same results.
func TestP6SumsTellResults(t *testing.T) {
	more := 0
	for _, b := range sumBenches() {
		results := map[string]string{}
		different := map[string]bool{}
		for bad := range setsUpTo(b.n) {
			sums, positive := summed(t, b, bad), tested(t, b, bad)
			for i, sum := range sums {
				if sum < 0 || positive[i] != (sum > 0) {
					t.Fatalf("%d items, pools %v, %d is bad: the numbers are %v, the results %v", b.n, b.pools, bad, sums, positive)
				}
			}
			if known, ok := results[sumText(sums)]; ok && known != resultText(positive) {
				t.Fatalf("%d items, pools %v: the numbers %v have the results %q and %q", b.n, b.pools, sums, known, resultText(positive))
			}
			results[sumText(sums)] = resultText(positive)
			different[resultText(positive)] = true
		}
		got := impl.SumsTell(b.n, b.pools)
		if got < len(different) {
			t.Fatalf("SumsTell(%d, %v) = %d, and there are %d different results", b.n, b.pools, got, len(different))
		}
		if got > len(different) {
			more++
		}
	}
	if more < 1000 {
		t.Errorf("only %d pools tell more by their numbers", more)
	}
}

// P6: separable pools for all sets are detecting.
func TestP6SeparableDetecting(t *testing.T) {
	for _, b := range sumBenches() {
		if b.n <= 3 && impl.IsSeparable(b.n, b.pools, 3) && !impl.IsDetecting(b.n, b.pools) {
			t.Fatalf("%d items, pools %v are separable for all sets, but not detecting", b.n, b.pools)
		}
	}
}

// P6: SumsTell counts the different lists of numbers, and the pools are detecting exactly if there are as many as sets.
func TestP6SumsTell(t *testing.T) {
	found := map[bool]int{}
	for _, b := range sumBenches() {
		different := map[string]bool{}
		for bad := range setsUpTo(b.n) {
			different[sumText(summed(t, b, bad))] = true
		}
		if got := impl.SumsTell(b.n, b.pools); got != len(different) {
			t.Fatalf("SumsTell(%d, %v) = %d, want %d", b.n, b.pools, got, len(different))
		}
		all := len(different) == setsUpTo(b.n)
		if impl.IsDetecting(b.n, b.pools) != all {
			t.Fatalf("IsDetecting(%d, %v) = %v, %d of %d lists of numbers are different", b.n, b.pools, !all, len(different), setsUpTo(b.n))
		}
		found[all]++
	}
	if found[true] < 500 || found[false] < 500 {
		t.Errorf("detecting or not: %v", found)
	}
}

// P6: DecodeSums returns the bad set, alone exactly if the pools are detecting for it, and each set for one list of numbers only.
func TestP6DecodeSums(t *testing.T) {
	for i, b := range shortSumBenches() {
		if b.n > 7 && i%6 > 0 {
			continue
		}
		alone := true
		decoded := map[string][]int{}
		for bad := range setsUpTo(b.n) {
			sums := summed(t, b, bad)
			sets, known := decoded[sumText(sums)]
			if !known {
				sets = impl.DecodeSums(b.n, b.pools, sums)
				decoded[sumText(sums)] = sets
			}
			if !slices.Contains(sets, bad) {
				t.Fatalf("DecodeSums(%d, %v, %v) = %v, the bad set is %d", b.n, b.pools, sums, sets, bad)
			}
			alone = alone && len(sets) == 1
		}
		if impl.IsDetecting(b.n, b.pools) != alone {
			t.Fatalf("IsDetecting(%d, %v) = %v", b.n, b.pools, !alone)
		}
		total := 0
		for _, sets := range decoded {
			total += len(sets)
		}
		if total != setsUpTo(b.n) || len(decoded) != impl.SumsTell(b.n, b.pools) {
			t.Fatalf("%d items, pools %v: %d lists of numbers have %d sets, SumsTell is %d", b.n, b.pools, len(decoded), total, impl.SumsTell(b.n, b.pools))
		}
	}
}

// P6: FirstDetecting returns an ascending list of FewestSums detecting pools; no lesser one is detecting, and no fewer pools are, in any order.
func TestP6FirstDetecting(t *testing.T) {
	for n := 1; n <= 4; n++ {
		first, ok := impl.FirstDetecting(n)
		if !ok || !impl.IsDetecting(n, first) || len(first) != impl.FewestSums(n) {
			t.Fatalf("FirstDetecting(%d) = %v, %v, FewestSums is %d", n, first, ok, impl.FewestSums(n))
		}
		for i := 1; i < len(first); i++ {
			if first[i-1] >= first[i] {
				t.Errorf("FirstDetecting(%d) = %v", n, first)
			}
		}
		for _, pools := range poolLists(n, len(first)) {
			lesser := len(pools) == len(first) && slices.Compare(pools, first) < 0
			if (lesser || len(pools) < len(first)) && impl.IsDetecting(n, pools) {
				t.Fatalf("FirstDetecting(%d) = %v, but %v are detecting", n, first, pools)
			}
		}
		for _, pools := range allLists(itemsUpTo(setsUpTo(n)), len(first)-1) {
			if impl.IsDetecting(n, pools) {
				t.Fatalf("FewestSums(%d) = %d, but %v are detecting", n, len(first), pools)
			}
		}
	}
}

// P6: the pools of ExtendDetecting are detecting again, as often as there may be a further item and a further pool.
func TestP6ExtendDetecting(t *testing.T) {
	extended := 0
	for _, b := range sumBenches() {
		for impl.IsDetecting(b.n, b.pools) {
			more, ok := impl.ExtendDetecting(b.n, b.pools)
			if ok != (b.n < 10 && len(b.pools) < 12) {
				t.Fatalf("ExtendDetecting(%d, %v) = %v, %v", b.n, b.pools, more, ok)
			}
			if !ok {
				break
			}
			if !impl.IsDetecting(b.n+1, more) || impl.SumsTell(b.n+1, more) != 2*impl.SumsTell(b.n, b.pools) {
				t.Fatalf("ExtendDetecting(%d, %v) = %v, which is not detecting", b.n, b.pools, more)
			}
			extended++
			b = bench{b.n + 1, more}
			if extended%10 > 0 {
				break
			}
		}
	}
	if extended < 500 {
		t.Errorf("only %d pools are extended", extended)
	}
}

// P6: the fewest pools of four items, extended item by item, tell every set of up to ten items.
func TestP6ExtendedDecode(t *testing.T) {
	for n := 1; n <= 4; n++ {
		pools, _ := impl.FirstDetecting(n)
		b := bench{n, pools}
		for b.n < 10 {
			more, ok := impl.ExtendDetecting(b.n, b.pools)
			if !ok {
				t.Fatalf("ExtendDetecting(%d, %v) fails", b.n, b.pools)
			}
			b = bench{b.n + 1, more}
			for _, bad := range someBad(b.n, 37) {
				if got := impl.DecodeSums(b.n, b.pools, summed(t, b, bad)); !slices.Equal(got, []int{bad}) {
					t.Fatalf("%d items, pools %v: %d is decoded as %v", b.n, b.pools, bad, got)
				}
			}
		}
	}
}

func TestP9SumPoolsNamed(t *testing.T) {
	named := []struct {
		n     int
		pools []int
		bad   int
		want  []int
		ok    bool
	}{
		{4, []int{3, 5}, 3, []int{2, 1}, true}, {4, []int{3, 5}, 0, []int{0, 0}, true}, {4, []int{3, 5}, 1, []int{1, 1}, true}, {4, []int{3, 5}, 2, []int{1, 0}, true}, {4, []int{3, 5}, 4, []int{0, 1}, true}, {4, []int{3, 5}, 5, []int{1, 2}, true}, {4, []int{3, 5}, 8, []int{0, 0}, true}, {4, []int{3, 5}, 15, []int{2, 2}, true},
		{4, []int{5, 3}, 3, []int{1, 2}, true}, {4, []int{3, 5, 14}, 15, []int{2, 2, 3}, true}, {4, []int{3, 5, 14}, 10, []int{1, 0, 2}, true},
		// A pool 0, a pool of all items, the same pool twice.
		{4, []int{0}, 15, []int{0}, true}, {4, []int{15}, 0, []int{0}, true}, {4, []int{15}, 7, []int{3}, true}, {4, []int{15}, 15, []int{4}, true}, {4, []int{3, 3}, 3, []int{2, 2}, true}, {4, []int{0, 15, 0}, 9, []int{0, 2, 0}, true},
		// No pools.
		{4, nil, 0, nil, true}, {4, []int{}, 15, nil, true}, {1, nil, 1, nil, true}, {10, nil, 1023, nil, true}, {4, nil, 16, nil, false}, {4, nil, -1, nil, false},
		{1, []int{1}, 0, []int{0}, true}, {1, []int{1}, 1, []int{1}, true}, {1, []int{0}, 1, []int{0}, true}, {1, []int{1}, 2, nil, false}, {1, []int{1}, -1, nil, false},
		{10, []int{1023, 512, 1, 0}, 1023, []int{10, 1, 1, 0}, true}, {10, []int{1023, 512, 1, 0}, 512, []int{1, 1, 0, 0}, true}, {10, []int{1023, 511}, 1022, []int{9, 8}, true}, {10, slices.Repeat([]int{1023}, 12), 1023, slices.Repeat([]int{10}, 12), true},
		// Other sets.
		{4, []int{3, 5}, -1, nil, false}, {4, []int{3, 5}, 16, nil, false}, {4, []int{3, 5}, 17, nil, false}, {4, []int{3, 5}, math.MinInt, nil, false}, {4, []int{3, 5}, math.MaxInt, nil, false}, {4, []int{3, 5}, 1<<32 + 3, nil, false}, {10, []int{1023}, 1024, nil, false}, {10, []int{1023}, -1, nil, false},
		// Other n, and pools that are not valid.
		{0, nil, 0, nil, false}, {0, []int{0}, 0, nil, false}, {0, []int{1}, 1, nil, false}, {11, nil, 0, nil, false}, {11, []int{1}, 1, nil, false}, {math.MinInt, nil, 0, nil, false}, {math.MaxInt, nil, 0, nil, false}, {math.MaxInt, []int{1}, 1, nil, false}, {-1, []int{0}, 0, nil, false}, {64, []int{1}, 1, nil, false},
		{3, []int{8}, 1, nil, false}, {3, []int{-1}, 1, nil, false}, {3, []int{1, 8}, 1, nil, false}, {3, []int{1, -1}, 1, nil, false}, {3, make([]int, 12), 1, make([]int, 12), true}, {3, make([]int, 13), 1, nil, false}, {10, slices.Repeat([]int{1023}, 13), 1023, nil, false},
	}
	for _, c := range named {
		if got, ok := impl.SumPools(c.n, c.pools, c.bad); ok != c.ok || !slices.Equal(got, c.want) {
			t.Errorf("SumPools(%d, %v, %d) = %v, %v, want %v, %v", c.n, c.pools, c.bad, got, ok, c.want, c.ok)
		}
	}
}

func TestP9SumPools(t *testing.T) {
	for _, b := range sumBenches() {
		for _, bad := range someBad(b.n, 3) {
			if got, ok := impl.SumPools(b.n, b.pools, bad); !ok || !slices.Equal(got, wantSums(b.pools, bad)) {
				t.Fatalf("SumPools(%d, %v, %d) = %v, %v", b.n, b.pools, bad, got, ok)
			}
		}
		for _, bad := range wrongSets(b.n) {
			if got, ok := impl.SumPools(b.n, b.pools, bad); ok || len(got) > 0 {
				t.Fatalf("SumPools(%d, %v, %d) = %v, %v", b.n, b.pools, bad, got, ok)
			}
		}
	}
	for _, b := range wrongBenches() {
		for _, bad := range []int{0, 1, 2, 15, 1023, -1, 1024, math.MinInt, math.MaxInt} {
			if got, ok := impl.SumPools(b.n, b.pools, bad); ok || len(got) > 0 {
				t.Fatalf("SumPools(%d, %v, %d) = %v, %v", b.n, b.pools[:min(len(b.pools), 14)], bad, got, ok)
			}
		}
	}
}

// P9: how many lists of numbers there are; the pools are detecting where this is the number of all sets.
func TestP9DetectingNamed(t *testing.T) {
	named := []struct {
		n         int
		pools     []int
		tell      int
		detecting bool
	}{
		{4, []int{3, 5}, 7, false}, {4, []int{3, 5, 14}, 16, true}, {4, []int{14, 5, 3}, 16, true}, {4, []int{3, 5, 9}, 15, false}, {4, []int{1, 2, 4}, 8, false}, {4, []int{1, 2, 4, 8}, 16, true}, {4, []int{7, 11, 13}, 16, true}, {4, []int{3, 12}, 9, false}, {4, []int{10, 5, 12, 3}, 15, false}, {4, []int{3, 5, 6, 9, 10, 12}, 16, true},
		{3, []int{3, 5, 6}, 8, true}, {3, []int{3, 6}, 7, false}, {3, []int{1, 2, 4}, 8, true}, {3, []int{1, 2}, 4, false}, {5, []int{3, 5, 14}, 16, false}, {5, []int{3, 5, 14, 16}, 32, true},
		{8, []int{3, 5, 14, 48, 80, 224}, 256, true}, {9, lines(), 512, true}, {9, lines()[:9], 490, false}, {9, lines()[:6], 328, false}, {10, bitPairs(10), 524, false},
		// No pools: all sets have no numbers.
		{1, nil, 1, false}, {1, []int{}, 1, false}, {4, nil, 1, false}, {5, nil, 1, false}, {10, nil, 1, false}, {10, []int{}, 1, false},
		// A pool 0, a pool of all items, the same pool twice.
		{1, []int{0}, 1, false}, {1, []int{1}, 2, true}, {1, []int{0, 1}, 2, true}, {1, []int{1, 1}, 2, true}, {4, []int{15}, 5, false}, {10, []int{1023}, 11, false}, {10, []int{0}, 1, false}, {2, []int{3}, 3, false}, {2, []int{3, 1}, 4, true}, {2, []int{1, 1}, 2, false}, {2, []int{3, 3}, 3, false}, {3, []int{3, 3}, 3, false}, {3, []int{7, 1, 2}, 8, true}, {3, []int{1, 2, 4, 4}, 8, true}, {4, []int{15, 3, 5}, 15, false}, {4, []int{15, 1, 2}, 12, false}, {4, []int{15, 1, 2, 4}, 16, true},
		// Twelve pools and thirteen.
		{10, singles(10), 1024, true}, {10, append(singles(10), 0, 1023), 1024, true}, {10, append(singles(10), 0, 0, 0), -1, false}, {10, slices.Repeat([]int{1023}, 12), 11, false}, {10, slices.Repeat([]int{1023}, 13), -1, false}, {1, make([]int, 12), 1, false}, {1, make([]int, 13), -1, false}, {1, slices.Repeat([]int{1}, 12), 2, true}, {1, slices.Repeat([]int{1}, 13), -1, false}, {4, append(make([]int, 9), 3, 5, 14), 16, true}, {4, append(make([]int, 10), 3, 5, 14), -1, false},
		// Other n, and pools that are not valid.
		{0, nil, -1, false}, {0, []int{}, -1, false}, {0, []int{0}, -1, false}, {0, []int{1}, -1, false}, {11, nil, -1, false}, {11, singles(10), -1, false}, {11, singles(11), -1, false}, {-1, nil, -1, false}, {64, nil, -1, false}, {64, []int{1}, -1, false}, {math.MinInt, nil, -1, false}, {math.MinInt, []int{1}, -1, false}, {math.MaxInt, nil, -1, false}, {math.MaxInt, []int{1}, -1, false},
		{1, []int{2}, -1, false}, {1, []int{1, 2}, -1, false}, {1, []int{-1}, -1, false}, {1, []int{1, -1}, -1, false}, {3, []int{1, 2, 4, 8}, -1, false}, {3, []int{8, 1, 2, 4}, -1, false}, {10, append(singles(10), 1024), -1, false}, {10, append(singles(10), math.MinInt), -1, false}, {10, append(singles(10), math.MaxInt), -1, false},
	}
	for _, c := range named {
		if got := impl.SumsTell(c.n, c.pools); got != c.tell {
			t.Errorf("SumsTell(%d, %v) = %d, want %d", c.n, c.pools, got, c.tell)
		}
		if got := impl.IsDetecting(c.n, c.pools); got != c.detecting {
			t.Errorf("IsDetecting(%d, %v) = %v", c.n, c.pools, got)
		}
	}
}

// P9: both against the sets that have the same numbers.
func TestP9Detecting(t *testing.T) {
	for _, b := range sumBenches() {
		if got, want := impl.SumsTell(b.n, b.pools), wantTell(b.n, b.pools); got != want {
			t.Fatalf("SumsTell(%d, %v) = %d, want %d", b.n, b.pools, got, want)
		}
		if got := impl.IsDetecting(b.n, b.pools); got != wantDetecting(b.n, b.pools) {
			t.Fatalf("IsDetecting(%d, %v) = %v", b.n, b.pools, got)
		}
	}
}

// P9: nothing is told by pools that are not valid, or of another number of items.
func TestP9SumsInvalid(t *testing.T) {
	check := func(b bench) {
		few := b.pools[:min(len(b.pools), 14)]
		if got := impl.SumsTell(b.n, b.pools); got != -1 || impl.IsDetecting(b.n, b.pools) {
			t.Fatalf("SumsTell(%d, %v) = %d, IsDetecting is %v", b.n, few, got, impl.IsDetecting(b.n, b.pools))
		}
		if got, ok := impl.ExtendDetecting(b.n, b.pools); ok || len(got) > 0 {
			t.Fatalf("ExtendDetecting(%d, %v) = %v, %v", b.n, few, got, ok)
		}
		for _, sums := range [][]int{nil, {}, make([]int, len(b.pools)), slices.Repeat([]int{1}, len(b.pools)), wantSums(b.pools, 1), {0}, {1, 0}} {
			if got := impl.DecodeSums(b.n, b.pools, sums); len(got) > 0 {
				t.Fatalf("DecodeSums(%d, %v, ..) = %v", b.n, few, got)
			}
		}
	}
	for _, b := range wrongBenches() {
		check(b)
	}
	for _, n := range append(someInts(), wrongItems()...) {
		if n >= 1 && n <= 10 {
			continue
		}
		for _, pools := range [][]int{nil, {1}, {1, 2}, {1, 2, 4}, {3, 5, 14}} {
			check(bench{n, pools})
		}
	}
}

func TestP9DecodeSumsNamed(t *testing.T) {
	named := []struct {
		n           int
		pools, sums []int
		want        []int
	}{
		{4, []int{3, 5, 14}, []int{2, 1, 1}, []int{3}}, {4, []int{3, 5, 14}, []int{0, 0, 0}, []int{0}}, {4, []int{3, 5, 14}, []int{2, 2, 3}, []int{15}}, {4, []int{14, 5, 3}, []int{1, 1, 2}, []int{3}},
		{4, []int{3, 5}, []int{0, 0}, []int{0, 8}}, {4, []int{3, 5}, []int{1, 1}, []int{1, 6, 9, 14}}, {4, []int{3, 5}, []int{2, 1}, []int{3, 11}}, {4, []int{3, 5}, []int{1, 2}, []int{5, 13}}, {4, []int{3, 5}, []int{2, 2}, []int{7, 15}}, {4, []int{3, 5}, []int{1, 0}, []int{2, 10}}, {4, []int{3, 5}, []int{0, 1}, []int{4, 12}},
		{3, []int{7}, []int{0}, []int{0}}, {3, []int{7}, []int{1}, []int{1, 2, 4}}, {3, []int{7}, []int{2}, []int{3, 5, 6}}, {3, []int{7}, []int{3}, []int{7}}, {1, []int{1}, []int{0}, []int{0}}, {1, []int{1}, []int{1}, []int{1}},
		// Numbers that no set has, negative ones among them.
		{4, []int{3, 5}, []int{2, 0}, nil}, {4, []int{3, 5}, []int{0, 2}, nil}, {4, []int{3, 5}, []int{3, 1}, nil}, {4, []int{3, 5}, []int{-1, 0}, nil}, {4, []int{3, 5}, []int{0, -1}, nil}, {4, []int{3, 5}, []int{-1, -1}, nil}, {4, []int{3, 5}, []int{math.MinInt, 1}, nil}, {4, []int{3, 5}, []int{1, math.MaxInt}, nil}, {4, []int{3, 5}, []int{256 + 1, 1}, nil}, {4, []int{3, 5}, []int{1, 1<<32 + 1}, nil},
		{3, []int{7}, []int{4}, nil}, {3, []int{7}, []int{-1}, nil}, {4, []int{3, 3}, []int{1, 2}, nil}, {4, []int{3, 3}, []int{1, 1}, []int{1, 2, 5, 6, 9, 10, 13, 14}}, {2, []int{0}, []int{1}, nil}, {2, []int{0}, []int{0}, []int{0, 1, 2, 3}}, {2, []int{0, 3}, []int{0, 1}, []int{1, 2}},
		// None, too few and too many numbers.
		{4, []int{3, 5}, nil, nil}, {4, []int{3, 5}, []int{}, nil}, {4, []int{3, 5}, []int{1}, nil}, {4, []int{3, 5}, []int{0}, nil}, {4, []int{3, 5}, []int{1, 1, 0}, nil}, {4, []int{3, 5}, []int{1, 1, 1}, nil}, {4, []int{3, 5}, []int{0, 0, 0}, nil}, {4, []int{3, 5}, make([]int, 12), nil}, {4, []int{3, 5}, make([]int, 13), nil}, {4, []int{3, 5, 0}, []int{1, 1}, nil}, {4, []int{3, 5, 0}, []int{1, 1, 0}, []int{1, 6, 9, 14}}, {4, []int{0}, nil, nil}, {4, []int{0, 0}, []int{0}, nil},
		// No pools.
		{2, nil, nil, []int{0, 1, 2, 3}}, {2, []int{}, []int{}, []int{0, 1, 2, 3}}, {1, nil, []int{}, []int{0, 1}}, {2, nil, []int{0}, nil}, {2, nil, []int{1}, nil}, {2, nil, make([]int, 12), nil},
		// Many items and pools.
		{10, singles(10), []int{1, 0, 0, 1, 1, 0, 0, 1, 0, 1}, []int{0b1010011001}}, {10, []int{1023}, []int{0}, []int{0}}, {10, []int{1023}, []int{10}, []int{1023}}, {10, []int{1023}, []int{1}, singles(10)}, {10, []int{1023}, []int{11}, nil}, {10, slices.Repeat([]int{1023}, 12), slices.Repeat([]int{10}, 12), []int{1023}}, {10, slices.Repeat([]int{1023}, 12), slices.Repeat([]int{10}, 11), nil}, {10, slices.Repeat([]int{1023}, 13), slices.Repeat([]int{10}, 13), nil},
		// Other n, and pools that are not valid.
		{0, nil, nil, nil}, {0, []int{}, []int{}, nil}, {0, []int{0}, []int{0}, nil}, {11, nil, nil, nil}, {11, []int{1}, []int{1}, nil}, {-1, nil, nil, nil}, {64, nil, nil, nil}, {math.MinInt, nil, nil, nil}, {math.MaxInt, nil, nil, nil}, {math.MinInt, []int{1}, []int{1}, nil}, {math.MaxInt, []int{1}, []int{1}, nil},
		{3, []int{8}, []int{0}, nil}, {3, []int{8}, []int{1}, nil}, {3, []int{-1}, []int{3}, nil}, {3, []int{1, 8}, []int{1, 0}, nil}, {3, []int{1, -1}, []int{1, 1}, nil}, {3, make([]int, 12), make([]int, 12), []int{0, 1, 2, 3, 4, 5, 6, 7}}, {3, make([]int, 13), make([]int, 13), nil},
	}
	for _, c := range named {
		if got := impl.DecodeSums(c.n, c.pools, c.sums); !slices.Equal(got, c.want) {
			t.Errorf("DecodeSums(%d, %v, %v) = %v, want %v", c.n, c.pools, c.sums, got, c.want)
		}
	}
}

// P9: of few items and pools, all numbers from -1 to one more than there are items, and fewer of them than pools.
func TestP9DecodeSumsAll(t *testing.T) {
	for _, b := range smallBenches() {
		same := wantSameSums(b.n, b.pools)
		var values []int
		for value := -1; value <= b.n+1; value++ {
			values = append(values, value)
		}
		for _, sums := range allLists(values, max(2, len(b.pools))) {
			if got := impl.DecodeSums(b.n, b.pools, sums); !slices.Equal(got, same[sumText(sums)]) {
				t.Fatalf("DecodeSums(%d, %v, %v) = %v, want %v", b.n, b.pools, sums, got, same[sumText(sums)])
			}
		}
	}
}

// P9: of more items and pools, the numbers of some sets, and others.
func TestP9DecodeSums(t *testing.T) {
	found := map[bool]int{}
	for _, b := range shortSumBenches() {
		same := wantSameSums(b.n, b.pools)
		for _, sums := range someSums(b) {
			want := same[sumText(sums)]
			if got := impl.DecodeSums(b.n, b.pools, sums); !slices.Equal(got, want) {
				t.Fatalf("DecodeSums(%d, %v, %v) = %v, want %v", b.n, b.pools, sums, got, want)
			}
			found[len(want) > 0]++
		}
		for _, sums := range wrongSumCounts(wantSums(b.pools, 1)) {
			if got := impl.DecodeSums(b.n, b.pools, sums); len(got) > 0 {
				t.Fatalf("DecodeSums(%d, %v, %d numbers) = %v", b.n, b.pools, len(sums), got)
			}
		}
	}
	if found[true] < 1000 || found[false] < 1000 {
		t.Errorf("decoded or not: %v", found)
	}
}

func TestP9FirstDetectingNamed(t *testing.T) {
	named := map[int][]int{1: {1}, 2: {1, 2}, 3: {1, 2, 4}, 4: {3, 5, 14}}
	for _, n := range slices.Concat(someInts(), farNumbers(), wrongItems()) {
		want, fine := named[n]
		fewest := -1
		if fine {
			fewest = len(want)
		}
		if got, ok := impl.FirstDetecting(n); ok != fine || !slices.Equal(got, want) {
			t.Errorf("FirstDetecting(%d) = %v, %v, want %v", n, got, ok, want)
		}
		if got := impl.FewestSums(n); got != fewest {
			t.Errorf("FewestSums(%d) = %d, want %d", n, got, fewest)
		}
	}
}

// P9: both by trying all ascending lists of pools.
func TestP9FirstDetectingTried(t *testing.T) {
	for n := 1; n <= 4; n++ {
		want := wantFirstDetecting(n)
		if got, ok := impl.FirstDetecting(n); !ok || !slices.Equal(got, want) || impl.FewestSums(n) != len(want) {
			t.Errorf("FirstDetecting(%d) = %v, %v, want %v, FewestSums is %d", n, got, ok, want, impl.FewestSums(n))
		}
	}
}

func TestP9ExtendDetectingNamed(t *testing.T) {
	named := []struct {
		n     int
		pools []int
		want  []int
	}{
		{2, []int{1, 2}, []int{1, 2, 4}}, {2, []int{2, 1}, []int{2, 1, 4}}, {1, []int{1}, []int{1, 2}}, {1, []int{0, 1}, []int{0, 1, 2}}, {4, []int{3, 5, 14}, []int{3, 5, 14, 16}}, {4, []int{14, 3, 5}, []int{14, 3, 5, 16}}, {5, []int{3, 5, 14, 16}, []int{3, 5, 14, 16, 32}}, {3, []int{4, 4, 2, 1}, []int{4, 4, 2, 1, 8}}, {8, []int{3, 5, 14, 48, 80, 224}, []int{3, 5, 14, 48, 80, 224, 256}},
		// MaxItems items.
		{9, singles(9), singles(10)}, {10, singles(10), nil}, {10, append(singles(10), 1023), nil}, {10, []int{3, 5, 14, 48, 80, 224, 256, 512}, nil}, {10, nil, nil},
		// MaxPools pools, and one fewer.
		{1, slices.Repeat([]int{1}, 11), append(slices.Repeat([]int{1}, 11), 2)}, {1, slices.Repeat([]int{1}, 12), nil}, {1, slices.Repeat([]int{1}, 13), nil}, {9, lines(), nil}, {9, append(singles(9), 0, 0), append(singles(9), 0, 0, 512)}, {9, append(singles(9), 0, 0, 0), nil}, {10, append(singles(10), 0, 1023), nil}, {4, append(make([]int, 9), 3, 5, 14), nil}, {4, append(make([]int, 8), 3, 5, 14), append(make([]int, 8), 3, 5, 14, 16)},
		// Pools that are not detecting.
		{2, []int{1}, nil}, {2, []int{3}, nil}, {2, []int{1, 1}, nil}, {2, []int{0}, nil}, {1, nil, nil}, {1, []int{}, nil}, {1, []int{0}, nil}, {4, nil, nil}, {4, []int{3, 5}, nil}, {4, []int{1, 2, 4}, nil}, {9, singles(8), nil}, {9, nil, nil}, {10, singles(9), nil}, {10, []int{1023}, nil}, {3, make([]int, 12), nil},
		// Other n, and pools that are not valid.
		{0, nil, nil}, {0, []int{1}, nil}, {0, []int{0}, nil}, {11, singles(10), nil}, {11, nil, nil}, {-1, []int{1}, nil}, {64, []int{1}, nil}, {math.MinInt, nil, nil}, {math.MaxInt, nil, nil}, {math.MinInt, []int{1}, nil}, {math.MaxInt, []int{1}, nil}, {2, []int{1, 2, 4}, nil}, {2, []int{1, 2, -1}, nil}, {2, []int{1, 2, math.MinInt}, nil}, {2, []int{1, 2, math.MaxInt}, nil},
	}
	for _, c := range named {
		if got, ok := impl.ExtendDetecting(c.n, c.pools); ok != (c.want != nil) || !slices.Equal(got, c.want) {
			t.Errorf("ExtendDetecting(%d, %v) = %v, %v, want %v", c.n, c.pools, got, ok, c.want)
		}
	}
	for n := 1; n <= 10; n++ {
		got, ok := impl.ExtendDetecting(n, singles(n))
		if n == 10 && (ok || len(got) > 0) || n < 10 && (!ok || !slices.Equal(got, singles(n+1))) {
			t.Errorf("ExtendDetecting(%d, %v) = %v, %v", n, singles(n), got, ok)
		}
	}
}

func TestP9ExtendDetecting(t *testing.T) {
	for _, b := range sumBenches() {
		var want []int
		if b.n < 10 && len(b.pools) < 12 && wantDetecting(b.n, b.pools) {
			want = append(slices.Clone(b.pools), setOf(b.n))
		}
		if got, ok := impl.ExtendDetecting(b.n, b.pools); ok != (want != nil) || !slices.Equal(got, want) {
			t.Fatalf("ExtendDetecting(%d, %v) = %v, %v, want %v", b.n, b.pools, got, ok, want)
		}
	}
}

// P9: pools, numbers and the room behind them stay as they are, and what is returned shares no memory with them.
func TestP9SumsArguments(t *testing.T) {
	benches := slices.Concat(someBenches(), detectingBenches(), []bench{{0, []int{1}}, {11, []int{1}}, {3, []int{8, 1}}, {3, []int{1, -1}}, {3, make([]int, 13)}, {math.MinInt, []int{1, 2}}, {math.MaxInt, nil}})
	for _, b := range benches {
		for _, numbers := range append(wrongSumCounts(wantSums(b.pools, 1))[:2], wantSums(b.pools, 1), make([]int, len(b.pools)), slices.Repeat([]int{-1}, len(b.pools))) {
			pools, answers := guarded(b.pools...), guarded(numbers...)
			impl.SumsTell(b.n, pools.list)
			impl.IsDetecting(b.n, pools.list)
			sums, _ := impl.SumPools(b.n, pools.list, 1)
			sets := impl.DecodeSums(b.n, pools.list, answers.list)
			more, _ := impl.ExtendDetecting(b.n, pools.list)
			if !pools.same() || !answers.same() {
				t.Fatalf("an argument was changed: %v, %v", pools.whole, answers.whole)
			}
			spoil(sums, sets, more)
			if !pools.same() || !answers.same() {
				t.Fatalf("a result shares memory with an argument: %v, %v", pools.whole, answers.whole)
			}
		}
	}
}

// P9: the pools and the numbers may be given in the same memory.
func TestP9SumsSharedArguments(t *testing.T) {
	for _, n := range []int{2, 3, 4} {
		for _, whole := range allLists([]int{0, 1, 2, 3}, 4) {
			for count := range len(whole) + 1 {
				pools, sums := whole[:count], whole[len(whole)-count:]
				want := wantSameSums(n, pools)[sumText(sums)]
				if got := impl.DecodeSums(n, pools, sums); !slices.Equal(got, want) {
					t.Fatalf("DecodeSums(%d, %v, %v) = %v, want %v", n, pools, sums, got, want)
				}
			}
		}
	}
}

// P9: no two results share memory.
func TestP9SumsResults(t *testing.T) {
	made := []func(n int) ([]int, bool){impl.FirstDetecting,
		func(n int) ([]int, bool) { return impl.SumPools(n, bitPairs(n), setsUpTo(n)-1) },
		func(n int) ([]int, bool) { return impl.SumPools(n, singles(n), 1) },
		func(n int) ([]int, bool) { return impl.DecodeSums(n, []int{1}, []int{1}), true },
		func(n int) ([]int, bool) { return impl.DecodeSums(n, nil, nil), true },
		func(n int) ([]int, bool) { return impl.ExtendDetecting(n, singles(n)) },
		func(n int) ([]int, bool) { return impl.ExtendDetecting(n, singles(n)[1:]) }}
	checkApart(t, made)
}

// P9: a nil slice and an empty one are the same.
func TestP9SumsNil(t *testing.T) {
	for n := -1; n <= 12; n++ {
		valid := n >= 1 && n <= 10
		for _, pools := range [][]int{nil, {}} {
			sums, ok := impl.SumPools(n, pools, 0)
			more, longer := impl.ExtendDetecting(n, pools)
			if ok != valid || len(sums) > 0 || longer || len(more) > 0 || impl.IsDetecting(n, pools) || (impl.SumsTell(n, pools) == 1) != valid {
				t.Errorf("%d items, pools %#v: SumPools is %v, %v, ExtendDetecting %v, %v, SumsTell %d", n, pools, sums, ok, more, longer, impl.SumsTell(n, pools))
			}
			for _, none := range [][]int{nil, {}} {
				got := impl.DecodeSums(n, pools, none)
				if valid && !slices.Equal(got, itemsUpTo(setsUpTo(n))) || !valid && len(got) > 0 {
					t.Errorf("DecodeSums(%d, %#v, %#v) = %v", n, pools, none, got)
				}
				if sets := impl.DecodeSums(n, []int{0}, none); len(sets) > 0 {
					t.Errorf("DecodeSums(%d, [0], %#v) = %v", n, none, sets)
				}
			}
		}
	}
}

// P9: a call that is repeated many times, with other calls in between, returns the same.
func TestP9SumsRepeated(t *testing.T) {
	pools, sums := []int{3, 5, 14}, []int{2, 1, 1}
	for i := range 1000 {
		one, ok := impl.SumPools(4, pools, 3)
		none, wrong := impl.SumPools(4, pools, 16)
		other, fine := impl.SumPools(5, pools[:2], 23)
		if !ok || !slices.Equal(one, sums) || wrong || len(none) > 0 || !fine || !slices.Equal(other, []int{2, 2}) {
			t.Fatalf("SumPools changes: %v, %v, %v, %v, %v, %v", one, ok, none, wrong, other, fine)
		}
		if !impl.IsDetecting(4, pools) || impl.IsDetecting(4, pools[:2]) || impl.IsDetecting(5, pools) || impl.IsDetecting(3, pools) {
			t.Fatal("IsDetecting changes")
		}
		if impl.SumsTell(4, pools) != 16 || impl.SumsTell(4, pools[:2]) != 7 || impl.SumsTell(5, pools) != 16 || impl.SumsTell(0, nil) != -1 || impl.SumsTell(4, nil) != 1 {
			t.Fatal("SumsTell changes")
		}
		sets, more, few := impl.DecodeSums(4, pools, sums), impl.DecodeSums(5, pools, sums), impl.DecodeSums(4, pools, sums[:2])
		if !slices.Equal(sets, []int{3}) || !slices.Equal(more, []int{3, 19}) || len(few) > 0 {
			t.Fatalf("DecodeSums changes: %v, %v, %v", sets, more, few)
		}
		longer, grown := impl.ExtendDetecting(4, pools)
		short, weak := impl.ExtendDetecting(4, pools[:2])
		if !grown || !slices.Equal(longer, []int{3, 5, 14, 16}) || weak || len(short) > 0 {
			t.Fatalf("ExtendDetecting changes: %v, %v, %v, %v", longer, grown, short, weak)
		}
		least, first := impl.FirstDetecting(1 + i%3)
		_, five := impl.FirstDetecting(5)
		if !first || !slices.Equal(least, singles(1+i%3)) || five || impl.FewestSums(1+i%3) != 1+i%3 || impl.FewestSums(5) != -1 {
			t.Fatalf("FirstDetecting or FewestSums changes: %v, %v, %v", least, first, five)
		}
		if four, _ := impl.FirstDetecting(4); i%20 == 0 && (!slices.Equal(four, pools) || impl.FewestSums(4) != 3) {
			t.Fatalf("FirstDetecting changes: %v", four)
		}
		spoil(one, other, sets, more, longer, least)
	}
	// The same slices with other contents are other pools and other numbers.
	pools[2], sums[0] = 9, 3
	if got := impl.DecodeSums(4, pools, []int{1, 1, 1}); !slices.Equal(got, []int{1, 14}) || len(impl.DecodeSums(4, pools, sums)) > 0 || impl.IsDetecting(4, pools) || impl.SumsTell(4, pools) != 15 {
		t.Errorf("pools %v: DecodeSums is %v, SumsTell is %d", pools, got, impl.SumsTell(4, pools))
	}
}

// P9: every goroutine that a call starts has ended when it returns, also where the call fails.
func TestP9SumsGoroutines(t *testing.T) {
	before := runtime.NumGoroutine()
	for i, b := range slices.Concat(smallBenches()[:200], someBenches(), detectingBenches(), wrongBenches()[:100]) {
		impl.SumPools(b.n, b.pools, 1)
		impl.SumPools(b.n, b.pools, -1)
		impl.SumsTell(b.n, b.pools)
		impl.IsDetecting(b.n, b.pools)
		impl.DecodeSums(b.n, b.pools, make([]int, len(b.pools)))
		impl.DecodeSums(b.n, b.pools, nil)
		impl.ExtendDetecting(b.n, b.pools)
		if i%20 == 0 {
			impl.FirstDetecting(i / 20 % 6)
			impl.FewestSums(i / 20 % 6)
		}
		if !endsWith(before) {
			t.Fatalf("%d items, pools %v: a goroutine does not end", b.n, b.pools[:min(len(b.pools), 14)])
		}
	}
}

// P9: calls at the same time do not disturb each other.
func TestP9SumsTogether(t *testing.T) {
	benches := append(someBenches(), detectingBenches()...)
	wrong := make([]int, 8)
	var group sync.WaitGroup
	for worker := range wrong {
		group.Go(func() {
			for i := worker; i < len(benches); i += 5 {
				b := benches[i]
				same := wantSameSums(b.n, b.pools)
				sums, ok := impl.SumPools(b.n, b.pools, 1)
				if !ok || !slices.Equal(sums, wantSums(b.pools, 1)) || !slices.Equal(impl.DecodeSums(b.n, b.pools, sums), same[sumText(sums)]) {
					wrong[worker]++
				}
				if impl.SumsTell(b.n, b.pools) != len(same) || impl.IsDetecting(b.n, b.pools) != (len(same) == setsUpTo(b.n)) {
					wrong[worker]++
				}
				more, longer := impl.ExtendDetecting(b.n, b.pools)
				if longer != (len(same) == setsUpTo(b.n) && b.n < 10 && len(b.pools) < 12) || longer && !slices.Equal(more, append(slices.Clone(b.pools), setOf(b.n))) {
					wrong[worker]++
				}
				if pools, _ := impl.FirstDetecting(1 + i%3); !slices.Equal(pools, singles(1+i%3)) || impl.FewestSums(1+i%3) != 1+i%3 {
					wrong[worker]++
				}
			}
		})
	}
	group.Wait()
	if slices.Max(wrong) > 0 {
		t.Errorf("wrong answers: %v", wrong)
	}
}

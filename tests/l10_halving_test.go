package tests

import (
	"math"
	"runtime"
	"slices"
	"sync"
	"testing"

	"loop.example/g01040/impl"
)

// halved is what a search of all bad items brings.
type halved struct {
	pools   []int
	results []bool
	bad     int
	skips   int
}

// waiting are items that have not been tested yet; firstPart says which pool the first part is if they are a second part, and is -1 otherwise.
type waiting struct {
	items     []int
	firstPart int
}

func itemsUpTo(n int) []int {
	var items []int
	for item := range n {
		items = append(items, item)
	}
	return items
}

// wantHalved goes through a list of groups, and tests the first one until none is left.
func wantHalved(n, bad int) halved {
	var h halved
	var found []int
	list := []waiting{{itemsUpTo(n), -1}}
	for len(list) > 0 {
		next := list[0]
		list = list[1:]
		pool := setOf(next.items...)
		positive := wantResult(pool, bad)
		h.pools = append(h.pools, pool)
		h.results = append(h.results, positive)
		if next.firstPart >= 0 && !h.results[next.firstPart] {
			h.skips++
		}
		if !positive {
			continue
		}
		if len(next.items) == 1 {
			found = append(found, next.items[0])
			continue
		}
		half := len(next.items) / 2
		// The first part is the next to be tested.
		parts := []waiting{{next.items[:half], -1}, {next.items[half:], len(h.pools)}}
		list = append(parts, list...)
	}
	h.bad = setOf(found...)
	return h
}

// wantOne throws away items until one is left.
func wantOne(n, bad int) ([]int, int) {
	var pools []int
	items := itemsUpTo(n)
	for len(items) > 1 {
		first, second := items[:len(items)/2], items[len(items)/2:]
		pools = append(pools, setOf(first...))
		if wantResult(setOf(first...), bad) {
			items = first
		} else {
			items = second
		}
	}
	return pools, items[0]
}

func wantWorstHalving(n, d int) int {
	worst := 0
	for _, bad := range setsWith(n, d) {
		worst = max(worst, len(wantHalved(n, bad).pools))
	}
	return worst
}

// sample is a number of items with a set of bad ones.
type sample struct {
	n, bad int
}

// allSamples are all sets of bad items of each valid number of items.
func allSamples() []sample {
	var list []sample
	for n := 1; n <= 10; n++ {
		for bad := range setsUpTo(n) {
			list = append(list, sample{n, bad})
		}
	}
	return list
}

// someSamples are all sets of few items, and of more items those of none, one, all and all but one, and some others.
func someSamples() []sample {
	var list []sample
	for n := 1; n <= 10; n++ {
		for bad := range setsUpTo(n) {
			count := len(wantItems(bad))
			if n <= 4 || count <= 1 || count >= n-1 || bad%37 == 5 {
				list = append(list, sample{n, bad})
			}
		}
	}
	return list
}

// wrongSamples have no valid number of items, or no set of these.
func wrongSamples() []sample {
	var list []sample
	for _, n := range wrongItems() {
		for _, bad := range append(farNumbers(), 0, 1, 2, 3, 15, 1023, 1024, 2047, 2048) {
			list = append(list, sample{n, bad})
		}
	}
	for n := 1; n <= 10; n++ {
		for _, bad := range wrongSets(n) {
			list = append(list, sample{n, bad})
		}
	}
	return list
}

// wrongItems are numbers of items that are not valid.
func wrongItems() []int {
	list := []int{0, 11, 12, 13, 31, 32, 33, 62, 65, 1<<32 + 4, math.MinInt + 4, math.MaxInt - 4}
	for _, n := range farNumbers() {
		if n < 1 || n > 10 {
			list = append(list, n)
		}
	}
	return list
}

// isPowerOf2 holds for 1, 2, 4 and 8 among the valid numbers of items.
func isPowerOf2(n int) bool { return n == 1 || n == 2 || n == 4 || n == 8 }

// poolsOfAll returns what FindAll tests, which succeeds.
func poolsOfAll(t *testing.T, s sample) []int {
	t.Helper()
	pools, found, ok := impl.FindAll(s.n, s.bad)
	if !ok || found != s.bad {
		t.Fatalf("FindAll(%d, %d) = %v, %d, %v", s.n, s.bad, pools, found, ok)
	}
	return pools
}

// P5: FindAll finds the set of the bad items, its first pool has all items, and the pools of one item with a positive result are the bad items.
func TestP5FindAll(t *testing.T) {
	for _, s := range allSamples() {
		pools := poolsOfAll(t, s)
		if len(pools) == 0 || pools[0] != setsUpTo(s.n)-1 {
			t.Fatalf("FindAll(%d, %d) begins with %v", s.n, s.bad, pools)
		}
		var alone []int
		for _, pool := range pools {
			if items := wantItems(pool); len(items) == 1 && wantResult(pool, s.bad) {
				alone = append(alone, items[0])
			}
		}
		if !slices.Equal(alone, wantItems(s.bad)) {
			t.Fatalf("FindAll(%d, %d) tests %v: the items %v are bad alone", s.n, s.bad, pools, alone)
		}
	}
}

// P5: the negative results of FindAll clear all items that are not bad, and no other set has the same results.
func TestP5FindAllSure(t *testing.T) {
	for _, s := range allSamples() {
		pools := poolsOfAll(t, s)
		good := 0
		for _, pool := range pools {
			if !wantResult(pool, s.bad) {
				good |= pool
			}
		}
		if good != setsUpTo(s.n)-1-s.bad {
			t.Fatalf("FindAll(%d, %d) tests %v, which clears %d", s.n, s.bad, pools, good)
		}
		if len(pools) > 12 {
			continue
		}
		results, ok := impl.TestPools(s.n, pools, s.bad)
		if sets := impl.ConsistentSets(s.n, pools, results, s.n); !ok || !slices.Equal(sets, []int{s.bad}) {
			t.Fatalf("FindAll(%d, %d) tests %v, which leaves %v", s.n, s.bad, pools, sets)
		}
	}
}

// P5: no pool is tested twice, and each later one is the first or the second part of an earlier one with a positive result.
func TestP5FindAllParts(t *testing.T) {
	for _, s := range allSamples() {
		pools := poolsOfAll(t, s)
		allowed := map[int]bool{setsUpTo(s.n) - 1: true}
		for _, pool := range pools {
			if !allowed[pool] {
				t.Fatalf("FindAll(%d, %d) tests %v: %d comes without a reason", s.n, s.bad, pools, pool)
			}
			delete(allowed, pool)
			items := wantItems(pool)
			if wantResult(pool, s.bad) && len(items) > 1 {
				allowed[setOf(items[:len(items)/2]...)] = true
				allowed[setOf(items[len(items)/2:]...)] = true
			}
		}
		if len(allowed) > 0 {
			t.Fatalf("FindAll(%d, %d) tests %v, but not %v", s.n, s.bad, pools, allowed)
		}
	}
}

// P5: FindOne finds the least bad item, with as many pools as halving needs.
func TestP5FindOne(t *testing.T) {
	for _, s := range allSamples() {
		if s.bad == 0 {
			continue
		}
		pools, item, ok := impl.FindOne(s.n, s.bad)
		if !ok || item != wantItems(s.bad)[0] {
			t.Fatalf("FindOne(%d, %d) = %v, %d, %v", s.n, s.bad, pools, item, ok)
		}
		least := 0
		for setsUpTo(least+1) <= s.n {
			least++
		}
		if len(pools) != least && (len(pools) != least+1 || isPowerOf2(s.n)) {
			t.Fatalf("FindOne(%d, %d) tests %v", s.n, s.bad, pools)
		}
	}
}

// P5: each pool of FindOne is the first half of what is left, and in the end the item alone is left.
func TestP5FindOneHalves(t *testing.T) {
	for _, s := range allSamples() {
		if s.bad == 0 {
			continue
		}
		pools, item, ok := impl.FindOne(s.n, s.bad)
		left := itemsUpTo(s.n)
		for _, pool := range pools {
			half := len(left) / 2
			if setOf(left[:half]...) != pool {
				t.Fatalf("FindOne(%d, %d) tests %v: %d is no half of %v", s.n, s.bad, pools, pool, left)
			}
			if wantResult(pool, s.bad) {
				left = left[:half]
			} else {
				left = left[half:]
			}
		}
		if !ok || !slices.Equal(left, []int{item}) {
			t.Fatalf("FindOne(%d, %d) = %v, %d, %v, but %v are left", s.n, s.bad, pools, item, ok, left)
		}
	}
}

// P5: CountHalving is the number of the pools of FindAll.
func TestP5CountHalving(t *testing.T) {
	for _, s := range allSamples() {
		if got, pools := impl.CountHalving(s.n, s.bad), poolsOfAll(t, s); got != len(pools) {
			t.Fatalf("CountHalving(%d, %d) = %d, FindAll tests %v", s.n, s.bad, got, pools)
		}
	}
}

// P5: WorstHalving is the greatest CountHalving of all sets of at most d items.
func TestP5WorstHalving(t *testing.T) {
	for n := 1; n <= 10; n++ {
		worst := 0
		for d := 0; d <= n+2; d++ {
			for bad := range setsUpTo(n) {
				if impl.CountItems(bad) == d {
					worst = max(worst, impl.CountHalving(n, bad))
				}
			}
			if got := impl.WorstHalving(n, d); got != worst {
				t.Errorf("WorstHalving(%d, %d) = %d, want %d", n, d, got, worst)
			}
		}
	}
}

func TestP9FindOneNamed(t *testing.T) {
	named := []struct {
		n, bad int
		pools  []int
		item   int
		ok     bool
	}{
		{4, 12, []int{3, 4}, 2, true}, {4, 1, []int{3, 1}, 0, true}, {4, 8, []int{3, 4}, 3, true}, {4, 15, []int{3, 1}, 0, true}, {4, 2, []int{3, 1}, 1, true}, {4, 10, []int{3, 1}, 1, true},
		// One item and two.
		{1, 1, nil, 0, true}, {2, 1, []int{1}, 0, true}, {2, 2, []int{1}, 1, true}, {2, 3, []int{1}, 0, true},
		// No power of 2: the second part has one item more.
		{3, 1, []int{1}, 0, true}, {3, 2, []int{1, 2}, 1, true}, {3, 4, []int{1, 2}, 2, true}, {3, 6, []int{1, 2}, 1, true}, {3, 7, []int{1}, 0, true}, {5, 1, []int{3, 1}, 0, true}, {5, 4, []int{3, 4}, 2, true}, {5, 16, []int{3, 4, 8}, 4, true}, {5, 8, []int{3, 4, 8}, 3, true},
		{6, 1, []int{7, 1}, 0, true}, {6, 4, []int{7, 1, 2}, 2, true}, {6, 32, []int{7, 8, 16}, 5, true}, {7, 64, []int{7, 24, 32}, 6, true}, {7, 8, []int{7, 24, 8}, 3, true}, {9, 256, []int{15, 48, 64, 128}, 8, true}, {9, 1, []int{15, 3, 1}, 0, true},
		{10, 1, []int{31, 3, 1}, 0, true}, {10, 512, []int{31, 96, 128, 256}, 9, true}, {10, 1023, []int{31, 3, 1}, 0, true}, {10, 16, []int{31, 3, 4, 8}, 4, true}, {10, 1008, []int{31, 3, 4, 8}, 4, true}, {8, 128, []int{15, 48, 64}, 7, true},
		// No bad items, or no set of the items.
		{4, 0, nil, 0, false}, {1, 0, nil, 0, false}, {10, 0, nil, 0, false}, {4, 16, nil, 0, false}, {4, 17, nil, 0, false}, {1, 2, nil, 0, false}, {10, 1024, nil, 0, false}, {10, 1025, nil, 0, false}, {4, -1, nil, 0, false}, {4, math.MinInt, nil, 0, false}, {4, math.MaxInt, nil, 0, false},
		// Other numbers of items.
		{0, 0, nil, 0, false}, {0, 1, nil, 0, false}, {11, 1, nil, 0, false}, {11, 1024, nil, 0, false}, {-1, 1, nil, 0, false}, {math.MinInt, 1, nil, 0, false}, {math.MaxInt, 1, nil, 0, false}, {math.MinInt, math.MinInt, nil, 0, false}, {math.MaxInt, math.MaxInt, nil, 0, false}, {64, 1, nil, 0, false}, {63, 1, nil, 0, false},
	}
	for _, c := range named {
		if pools, item, ok := impl.FindOne(c.n, c.bad); ok != c.ok || item != c.item || !slices.Equal(pools, c.pools) {
			t.Errorf("FindOne(%d, %d) = %v, %d, %v, want %v, %d, %v", c.n, c.bad, pools, item, ok, c.pools, c.item, c.ok)
		}
	}
}

func TestP9FindAllNamed(t *testing.T) {
	named := []struct {
		n, bad int
		pools  []int
		skips  int
	}{
		{4, 4, []int{15, 3, 12, 4, 8}, 1}, {4, 0, []int{15}, 0}, {4, 1, []int{15, 3, 1, 2, 12}, 0}, {4, 2, []int{15, 3, 1, 2, 12}, 1}, {4, 8, []int{15, 3, 12, 4, 8}, 2}, {4, 15, []int{15, 3, 1, 2, 12, 4, 8}, 0}, {4, 6, []int{15, 3, 1, 2, 12, 4, 8}, 1}, {4, 10, []int{15, 3, 1, 2, 12, 4, 8}, 2}, {4, 5, []int{15, 3, 1, 2, 12, 4, 8}, 0}, {4, 12, []int{15, 3, 12, 4, 8}, 1},
		// One item and two.
		{1, 0, []int{1}, 0}, {1, 1, []int{1}, 0}, {2, 0, []int{3}, 0}, {2, 1, []int{3, 1, 2}, 0}, {2, 2, []int{3, 1, 2}, 1}, {2, 3, []int{3, 1, 2}, 0},
		// No power of 2: the second part has one item more.
		{3, 0, []int{7}, 0}, {3, 1, []int{7, 1, 6}, 0}, {3, 2, []int{7, 1, 6, 2, 4}, 1}, {3, 4, []int{7, 1, 6, 2, 4}, 2}, {3, 5, []int{7, 1, 6, 2, 4}, 1}, {3, 7, []int{7, 1, 6, 2, 4}, 0},
		{5, 1, []int{31, 3, 1, 2, 28}, 0}, {5, 16, []int{31, 3, 28, 4, 24, 8, 16}, 3}, {5, 31, []int{31, 3, 1, 2, 28, 4, 24, 8, 16}, 0}, {7, 64, []int{127, 7, 120, 24, 96, 32, 64}, 3}, {7, 1, []int{127, 7, 1, 6, 120}, 0}, {6, 32, []int{63, 7, 56, 8, 48, 16, 32}, 3},
		{10, 0, []int{1023}, 0}, {10, 1, []int{1023, 31, 3, 1, 2, 28, 992}, 0}, {10, 512, []int{1023, 31, 992, 96, 896, 128, 768, 256, 512}, 4}, {10, 1023, []int{1023, 31, 3, 1, 2, 28, 4, 24, 8, 16, 992, 96, 32, 64, 896, 128, 768, 256, 512}, 0},
		{10, 528, []int{1023, 31, 3, 28, 4, 24, 8, 16, 992, 96, 896, 128, 768, 256, 512}, 6}, {8, 128, []int{255, 15, 240, 48, 192, 64, 128}, 3}, {9, 1, []int{511, 15, 3, 1, 2, 12, 496}, 0},
	}
	for _, c := range named {
		if pools, found, ok := impl.FindAll(c.n, c.bad); !ok || found != c.bad || !slices.Equal(pools, c.pools) {
			t.Errorf("FindAll(%d, %d) = %v, %d, %v, want %v", c.n, c.bad, pools, found, ok, c.pools)
		}
		if got := impl.CountHalving(c.n, c.bad); got != len(c.pools) {
			t.Errorf("CountHalving(%d, %d) = %d, want %d", c.n, c.bad, got, len(c.pools))
		}
		if got := impl.SkipTests(c.n, c.bad); got != c.skips {
			t.Errorf("SkipTests(%d, %d) = %d, want %d", c.n, c.bad, got, c.skips)
		}
	}
}

// P9: all sets of all numbers of items against the list of intervals that the document describes.
func TestP9Halving(t *testing.T) {
	for _, s := range allSamples() {
		want := wantHalved(s.n, s.bad)
		if pools, found, ok := impl.FindAll(s.n, s.bad); !ok || found != want.bad || !slices.Equal(pools, want.pools) {
			t.Fatalf("FindAll(%d, %d) = %v, %d, %v, want %v, %d", s.n, s.bad, pools, found, ok, want.pools, want.bad)
		}
		if got := impl.CountHalving(s.n, s.bad); got != len(want.pools) {
			t.Fatalf("CountHalving(%d, %d) = %d, want %d", s.n, s.bad, got, len(want.pools))
		}
		if got := impl.SkipTests(s.n, s.bad); got != want.skips {
			t.Fatalf("SkipTests(%d, %d) = %d, want %d", s.n, s.bad, got, want.skips)
		}
		pools, item, ok := impl.FindOne(s.n, s.bad)
		if s.bad == 0 {
			if ok || item != 0 || len(pools) > 0 {
				t.Fatalf("FindOne(%d, 0) = %v, %d, %v", s.n, pools, item, ok)
			}
			continue
		}
		if list, one := wantOne(s.n, s.bad); !ok || item != one || !slices.Equal(pools, list) {
			t.Fatalf("FindOne(%d, %d) = %v, %d, %v, want %v, %d", s.n, s.bad, pools, item, ok, list, one)
		}
	}
}

// P9: SkipTests counts the pools whose result is the same for all sets that the results before leave.
func TestP9SkipTestsKnown(t *testing.T) {
	for _, s := range allSamples() {
		if s.n > 6 {
			break
		}
		h := wantHalved(s.n, s.bad)
		known := 0
		for k := 1; k < len(h.pools); k++ {
			kinds := map[bool]bool{}
			for _, set := range wantConsistent(s.n, h.pools[:k], h.results[:k], s.n) {
				kinds[wantResult(h.pools[k], set)] = true
			}
			if len(kinds) == 1 {
				known++
			}
		}
		if got := impl.SkipTests(s.n, s.bad); got != known {
			t.Fatalf("SkipTests(%d, %d) = %d, want %d", s.n, s.bad, got, known)
		}
	}
}

// P9: nothing is found for other numbers of items, or for numbers that are no set of them.
func TestP9HalvingInvalid(t *testing.T) {
	check := func(n, bad int) {
		pools, item, ok := impl.FindOne(n, bad)
		if ok || item != 0 || len(pools) > 0 {
			t.Fatalf("FindOne(%d, %d) = %v, %d, %v", n, bad, pools, item, ok)
		}
		pools, found, ok := impl.FindAll(n, bad)
		if ok || found != 0 || len(pools) > 0 {
			t.Fatalf("FindAll(%d, %d) = %v, %d, %v", n, bad, pools, found, ok)
		}
		if impl.CountHalving(n, bad) != -1 || impl.SkipTests(n, bad) != -1 {
			t.Fatalf("CountHalving(%d, %d) = %d, SkipTests is %d", n, bad, impl.CountHalving(n, bad), impl.SkipTests(n, bad))
		}
	}
	for _, s := range wrongSamples() {
		check(s.n, s.bad)
	}
	for _, far := range someInts() {
		for _, near := range []int{0, 1, 2, 1023} {
			if far < 1 || far > 10 {
				check(far, near)
			}
		}
		for n := 1; n <= 10; n++ {
			if far < 0 || far >= setsUpTo(n) {
				check(n, far)
			}
		}
	}
}

// worstCounts are the values of WorstHalving, from d 0 to n.
func worstCounts() [][]int {
	return [][]int{{-1}, {1, 1}, {1, 3, 3}, {1, 5, 5, 5}, {1, 5, 7, 7, 7}, {1, 7, 9, 9, 9, 9}, {1, 7, 11, 11, 11, 11, 11}, {1, 7, 11, 13, 13, 13, 13, 13},
		{1, 7, 11, 13, 15, 15, 15, 15, 15}, {1, 9, 13, 15, 17, 17, 17, 17, 17, 17}, {1, 9, 15, 17, 19, 19, 19, 19, 19, 19, 19}}
}

func TestP9WorstHalvingNamed(t *testing.T) {
	for n := 1; n <= 10; n++ {
		for d := range n + 1 {
			want := worstCounts()[n][d]
			if got := impl.WorstHalving(n, d); got != want || got != wantWorstHalving(n, d) {
				t.Errorf("WorstHalving(%d, %d) = %d, want %d", n, d, got, want)
			}
			if got := impl.OneByOne(n, d); got != (want > n) {
				t.Errorf("OneByOne(%d, %d) = %v", n, d, got)
			}
		}
		// More bad items than there are items.
		for _, d := range []int{n + 1, n + 2, 11, 12, 63, 64, 65, 1 << 32, 1 << 62, math.MaxInt - 1, math.MaxInt} {
			if got := impl.WorstHalving(n, d); got != 2*n-1 {
				t.Errorf("WorstHalving(%d, %d) = %d, want %d", n, d, got, 2*n-1)
			}
			if got := impl.OneByOne(n, d); got != (n >= 2) {
				t.Errorf("OneByOne(%d, %d) = %v", n, d, got)
			}
		}
	}
}

func TestP9OneByOneNamed(t *testing.T) {
	named := []struct {
		n, d int
		want bool
	}{
		{4, 1, true}, {4, 0, false}, {4, -1, false}, {4, 4, true}, {4, 5, true}, {4, math.MaxInt, true}, {4, math.MinInt, false},
		// As many pools as items are not more.
		{7, 1, false}, {8, 1, false}, {9, 1, false}, {10, 1, false}, {5, 1, true}, {6, 1, true}, {7, 2, true}, {8, 2, true}, {9, 2, true}, {10, 2, true},
		{1, 0, false}, {1, 1, false}, {1, 2, false}, {1, math.MaxInt, false}, {1, -1, false}, {2, 0, false}, {2, 1, true}, {2, 2, true}, {3, 1, true}, {3, 3, true}, {10, 0, false}, {10, 10, true}, {10, 11, true}, {10, math.MaxInt, true}, {10, -1, false},
		{0, 0, false}, {0, 1, false}, {0, -1, false}, {-1, 0, false}, {-1, 1, false}, {-2, 1, false}, {-2, -1, false}, {-3, 0, false}, {11, 1, false}, {11, 11, false}, {math.MinInt, 1, false}, {math.MinInt, math.MinInt, false}, {math.MinInt, math.MaxInt, false}, {math.MaxInt, 1, false}, {math.MaxInt, math.MaxInt, false},
	}
	for _, c := range named {
		if got := impl.OneByOne(c.n, c.d); got != c.want {
			t.Errorf("OneByOne(%d, %d) = %v", c.n, c.d, got)
		}
	}
}

// P9: WorstHalving and OneByOne for other numbers of items and for less than no bad items.
func TestP9WorstHalvingInvalid(t *testing.T) {
	check := func(n, d int) {
		if impl.WorstHalving(n, d) != -1 || impl.OneByOne(n, d) {
			t.Fatalf("WorstHalving(%d, %d) = %d, OneByOne is %v", n, d, impl.WorstHalving(n, d), impl.OneByOne(n, d))
		}
	}
	numbers := append(someInts(), farNumbers()...)
	for _, n := range append(numbers, wrongItems()...) {
		if n >= 1 && n <= 10 {
			continue
		}
		for _, d := range []int{-1, 0, 1, 2, 10, 11, n, math.MinInt, math.MaxInt} {
			check(n, d)
		}
	}
	for _, d := range numbers {
		for n := 1; n <= 10; n++ {
			if d < 0 {
				check(n, d)
			}
		}
	}
}

// P9: no two results share memory. (The arguments are numbers, which no call can change.)
func TestP9HalvingResults(t *testing.T) {
	found := func(s sample) [][]int {
		one, _, _ := impl.FindOne(s.n, s.bad)
		all, _, _ := impl.FindAll(s.n, s.bad)
		return [][]int{one, all}
	}
	for _, s := range append(someSamples(), sample{0, 0}, sample{11, 1}, sample{4, -1}, sample{4, 16}) {
		lists := slices.Concat(found(s), found(s))
		var firsts [][]int
		for _, list := range lists {
			firsts = append(firsts, slices.Clone(list))
		}
		for i, list := range lists {
			spoil(list)
			for k := i + 1; k < len(lists); k++ {
				if !slices.Equal(lists[k], firsts[k]) {
					t.Fatalf("%d items, %d is bad: two results share memory: %v, want %v", s.n, s.bad, lists[k], firsts[k])
				}
			}
		}
		for i, list := range found(s) {
			if !slices.Equal(list, firsts[i]) {
				t.Fatalf("%d items, %d is bad: a result that was overwritten is returned: %v, want %v", s.n, s.bad, list, firsts[i])
			}
		}
	}
}

// P9: a call that is repeated many times, with other calls in between, returns the same.
func TestP9HalvingRepeated(t *testing.T) {
	all := wantHalved(10, 528)
	for i := range 1000 {
		one, item, ok := impl.FindOne(4, 12)
		two, least, fine := impl.FindOne(10, 1008)
		three, none, wrong := impl.FindOne(4, 0)
		if !ok || item != 2 || !slices.Equal(one, []int{3, 4}) || !fine || least != 4 || !slices.Equal(two, []int{31, 3, 4, 8}) || wrong || none != 0 || len(three) > 0 {
			t.Fatalf("FindOne changes: %v, %d, %v, %v, %d, %v, %v, %d, %v", one, item, ok, two, least, fine, three, none, wrong)
		}
		four, bad, good := impl.FindAll(4, 4)
		five, both, right := impl.FindAll(10, 528)
		six, no, far := impl.FindAll(4, 16)
		if !good || bad != 4 || !slices.Equal(four, []int{15, 3, 12, 4, 8}) || !right || both != 528 || !slices.Equal(five, all.pools) || far || no != 0 || len(six) > 0 {
			t.Fatalf("FindAll changes: %v, %d, %v, %v, %d, %v, %v, %d, %v", four, bad, good, five, both, right, six, no, far)
		}
		if impl.CountHalving(10, 1023) != 19 || impl.CountHalving(4, 0) != 1 || impl.CountHalving(4, -1) != -1 || impl.SkipTests(10, 528) != 6 || impl.SkipTests(4, 4) != 1 || impl.SkipTests(0, 0) != -1 {
			t.Fatal("CountHalving or SkipTests changes")
		}
		if impl.WorstHalving(4, 1) != 5 || impl.WorstHalving(4, 4) != 7 || impl.WorstHalving(4, -1) != -1 || !impl.OneByOne(4, 1) || impl.OneByOne(4, 0) || i%50 == 0 && impl.WorstHalving(10, 10) != 19 {
			t.Fatal("WorstHalving or OneByOne changes")
		}
		spoil(one, two, four, five)
	}
}

// P9: every goroutine that a call starts has ended when it returns, also where the call fails.
func TestP9HalvingGoroutines(t *testing.T) {
	before := runtime.NumGoroutine()
	for i, s := range append(someSamples(), wrongSamples()[:200]...) {
		impl.FindOne(s.n, s.bad)
		impl.FindAll(s.n, s.bad)
		impl.CountHalving(s.n, s.bad)
		impl.SkipTests(s.n, s.bad)
		if i%20 == 0 {
			impl.WorstHalving(s.n, i%4)
			impl.OneByOne(s.n, i%4)
		}
		if !endsWith(before) {
			t.Fatalf("%d items, %d is bad: a goroutine does not end", s.n, s.bad)
		}
	}
}

// P9: calls at the same time do not disturb each other.
func TestP9HalvingTogether(t *testing.T) {
	samples := someSamples()
	wrong := make([]int, 8)
	var group sync.WaitGroup
	for worker := range wrong {
		group.Go(func() {
			for i := worker; i < len(samples); i += 3 {
				s := samples[i]
				want := wantHalved(s.n, s.bad)
				pools, found, ok := impl.FindAll(s.n, s.bad)
				if !ok || found != s.bad || !slices.Equal(pools, want.pools) || impl.CountHalving(s.n, s.bad) != len(want.pools) || impl.SkipTests(s.n, s.bad) != want.skips {
					wrong[worker]++
				}
				list, one := wantOne(s.n, s.bad)
				if pools, item, ok := impl.FindOne(s.n, s.bad); s.bad != 0 && (!ok || item != one || !slices.Equal(pools, list)) {
					wrong[worker]++
				}
				if d := i % 2; impl.WorstHalving(s.n, d) != worstCounts()[s.n][d] || impl.OneByOne(s.n, d) != (worstCounts()[s.n][d] > s.n) {
					wrong[worker]++
				}
			}
		})
	}
	group.Wait()
	if slices.Max(wrong) > 0 {
		t.Errorf("wrong answers: %v", wrong)
	}
}

package tests

import (
	"math"
	"slices"
	"strconv"
	"strings"
	"sync"
	"testing"

	"loop.example/g01040/impl"
)

// wantItems divides a set by 2 again and again and notes where an odd number is left.
func wantItems(set int) []int {
	var items []int
	for item := 0; set > 0; item++ {
		if set%2 == 1 {
			items = append(items, item)
		}
		set /= 2
	}
	return items
}

// setOf adds up the powers of 2 of the items.
func setOf(items ...int) int {
	set := 0
	for _, item := range items {
		set += int(math.Pow(2, float64(item)))
	}
	return set
}

// setsUpTo is the number of the sets of items from 0 up to n.
func setsUpTo(n int) int { return int(math.Pow(2, float64(n))) }

func wantPoolsOk(n int, pools []int) bool {
	if n < 1 || n > 10 || len(pools) > 12 {
		return false
	}
	return len(pools) == 0 || slices.Min(pools) >= 0 && slices.Max(pools) <= setsUpTo(n)-1
}

// wantResult looks for a bad item among those of the pool.
func wantResult(pool, bad int) bool {
	for _, item := range wantItems(bad) {
		if slices.Contains(wantItems(pool), item) {
			return true
		}
	}
	return false
}

func wantResults(pools []int, bad int) []bool {
	var results []bool
	for _, pool := range pools {
		results = append(results, wantResult(pool, bad))
	}
	return results
}

// wantConsistent takes for granted that the pools are valid.
func wantConsistent(n int, pools []int, results []bool, most int) []int {
	var sets []int
	for set := range setsUpTo(n) {
		if len(wantItems(set)) <= most && slices.Equal(wantResults(pools, set), results) {
			sets = append(sets, set)
		}
	}
	return sets
}

// wantSure asks of each item alone whether it is surely good, and then whether it is surely bad.
func wantSure(n int, pools []int, results []bool) (int, int) {
	if !wantPoolsOk(n, pools) || len(results) != len(pools) {
		return 0, 0
	}
	var good, bad []int
	for item := range n {
		for i, pool := range pools {
			if !results[i] && slices.Contains(wantItems(pool), item) {
				good = append(good, item)
				break
			}
		}
	}
	for item := range n {
		for i, pool := range pools {
			suspects := slices.DeleteFunc(wantItems(pool), func(other int) bool { return slices.Contains(good, other) })
			if results[i] && slices.Equal(suspects, []int{item}) {
				bad = append(bad, item)
				break
			}
		}
	}
	return setOf(good...), setOf(bad...)
}

// wantDigits writes the items of a set one after the other.
func wantDigits(set int) string {
	if set == 0 {
		return "-"
	}
	text := ""
	for _, item := range wantItems(set) {
		text += strconv.Itoa(item)
	}
	return text
}

// bench is a number of items with pools of them.
type bench struct {
	n     int
	pools []int
}

// smallBenches are all pools of one item, of two and of three, up to some number.
func smallBenches() []bench {
	var list []bench
	for n := 1; n <= 3; n++ {
		var sets []int
		for set := range setsUpTo(n) {
			sets = append(sets, set)
		}
		for _, pools := range allLists(sets, 6-n) {
			list = append(list, bench{n, pools})
		}
	}
	return list
}

// singles are the pools of one item each.
func singles(n int) []int {
	var pools []int
	for item := range n {
		pools = append(pools, setOf(item))
	}
	return pools
}

// bitPairs are, for each bit, the pool of the items in whose number it is set, and the pool of the others.
func bitPairs(n int) []int {
	var pools []int
	for bit := 1; bit < n; bit *= 2 {
		var with, without []int
		for item := range n {
			if item/bit%2 == 1 {
				with = append(with, item)
			} else {
				without = append(without, item)
			}
		}
		pools = append(pools, setOf(with...), setOf(without...))
	}
	return pools
}

// mixedPools returns so many pools that follow no simple rule.
func mixedPools(n, count, seed int) []int {
	var pools []int
	for range count {
		seed = (seed*1103 + 12345) % 1000003
		pool := seed % setsUpTo(n)
		seed = (seed*1103 + 12345) % 1000003
		if seed%2 == 0 {
			// Fewer items, so that not every result is positive.
			pool &= seed / 7
		}
		pools = append(pools, pool)
	}
	return pools
}

// someBenches are pools of up to ten items: none, empty ones, full ones, single items, bits, pairs, the greatest number of pools, and mixed ones.
func someBenches() []bench {
	var list []bench
	for n := 1; n <= 10; n++ {
		all := setsUpTo(n) - 1
		list = append(list, bench{n, nil}, bench{n, []int{}}, bench{n, make([]int, 12)}, bench{n, slices.Repeat([]int{all}, 12)},
			bench{n, []int{0, all}}, bench{n, singles(n)}, bench{n, bitPairs(n)}, bench{n, append(singles(n), 0, all)})
		var pairs []int
		for item := 1; item < n; item++ {
			pairs = append(pairs, setOf(item-1, item))
		}
		list = append(list, bench{n, pairs})
		for count := 1; count <= 12; count++ {
			list = append(list, bench{n, mixedPools(n, count, 100*n+count)})
		}
	}
	return list
}

// someBad returns sets of bad items: all of few items, and of many items every one that is no multiple of the step, the empty and the full one.
func someBad(n, step int) []int {
	sets := []int{0}
	for set := 1; set < setsUpTo(n); set++ {
		if n <= 4 || set%step == 1 || set == setsUpTo(n)-1 {
			sets = append(sets, set)
		}
	}
	return sets
}

// allResults returns all lists of so many results.
func allResults(count int) [][]bool {
	list := [][]bool{nil}
	for range count {
		var longer [][]bool
		for _, results := range list {
			longer = append(longer, append(slices.Clone(results), false), append(slices.Clone(results), true))
		}
		list = longer
	}
	return list
}

// someResults returns results of the pools for some bad sets, and others, which mostly no set has.
func someResults(b bench) [][]bool {
	if len(b.pools) <= 3 {
		return allResults(len(b.pools))
	}
	list := [][]bool{make([]bool, len(b.pools)), slices.Repeat([]bool{true}, len(b.pools))}
	for i, bad := range someBad(b.n, 211) {
		results := wantResults(b.pools, bad)
		wrong := slices.Clone(results)
		wrong[i%len(wrong)] = !wrong[i%len(wrong)]
		list = append(list, results, wrong)
	}
	return list
}

// wrongCounts returns fewer and more results than these.
func wrongCounts(results []bool) [][]bool {
	list := [][]bool{append(slices.Clone(results), true), append(slices.Clone(results), false),
		append(slices.Clone(results), make([]bool, 13)...), append(slices.Clone(results), make([]bool, 256)...), append(slices.Clone(results), make([]bool, 65536)...)}
	if len(results) > 0 {
		list = append(list, nil, []bool{}, results[1:], results[:len(results)-1])
	}
	return list
}

// wrongBenches are not valid, each for one reason.
func wrongBenches() []bench {
	var list []bench
	for _, n := range []int{0, -1, -2, -10, -63, -64, -65, 11, 12, 13, 31, 32, 62, 63, 64, 65, 100, 1<<32 + 4, 1 << 62, math.MinInt, math.MinInt + 4, math.MaxInt, math.MaxInt - 1} {
		list = append(list, bench{n, nil}, bench{n, []int{}}, bench{n, []int{0}}, bench{n, []int{0, 0, 0}}, bench{n, []int{1}}, bench{n, []int{1, 2}})
	}
	for n := 1; n <= 10; n++ {
		list = append(list, bench{n, make([]int, 13)}, bench{n, make([]int, 14)}, bench{n, make([]int, 256)}, bench{n, make([]int, 256+3)}, bench{n, make([]int, 70000)})
		for _, pool := range wrongSets(n) {
			list = append(list, bench{n, []int{pool}}, bench{n, []int{pool, 1, 0}}, bench{n, []int{1, pool, 1}}, bench{n, []int{0, 1, pool}}, bench{n, []int{pool, pool}},
				bench{n, append(make([]int, 11), pool)}, bench{n, append([]int{pool}, make([]int, 11)...)}, bench{n, append(make([]int, 12), pool)})
		}
	}
	return list
}

// wrongSets returns numbers that are no set of items from 0 up to n.
func wrongSets(n int) []int {
	all := setsUpTo(n)
	return []int{-1, -2, -all, -all + 1, -all - 1, all, all + 1, 2*all - 1, 2 * all, 3 * all, 1 << 32, 1<<32 + 1, 1 - 1<<32, 1 << 62, math.MinInt, math.MinInt + 1, math.MaxInt, math.MaxInt - 1}
}

// tested returns the results of valid pools for a bad set.
func tested(t *testing.T, b bench, bad int) []bool {
	t.Helper()
	results, ok := impl.TestPools(b.n, b.pools, bad)
	if !ok || len(results) != len(b.pools) {
		t.Fatalf("TestPools(%d, %v, %d) = %v, %v", b.n, b.pools, bad, results, ok)
	}
	return results
}

// P4: the set of the bad items is among the consistent sets of its results, if they may have as many items.
func TestP4BadSetConsistent(t *testing.T) {
	check := func(b bench, bad int) {
		results := tested(t, b, bad)
		count := impl.CountItems(bad)
		for most := count - 1; most <= count+1; most++ {
			sets := impl.ConsistentSets(b.n, b.pools, results, most)
			if slices.Contains(sets, bad) != (count <= most) {
				t.Fatalf("ConsistentSets(%d, %v, %v, %d) = %v, the bad set is %d", b.n, b.pools, results, most, sets, bad)
			}
		}
	}
	for _, b := range smallBenches() {
		for bad := range setsUpTo(b.n) {
			check(b, bad)
		}
	}
	for _, b := range someBenches() {
		for _, bad := range someBad(b.n, 97) {
			check(b, bad)
		}
	}
}

// P4: each of the consistent sets has the results, and every set is consistent with one list of results alone.
func TestP4ConsistentSetsDivide(t *testing.T) {
	for _, b := range smallBenches() {
		seen := map[int]bool{}
		for _, results := range allResults(len(b.pools)) {
			for _, set := range impl.ConsistentSets(b.n, b.pools, results, b.n) {
				if seen[set] || !slices.Equal(tested(t, b, set), results) {
					t.Fatalf("ConsistentSets(%d, %v, %v, %d) has %d, the results of which are %v", b.n, b.pools, results, b.n, set, tested(t, b, set))
				}
				seen[set] = true
			}
		}
		if len(seen) != setsUpTo(b.n) {
			t.Fatalf("%d items, pools %v: only %d sets are consistent with any results", b.n, b.pools, len(seen))
		}
	}
}

// P4: what is surely good or surely bad is so in each of the consistent sets; and nothing else is so in all of them, if they may have any number of items.
func TestP4SureInAll(t *testing.T) {
	goods, bads := 0, 0
	check := func(b bench, results []bool) {
		good, bad := impl.SurelyGood(b.n, b.pools, results), impl.SurelyBad(b.n, b.pools, results)
		sets := impl.ConsistentSets(b.n, b.pools, results, b.n)
		if len(sets) == 0 {
			return
		}
		some, all := 0, setsUpTo(b.n)-1
		for _, set := range sets {
			some |= set
			all &= set
		}
		if good != setsUpTo(b.n)-1-some || bad != all {
			t.Fatalf("%d items, pools %v, results %v: %d is surely good and %d surely bad, the consistent sets are %v", b.n, b.pools, results, good, bad, sets)
		}
		for most := range b.n {
			for _, set := range impl.ConsistentSets(b.n, b.pools, results, most) {
				if set&good != 0 || set&bad != bad {
					t.Fatalf("%d items, pools %v, results %v: %d is surely good and %d surely bad, but %d is consistent", b.n, b.pools, results, good, bad, set)
				}
			}
		}
		goods += impl.CountItems(good)
		bads += impl.CountItems(bad)
	}
	for _, b := range smallBenches() {
		for bad := range setsUpTo(b.n) {
			check(b, tested(t, b, bad))
		}
	}
	for _, b := range someBenches() {
		for _, bad := range someBad(b.n, 311) {
			check(b, tested(t, b, bad))
		}
	}
	if goods < 1000 || bads < 1000 {
		t.Errorf("only %d items are surely good, %d are surely bad", goods, bads)
	}
}

// P4: where each item has a pool of its own, all of them are surely good or surely bad.
func TestP4SinglesDecode(t *testing.T) {
	for n := 1; n <= 10; n++ {
		b := bench{n, singles(n)}
		for _, bad := range someBad(n, 5) {
			results := tested(t, b, bad)
			if got := impl.SurelyBad(n, b.pools, results); got != bad {
				t.Fatalf("SurelyBad(%d, %v, %v) = %d, want %d", n, b.pools, results, got, bad)
			}
			if got := impl.SurelyGood(n, b.pools, results); got != setsUpTo(n)-1-bad {
				t.Fatalf("SurelyGood(%d, %v, %v) = %d, the bad set is %d", n, b.pools, results, got, bad)
			}
			if got := impl.ConsistentSets(n, b.pools, results, n); !slices.Equal(got, []int{bad}) {
				t.Fatalf("ConsistentSets(%d, %v, %v, %d) = %v, want %d alone", n, b.pools, results, n, got, bad)
			}
		}
	}
}

// P4: pools by the bits of the items' numbers tell the only bad item, and that there is none.
func TestP4BitsDecode(t *testing.T) {
	for n := 2; n <= 10; n++ {
		b := bench{n, bitPairs(n)}
		for item := range n {
			results := tested(t, b, setOf(item))
			if got := impl.ConsistentSets(n, b.pools, results, 1); !slices.Equal(got, []int{setOf(item)}) {
				t.Errorf("ConsistentSets(%d, %v, %v, 1) = %v, want the item %d alone", n, b.pools, results, got, item)
			}
			good, bad := impl.SurelyGood(n, b.pools, results), impl.SurelyBad(n, b.pools, results)
			if good != setsUpTo(n)-1-setOf(item) || bad != setOf(item) {
				t.Errorf("%d items, pools %v: %d is surely good and %d surely bad, want the item %d alone", n, b.pools, good, bad, item)
			}
		}
		results := tested(t, b, 0)
		if got := impl.ConsistentSets(n, b.pools, results, n); !slices.Equal(got, []int{0}) || impl.SurelyGood(n, b.pools, results) != setsUpTo(n)-1 {
			t.Errorf("ConsistentSets(%d, %v, %v, %d) = %v, want the empty set alone", n, b.pools, results, n, got)
		}
	}
}

func TestP9PoolsOkNamed(t *testing.T) {
	named := []struct {
		n     int
		pools []int
		want  bool
	}{
		{0, nil, false}, {0, []int{}, false}, {0, []int{0}, false}, {1, nil, true}, {1, []int{}, true}, {10, nil, true}, {10, []int{}, true}, {11, nil, false}, {11, []int{}, false}, {11, []int{1}, false},
		{math.MinInt, nil, false}, {math.MaxInt, nil, false}, {math.MinInt, []int{0}, false}, {math.MaxInt, []int{0}, false}, {-1, nil, false}, {-1, []int{0}, false},
		{63, []int{1}, false}, {64, []int{0}, false}, {1<<32 + 4, []int{3}, false}, {256 + 4, nil, false},
		{1, make([]int, 12), true}, {1, make([]int, 13), false}, {10, make([]int, 12), true}, {10, make([]int, 13), false}, {4, make([]int, 256+4), false},
		{10, slices.Repeat([]int{1023}, 12), true}, {10, slices.Repeat([]int{1023}, 13), false},
		{4, []int{3, 5}, true}, {4, []int{5, 3}, true}, {4, []int{3, 3}, true}, {4, []int{0, 0}, true},
		{1, []int{-1}, false}, {1, []int{0}, true}, {1, []int{1}, true}, {1, []int{2}, false}, {2, []int{3}, true}, {2, []int{4}, false}, {3, []int{7}, true}, {3, []int{8}, false},
		{9, []int{511}, true}, {9, []int{512}, false}, {10, []int{-1}, false}, {10, []int{0}, true}, {10, []int{1023}, true}, {10, []int{1024}, false},
		{10, []int{math.MinInt}, false}, {10, []int{math.MaxInt}, false}, {10, []int{1<<32 + 1}, false},
		{4, []int{1, 2, 16}, false}, {4, []int{16, 2, 1}, false}, {4, []int{1, -1, 2}, false},
	}
	for _, c := range named {
		if got := impl.PoolsOk(c.n, c.pools); got != c.want {
			t.Errorf("PoolsOk(%d, %v) = %v", c.n, c.pools, got)
		}
	}
}

// P9: any number of items with pools of any kind.
func TestP9PoolsOk(t *testing.T) {
	for _, n := range append(someInts(), farNumbers()...) {
		for _, pools := range [][]int{nil, {}, {0}, {1}, {2, 1}, {7, 8}, {15, 3, 16}, {1023}, {1024}, {-1}, {math.MaxInt}, {math.MinInt}, make([]int, 12), make([]int, 13)} {
			if got := impl.PoolsOk(n, pools); got != wantPoolsOk(n, pools) {
				t.Fatalf("PoolsOk(%d, %v) = %v", n, pools, got)
			}
		}
	}
	for n := range 13 {
		for _, pool := range someInts() {
			for _, pools := range [][]int{{pool}, {0, pool}, {pool, 0}, append(make([]int, 11), pool)} {
				if got := impl.PoolsOk(n, pools); got != wantPoolsOk(n, pools) {
					t.Fatalf("PoolsOk(%d, %v) = %v", n, pools, got)
				}
			}
		}
	}
	for _, b := range append(smallBenches(), someBenches()...) {
		if !impl.PoolsOk(b.n, b.pools) {
			t.Fatalf("PoolsOk(%d, %v) is false", b.n, b.pools)
		}
	}
	for _, b := range wrongBenches() {
		if impl.PoolsOk(b.n, b.pools) {
			t.Fatalf("PoolsOk(%d, %v) is true", b.n, b.pools)
		}
	}
}

func TestP9TestPoolsNamed(t *testing.T) {
	named := []struct {
		n     int
		pools []int
		bad   int
		want  string
		ok    bool
	}{
		{4, []int{3, 5}, 2, "+.", true}, {4, []int{3, 5}, 0, "..", true}, {4, []int{3, 5}, 1, "++", true}, {4, []int{3, 5}, 8, "..", true}, {4, []int{3, 5}, 15, "++", true}, {4, []int{3, 5}, 6, "++", true}, {4, []int{3, 5}, 4, ".+", true},
		{4, []int{5, 3}, 2, ".+", true}, {4, []int{3, 3, 0}, 2, "++.", true}, {4, nil, 0, "", true}, {4, []int{}, 15, "", true}, {4, nil, 16, "", false}, {4, nil, -1, "", false},
		{4, []int{3, 5}, -1, "", false}, {4, []int{3, 5}, 16, "", false}, {4, []int{3, 5}, math.MinInt, "", false}, {4, []int{3, 5}, math.MaxInt, "", false}, {4, []int{3, 5}, 1<<32 + 2, "", false},
		{1, []int{1, 0}, 0, "..", true}, {1, []int{1, 0}, 1, "+.", true}, {1, []int{1, 0}, 2, "", false}, {1, []int{1, 0}, -1, "", false},
		{10, []int{1023, 512, 1, 0}, 1023, "+++.", true}, {10, []int{1023, 512, 1, 0}, 512, "++..", true}, {10, []int{1023, 512, 1, 0}, 511, "+.+.", true}, {10, []int{1023, 512, 1, 0}, 0, "....", true},
		{10, []int{1023}, 1024, "", false}, {10, []int{1023}, -1, "", false},
		{10, []int{1, 2, 4, 8, 16, 32, 64, 128, 256, 512, 0, 1023}, 0b1010011001, "+..++..+.+.+", true},
		{0, nil, 0, "", false}, {11, nil, 0, "", false}, {11, []int{1}, 1, "", false}, {math.MinInt, nil, 0, "", false}, {math.MaxInt, nil, 0, "", false}, {-1, []int{0}, 0, "", false}, {64, []int{1}, 1, "", false},
		{3, []int{8}, 1, "", false}, {3, []int{-1}, 1, "", false}, {3, []int{1, 8}, 1, "", false}, {3, make([]int, 13), 1, "", false}, {3, make([]int, 12), 1, "............", true},
	}
	for _, c := range named {
		got, ok := impl.TestPools(c.n, c.pools, c.bad)
		if ok != c.ok || resultText(got) != c.want {
			t.Errorf("TestPools(%d, %v, %d) = %v, %v, want %q, %v", c.n, c.pools, c.bad, got, ok, c.want, c.ok)
		}
	}
}

// resultText writes results as pluses and points.
func resultText(results []bool) string {
	var text strings.Builder
	for _, positive := range results {
		text.WriteString(map[bool]string{true: "+", false: "."}[positive])
	}
	return text.String()
}

// resultsFrom reads pluses and points.
func resultsFrom(text string) []bool {
	var results []bool
	for _, r := range text {
		results = append(results, r == '+')
	}
	return results
}

func TestP9TestPools(t *testing.T) {
	check := func(b bench, bad int) {
		if got, ok := impl.TestPools(b.n, b.pools, bad); !ok || !slices.Equal(got, wantResults(b.pools, bad)) {
			t.Fatalf("TestPools(%d, %v, %d) = %v, %v", b.n, b.pools, bad, got, ok)
		}
	}
	for _, b := range append(smallBenches(), someBenches()...) {
		for _, bad := range someBad(b.n, 3) {
			check(b, bad)
		}
		for _, bad := range wrongSets(b.n) {
			if got, ok := impl.TestPools(b.n, b.pools, bad); ok || len(got) > 0 {
				t.Fatalf("TestPools(%d, %v, %d) = %v, %v", b.n, b.pools, bad, got, ok)
			}
		}
	}
	for _, b := range wrongBenches() {
		for _, bad := range []int{0, 1, 2, 15, 1023, -1, 1024, math.MinInt, math.MaxInt} {
			if got, ok := impl.TestPools(b.n, b.pools, bad); ok || len(got) > 0 {
				t.Fatalf("TestPools(%d, %v, %d) = %v, %v", b.n, b.pools[:min(len(b.pools), 14)], bad, got, ok)
			}
		}
	}
}

func TestP9ConsistentSetsNamed(t *testing.T) {
	named := []struct {
		n       int
		pools   []int
		results string
		most    int
		want    []int
	}{
		{4, []int{3, 5}, "+.", 2, []int{2, 10}}, {4, []int{3, 5}, "+.", 1, []int{2}}, {4, []int{3, 5}, "+.", 0, nil}, {4, []int{3, 5}, "+.", -1, nil}, {4, []int{3, 5}, "+.", 4, []int{2, 10}},
		{4, []int{3, 5}, "..", 2, []int{0, 8}}, {4, []int{3, 5}, "..", 0, []int{0}}, {4, []int{3, 5}, "..", -1, nil}, {4, []int{3, 5}, "..", math.MinInt, nil}, {4, []int{3, 5}, "..", math.MaxInt, []int{0, 8}},
		{4, []int{3, 5}, "++", 1, []int{1}}, {4, []int{3, 5}, "++", 2, []int{1, 3, 5, 6, 9}}, {4, []int{3, 5}, "++", 3, []int{1, 3, 5, 6, 7, 9, 11, 13, 14}},
		{4, []int{3, 5}, "++", 4, []int{1, 3, 5, 6, 7, 9, 11, 13, 14, 15}}, {4, []int{3, 5}, "++", 5, []int{1, 3, 5, 6, 7, 9, 11, 13, 14, 15}}, {4, []int{3, 5}, "++", 1 << 32, []int{1, 3, 5, 6, 7, 9, 11, 13, 14, 15}},
		// The wrong number of results.
		{4, []int{3, 5}, "", 2, nil}, {4, []int{3, 5}, "+", 2, nil}, {4, []int{3, 5}, "+.+", 2, nil}, {4, []int{3, 5}, "..+", 4, nil}, {4, []int{3, 5}, "...", 4, nil}, {4, nil, ".", 4, nil}, {4, nil, "+", 4, nil},
		// Results that no set has.
		{4, []int{3, 3}, "+.", 4, nil}, {4, []int{3, 7}, "+.", 4, nil}, {4, []int{0}, "+", 4, nil}, {4, []int{0}, ".", 1, []int{0, 1, 2, 4, 8}}, {2, []int{1, 2, 3}, "..+", 2, nil}, {2, []int{1, 2, 3}, "+..", 2, nil},
		// No pools.
		{2, nil, "", 2, []int{0, 1, 2, 3}}, {2, []int{}, "", 1, []int{0, 1, 2}}, {2, nil, "", 0, []int{0}}, {2, nil, "", -1, nil}, {3, nil, "", 2, []int{0, 1, 2, 3, 4, 5, 6}}, {1, nil, "", 1, []int{0, 1}}, {1, nil, "", 2, []int{0, 1}},
		{10, nil, "", 1, []int{0, 1, 2, 4, 8, 16, 32, 64, 128, 256, 512}}, {10, []int{512}, "+", 1, []int{512}}, {10, []int{1023}, ".", 10, []int{0}}, {10, []int{511}, ".", 10, []int{0, 512}},
		// Pools that are not valid.
		{0, nil, "", 1, nil}, {11, nil, "", 1, nil}, {11, []int{1}, "+", 1, nil}, {math.MinInt, nil, "", 1, nil}, {math.MaxInt, nil, "", 1, nil}, {-1, []int{0}, ".", 1, nil}, {64, nil, "", 0, nil},
		{3, []int{8}, ".", 3, nil}, {3, []int{-1}, "+", 3, nil}, {3, make([]int, 12), "............", 0, []int{0}}, {3, make([]int, 13), ".............", 0, nil},
	}
	for _, c := range named {
		if got := impl.ConsistentSets(c.n, c.pools, resultsFrom(c.results), c.most); !slices.Equal(got, c.want) {
			t.Errorf("ConsistentSets(%d, %v, %q, %d) = %v, want %v", c.n, c.pools, c.results, c.most, got, c.want)
		}
	}
	// Without pools, all sets of at most so many items.
	for most, count := range []int{1, 11, 56, 176, 386, 638, 848, 968, 1013, 1023, 1024, 1024, 1024} {
		got := impl.ConsistentSets(10, nil, nil, most)
		if len(got) != count || !slices.IsSorted(got) || got[0] != 0 {
			t.Errorf("ConsistentSets(10, nil, nil, %d) has %d sets, want %d: %v", most, len(got), count, got)
		}
	}
}

func TestP9ConsistentSets(t *testing.T) {
	none := 0
	check := func(b bench, results []bool, most int) {
		want := wantConsistent(b.n, b.pools, results, most)
		if got := impl.ConsistentSets(b.n, b.pools, results, most); !slices.Equal(got, want) {
			t.Fatalf("ConsistentSets(%d, %v, %v, %d) = %v, want %v", b.n, b.pools, results, most, got, want)
		}
		if most >= b.n && len(want) == 0 {
			none++
		}
	}
	for _, b := range smallBenches() {
		for _, results := range allResults(len(b.pools)) {
			for most := -1; most <= b.n+1; most++ {
				check(b, results, most)
			}
		}
	}
	for i, b := range someBenches() {
		if b.n > 6 && i%4 != 0 {
			continue
		}
		for k, results := range someResults(b) {
			check(b, results, []int{2, 1, b.n, b.n + 1, 3, 0, b.n - 1, -1}[(i+k)%8])
		}
	}
	if none < 1000 {
		t.Errorf("only %d results are those of no set", none)
	}
}

// P9: no set has fewer or more results than there are pools, and pools that are not valid have no consistent set.
func TestP9ConsistentSetsInvalid(t *testing.T) {
	for _, b := range append(smallBenches(), someBenches()...) {
		for _, results := range wrongCounts(wantResults(b.pools, 1)) {
			if got := impl.ConsistentSets(b.n, b.pools, results, b.n); len(got) > 0 {
				t.Fatalf("ConsistentSets(%d, %v, %d results, %d) = %v", b.n, b.pools, len(results), b.n, got)
			}
		}
		for _, most := range farNumbers() {
			full := impl.ConsistentSets(b.n, b.pools, make([]bool, len(b.pools)), 10)
			if got := impl.ConsistentSets(b.n, b.pools, make([]bool, len(b.pools)), most); most < 0 && len(got) > 0 || most >= b.n && !slices.Equal(got, full) {
				t.Fatalf("ConsistentSets(%d, %v, all negative, %d) = %v, of all sets %v", b.n, b.pools, most, got, full)
			}
		}
	}
	for _, b := range wrongBenches() {
		for _, results := range [][]bool{nil, make([]bool, len(b.pools)), slices.Repeat([]bool{true}, len(b.pools)), wantResults(b.pools, 1)} {
			for _, most := range []int{-1, 0, 1, 10, math.MaxInt} {
				if got := impl.ConsistentSets(b.n, b.pools, results, most); len(got) > 0 {
					t.Fatalf("ConsistentSets(%d, %v, %d results, %d) = %v", b.n, b.pools[:min(len(b.pools), 14)], len(results), most, got)
				}
			}
		}
	}
}

func TestP9SureNamed(t *testing.T) {
	named := []struct {
		n         int
		pools     []int
		results   string
		good, bad int
	}{
		{4, []int{3, 5}, "+.", 5, 2}, {4, []int{3, 5}, ".+", 3, 4}, {4, []int{3, 5}, "..", 7, 0}, {4, []int{3, 5}, "++", 0, 0}, {4, []int{5, 3}, ".+", 5, 2},
		// The item is the only one of its pool, or the others of it are good by several pools together.
		{4, []int{8}, "+", 0, 8}, {4, []int{8}, ".", 8, 0}, {4, []int{15, 1, 2, 4}, "+...", 7, 8}, {4, []int{1, 2, 4, 15}, "...+", 7, 8}, {4, []int{15, 1, 2}, "+..", 3, 0}, {4, []int{15, 7}, "+.", 7, 8},
		{4, []int{1, 2, 4, 8}, "++++", 0, 15}, {4, []int{1, 2, 4, 8}, "....", 15, 0}, {4, []int{1, 2, 4, 8}, "+.+.", 10, 5}, {4, []int{3, 12, 2, 8}, "++..", 10, 5}, {4, []int{3, 12, 1, 4}, "++++", 0, 5},
		// An item that is surely bad does not make the other ones of its pool good, and one with a pool of its own is bad also if others hold it.
		{4, []int{1, 3}, "++", 0, 1}, {4, []int{3, 1, 2}, "++.", 2, 1}, {2, []int{3, 1}, "++", 0, 1}, {4, []int{1, 1, 1}, "+++", 0, 1},
		// Results that no set has.
		{4, []int{3, 3}, "+.", 3, 0}, {4, []int{1, 1}, "+.", 1, 0}, {4, []int{7, 3, 3}, "++.", 3, 4}, {4, []int{0}, "+", 0, 0}, {4, []int{0, 3, 1}, "++.", 1, 2}, {3, []int{7, 1, 2, 4}, "+...", 7, 0},
		// Empty pools, and no pools.
		{4, []int{0}, ".", 0, 0}, {4, nil, "", 0, 0}, {4, []int{}, "", 0, 0}, {1, []int{1}, "+", 0, 1}, {1, []int{1}, ".", 1, 0},
		{10, []int{1023, 511}, "+.", 511, 512}, {10, []int{1023}, ".", 1023, 0}, {10, []int{1023}, "+", 0, 0}, {10, []int{512, 1}, "++", 0, 513},
		{10, []int{1, 2, 4, 8, 16, 32, 64, 128, 256, 512, 0, 1023}, "+..++..+.+.+", 0b0101100110, 0b1010011001},
		// The wrong number of results.
		{4, []int{3, 5}, "", 0, 0}, {4, []int{3, 5}, ".", 0, 0}, {4, []int{3, 5}, "...", 0, 0}, {4, []int{1, 2}, "+", 0, 0}, {4, []int{1, 2}, "+++", 0, 0}, {4, nil, ".", 0, 0}, {4, nil, "+", 0, 0},
		// Pools that are not valid.
		{0, nil, "", 0, 0}, {0, []int{1}, ".", 0, 0}, {0, []int{1}, "+", 0, 0}, {11, []int{1}, ".", 0, 0}, {11, []int{1}, "+", 0, 0}, {math.MinInt, []int{1}, ".", 0, 0}, {math.MaxInt, []int{1}, "+", 0, 0},
		{3, []int{8}, ".", 0, 0}, {3, []int{8}, "+", 0, 0}, {3, []int{1, 8}, "..", 0, 0}, {3, []int{1, 8}, "+.", 0, 0}, {3, []int{-1}, ".", 0, 0}, {3, []int{1, -1}, "+.", 0, 0},
		{3, slices.Repeat([]int{1}, 12), "............", 1, 0}, {3, slices.Repeat([]int{1}, 13), ".............", 0, 0}, {3, slices.Repeat([]int{1}, 12), "++++++++++++", 0, 1}, {3, slices.Repeat([]int{1}, 13), "+++++++++++++", 0, 0},
	}
	for _, c := range named {
		results := resultsFrom(c.results)
		if good, bad := impl.SurelyGood(c.n, c.pools, results), impl.SurelyBad(c.n, c.pools, results); good != c.good || bad != c.bad {
			t.Errorf("%d items, pools %v, results %q: SurelyGood is %d, want %d, SurelyBad is %d, want %d", c.n, c.pools, c.results, good, c.good, bad, c.bad)
		}
	}
}

// P9: all results, also those that no set has.
func TestP9Sure(t *testing.T) {
	check := func(b bench, results []bool) {
		good, bad := wantSure(b.n, b.pools, results)
		if got := impl.SurelyGood(b.n, b.pools, results); got != good {
			t.Fatalf("SurelyGood(%d, %v, %v) = %d, want %d", b.n, b.pools, results, got, good)
		}
		if got := impl.SurelyBad(b.n, b.pools, results); got != bad {
			t.Fatalf("SurelyBad(%d, %v, %v) = %d, want %d", b.n, b.pools, results, got, bad)
		}
	}
	for _, b := range smallBenches() {
		for _, results := range allResults(len(b.pools)) {
			check(b, results)
		}
	}
	for _, b := range someBenches() {
		for _, results := range someResults(b) {
			check(b, results)
		}
		if len(b.pools) <= 8 {
			for _, results := range allResults(len(b.pools)) {
				check(b, results)
			}
		}
	}
}

func TestP9SureInvalid(t *testing.T) {
	check := func(b bench, results []bool) {
		if good, bad := impl.SurelyGood(b.n, b.pools, results), impl.SurelyBad(b.n, b.pools, results); good != 0 || bad != 0 {
			t.Fatalf("%d items, pools %v, %d results: SurelyGood is %d, SurelyBad is %d", b.n, b.pools[:min(len(b.pools), 14)], len(results), good, bad)
		}
	}
	for _, b := range append(smallBenches(), someBenches()...) {
		for _, bad := range []int{0, 1, setsUpTo(b.n) - 1} {
			for _, results := range wrongCounts(wantResults(b.pools, bad)) {
				check(b, results)
			}
		}
	}
	for _, b := range wrongBenches() {
		for _, results := range [][]bool{nil, make([]bool, len(b.pools)), slices.Repeat([]bool{true}, len(b.pools)), wantResults(b.pools, 1)} {
			check(b, results)
		}
	}
}

func TestP9CountItems(t *testing.T) {
	named := []struct{ set, want int }{
		{0, 0}, {1, 1}, {2, 1}, {3, 2}, {11, 3}, {512, 1}, {1023, 10}, {1024, 1}, {1025, 2}, {65535, 16}, {1 << 32, 1}, {1<<32 + 1, 2}, {1 << 62, 1}, {1<<62 - 1, 62}, {math.MaxInt, 63}, {math.MaxInt - 1, 62}, {math.MaxInt32, 31}, {math.MaxUint32, 32},
		{-1, 0}, {-2, 0}, {-1024, 0}, {-1 << 32, 0}, {math.MinInt, 0}, {math.MinInt + 1, 0}, {math.MinInt + 1023, 0}, {math.MinInt32, 0},
	}
	for _, c := range named {
		if got := impl.CountItems(c.set); got != c.want {
			t.Errorf("CountItems(%d) = %d, want %d", c.set, got, c.want)
		}
	}
	for _, set := range someInts() {
		if got := impl.CountItems(set); got != len(wantItems(set)) {
			t.Errorf("CountItems(%d) = %d, want %d", set, got, len(wantItems(set)))
		}
	}
	for set := range 1 << 16 {
		if got := impl.CountItems(set); got != len(wantItems(set)) {
			t.Fatalf("CountItems(%d) = %d, want %d", set, got, len(wantItems(set)))
		}
	}
}

func TestP9SetText(t *testing.T) {
	named := map[int]string{0: "-", 1: "0", 2: "1", 3: "01", 4: "2", 10: "13", 11: "013", 512: "9", 513: "09", 1022: "123456789", 1023: "0123456789",
		-1: "", 1024: "", 1025: "", 2047: "", 1 << 32: "", 1<<32 + 1: "", -1024: "", -1023: "", math.MinInt: "", math.MinInt + 1: "", math.MaxInt: "", math.MaxInt - 1: ""}
	for set, want := range named {
		if got := impl.SetText(set); got != want {
			t.Errorf("SetText(%d) = %q, want %q", set, got, want)
		}
	}
	seen := map[string]bool{}
	for set := range 1024 {
		got := impl.SetText(set)
		if got != wantDigits(set) || seen[got] {
			t.Errorf("SetText(%d) = %q, want %q", set, got, wantDigits(set))
		}
		seen[got] = true
	}
	for _, set := range someInts() {
		if got := impl.SetText(set); (set < 0 || set > 1023) && got != "" {
			t.Errorf("SetText(%d) = %q", set, got)
		}
	}
}

// textsOfSets returns every set under its text.
func textsOfSets() map[string]int {
	sets := map[string]int{}
	for set := range 1024 {
		sets[wantDigits(set)] = set
	}
	return sets
}

func TestP9ReadSetNamed(t *testing.T) {
	read := map[string]int{"-": 0, "0": 1, "9": 512, "01": 3, "013": 11, "09": 513, "123456789": 1022, "0123456789": 1023}
	for text, want := range read {
		if got, ok := impl.ReadSet(text); !ok || got != want {
			t.Errorf("ReadSet(%q) = %d, %v, want %d", text, got, ok, want)
		}
	}
	refused := []string{"", "31", "10", "90", "9876543210", "0123456798", "1023456789", "00", "11", "99", "011", "001", "0119", "01234567899", "00123456789", "01234567890", "10123456789",
		"--", "-0", "0-", "-1", "1-", "0-1", "---", "+", "+1", "1+", " ", " 1", "1 ", "0 1", "- ", " -", "0,1", "0.1", "0_1", "\n", "1\n", "-\n", "\t1", "\x00", "1\x00", "\x001", "-\x00", "\xff", "1\xff", "\xff1", "-\xff", "\x80",
		"a", "1a", "a1", "0x1", "1e2", "/", ":", "0/", "0:", "\u0661", "0\u0661", "\uff11", "0\uff11", "\u00b2", "\u2212", "\u2013", "\ufffd", "1\ufffd", "\u00b9", "\U0001d7ce",
		"none", "1024", "1023", "NaN", strings.Repeat("0", 1000), strings.Repeat("0123456789", 100), strings.Repeat("-", 1000), strings.Repeat(" ", 100000) + "1", "0123456789" + strings.Repeat("x", 100000)}
	for _, text := range refused {
		if got, ok := impl.ReadSet(text); ok || got != 0 {
			t.Errorf("ReadSet(%.20q) = %d, %v", text, got, ok)
		}
	}
}

// P9: every text of a set is read, and no other of those that come near it.
func TestP9ReadSet(t *testing.T) {
	sets := textsOfSets()
	check := func(text string) {
		want, ok := sets[text]
		if got, fine := impl.ReadSet(text); fine != ok || got != want {
			t.Fatalf("ReadSet(%q) = %d, %v, want %d, %v", text, got, fine, want, ok)
		}
	}
	for text, set := range sets {
		check(text)
		if impl.SetText(set) != text {
			t.Fatalf("SetText(%d) = %q, want %q", set, impl.SetText(set), text)
		}
		for place := range len(text) + 1 {
			for _, other := range []string{"0", "5", "9", "-", " ", "+", "/", ":", "\x00", "\xff", "\u0665"} {
				check(text[:place] + other + text[place:])
				if place < len(text) {
					check(text[:place] + other + text[place+1:])
				}
			}
		}
	}
	for _, text := range texts([]string{"0", "1", "2", "8", "9", "-", " ", "\xff", "\u0661"}, 5) {
		check(text)
	}
	for _, text := range everyByte() {
		check(text)
	}
	for _, n := range someInts() {
		check(strconv.Itoa(n))
	}
}

// resultsGuard holds results with room behind them, and what both were at first.
type resultsGuard struct {
	list, whole, first []bool
}

func guardedResults(results []bool) resultsGuard {
	whole := append(slices.Clone(results), true, false, false, true)
	return resultsGuard{whole[:len(results)], whole, slices.Clone(whole)}
}

func (g resultsGuard) same() bool { return slices.Equal(g.whole, g.first) }

// turnResults turns each result, and the room behind them, into the opposite.
func turnResults(lists ...[]bool) {
	for _, l := range lists {
		l = l[:cap(l)]
		for i := range l {
			l[i] = !l[i]
		}
	}
}

// P9: pools, results and the room behind them stay as they are, and what is returned shares no memory with them.
func TestP9PoolsArguments(t *testing.T) {
	benches := append(someBenches(), bench{0, []int{1}}, bench{11, []int{1}}, bench{3, []int{8, 1}}, bench{3, []int{1, -1}}, bench{3, make([]int, 13)}, bench{math.MinInt, []int{1, 2}}, bench{math.MaxInt, nil})
	for _, b := range benches {
		for _, results := range append(wrongCounts(wantResults(b.pools, 1))[:2], wantResults(b.pools, 1), make([]bool, len(b.pools)), slices.Repeat([]bool{true}, len(b.pools))) {
			pools, answers := guarded(b.pools...), guardedResults(results)
			impl.PoolsOk(b.n, pools.list)
			got, _ := impl.TestPools(b.n, pools.list, 1)
			sets := impl.ConsistentSets(b.n, pools.list, answers.list, 3)
			impl.SurelyGood(b.n, pools.list, answers.list)
			impl.SurelyBad(b.n, pools.list, answers.list)
			if !pools.same() || !answers.same() {
				t.Fatalf("an argument was changed: %v, %v", pools.whole, answers.whole)
			}
			turnResults(got)
			spoil(sets)
			if !pools.same() || !answers.same() {
				t.Fatalf("a result shares memory with an argument: %v, %v", pools.whole, answers.whole)
			}
		}
	}
}

// P9: no two results share memory.
func TestP9PoolsResults(t *testing.T) {
	for _, b := range someBenches() {
		for _, bad := range []int{0, 1, setsUpTo(b.n) - 1} {
			want := wantResults(b.pools, bad)
			one, two := tested(t, b, bad), tested(t, b, bad)
			turnResults(one)
			if !slices.Equal(two, want) || !slices.Equal(tested(t, b, bad), want) {
				t.Fatalf("two results of TestPools share memory: %v, want %v", two, want)
			}
			sets := impl.ConsistentSets(b.n, b.pools, want, 2)
			again := impl.ConsistentSets(b.n, b.pools, want, 2)
			first := slices.Clone(sets)
			spoil(sets)
			if !slices.Equal(again, first) || !slices.Equal(impl.ConsistentSets(b.n, b.pools, want, 2), first) {
				t.Fatalf("two results of ConsistentSets share memory: %v, want %v", again, first)
			}
		}
	}
}

// P9: a nil slice and an empty one are the same.
func TestP9PoolsNil(t *testing.T) {
	for n := -1; n <= 12; n++ {
		if impl.PoolsOk(n, nil) != impl.PoolsOk(n, []int{}) || impl.SurelyGood(n, nil, nil) != 0 || impl.SurelyBad(n, []int{}, []bool{}) != 0 {
			t.Errorf("%d items: a nil slice is not an empty one", n)
		}
		for _, pools := range [][]int{nil, {}} {
			one, ok := impl.TestPools(n, pools, 0)
			if ok != (n >= 1 && n <= 10) || len(one) > 0 {
				t.Errorf("TestPools(%d, %#v, 0) = %v, %v", n, pools, one, ok)
			}
			for _, results := range [][]bool{nil, {}} {
				if got := impl.ConsistentSets(n, pools, results, 0); !slices.Equal(got, make([]int, map[bool]int{true: 1}[ok])) {
					t.Errorf("ConsistentSets(%d, %#v, %#v, 0) = %v", n, pools, results, got)
				}
			}
		}
	}
}

// P9: a call that is repeated many times, with other calls in between, returns the same.
func TestP9PoolsRepeated(t *testing.T) {
	pools := []int{3, 5}
	results := []bool{true, false}
	for range 2000 {
		if !impl.PoolsOk(4, pools) || impl.PoolsOk(2, pools) || impl.PoolsOk(11, pools) || !impl.PoolsOk(10, nil) {
			t.Fatal("PoolsOk changes")
		}
		one, ok := impl.TestPools(4, pools, 2)
		none, wrong := impl.TestPools(4, pools, 16)
		other, fine := impl.TestPools(3, pools, 4)
		if !ok || resultText(one) != "+." || wrong || len(none) > 0 || !fine || resultText(other) != ".+" {
			t.Fatalf("TestPools changes: %v, %v, %v, %v, %v, %v", one, ok, none, wrong, other, fine)
		}
		two, three := impl.ConsistentSets(4, pools, results, 2), impl.ConsistentSets(3, pools, results, 2)
		if !slices.Equal(two, []int{2, 10}) || !slices.Equal(three, []int{2}) || len(impl.ConsistentSets(2, pools, results, 2)) > 0 {
			t.Fatalf("ConsistentSets changes: %v, %v", two, three)
		}
		if impl.SurelyGood(4, pools, results) != 5 || impl.SurelyGood(4, pools, nil) != 0 || impl.SurelyBad(4, pools, results) != 2 || impl.SurelyBad(4, pools, []bool{true, true}) != 0 {
			t.Fatal("SurelyGood or SurelyBad changes")
		}
		if impl.CountItems(11) != 3 || impl.CountItems(-1) != 0 || impl.SetText(11) != "013" || impl.SetText(0) != "-" || impl.SetText(1024) != "" {
			t.Fatal("CountItems or SetText changes")
		}
		set, read := impl.ReadSet("013")
		if zero, refused := impl.ReadSet("31"); set != 11 || !read || zero != 0 || refused {
			t.Fatalf("ReadSet changes: %d, %v, %d, %v", set, read, zero, refused)
		}
		turnResults(one, other)
		spoil(two, three)
	}
	// The same slices with other contents are other pools and other results.
	pools[0], results[1] = 8, true
	if got := impl.ConsistentSets(4, pools, results, 2); !slices.Equal(got, []int{9, 12}) || impl.SurelyBad(4, pools, results) != 8 || impl.SurelyGood(4, pools, results) != 0 {
		t.Errorf("ConsistentSets(4, %v, %v, 2) = %v", pools, results, got)
	}
}

// P9: calls at the same time do not disturb each other.
func TestP9PoolsTogether(t *testing.T) {
	benches := someBenches()
	wrong := make([]int, 8)
	var group sync.WaitGroup
	for worker := range wrong {
		group.Go(func() {
			for i := worker; i < len(benches); i += 5 {
				b := benches[i]
				results, ok := impl.TestPools(b.n, b.pools, 1)
				good, bad := wantSure(b.n, b.pools, results)
				if !ok || !slices.Equal(results, wantResults(b.pools, 1)) || impl.SurelyGood(b.n, b.pools, results) != good || impl.SurelyBad(b.n, b.pools, results) != bad {
					wrong[worker]++
				}
				if !slices.Contains(impl.ConsistentSets(b.n, b.pools, results, 1), 1) {
					wrong[worker]++
				}
			}
		})
	}
	group.Wait()
	if slices.Max(wrong) > 0 {
		t.Errorf("wrong answers: %v", wrong)
	}
}

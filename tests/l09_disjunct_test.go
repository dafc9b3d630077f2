package tests

import (
	"math"
	"runtime"
	"slices"
	"sync"
	"testing"
	"time"

	"loop.example/g01040/impl"
)

// setsWith returns, in ascending order, the sets of at most d items from 0 up to n.
func setsWith(n, d int) []int {
	var sets []int
	for set := range setsUpTo(n) {
		if len(wantItems(set)) <= d {
			sets = append(sets, set)
		}
	}
	return sets
}

// isApart reports whether some pool contains the item and none of the set.
func isApart(pools []int, item, set int) bool {
	for _, pool := range pools {
		if wantResult(pool, setOf(item)) && !wantResult(pool, set) {
			return true
		}
	}
	return false
}

// wantDisjunct goes through all items and all sets of at most d other ones.
func wantDisjunct(n int, pools []int, d int) bool {
	if !wantPoolsOk(n, pools) || d < 1 || d > 3 {
		return false
	}
	for item := range n {
		for _, set := range setsWith(n, d) {
			if !slices.Contains(wantItems(set), item) && !isApart(pools, item, set) {
				return false
			}
		}
	}
	return true
}

// wantWeakness compares each set with all greater ones.
func wantWeakness(n int, pools []int, d int) []int {
	if !wantPoolsOk(n, pools) || d < 1 || d > 3 {
		return nil
	}
	sets := setsWith(n, d)
	texts := map[int]string{}
	for _, set := range sets {
		texts[set] = resultText(wantResults(pools, set))
	}
	for _, lesser := range sets {
		for _, other := range sets {
			if other > lesser && texts[other] == texts[lesser] {
				return []int{lesser, other}
			}
		}
	}
	return nil
}

// wantDecoded looks for the items that are in no pool with a negative result.
func wantDecoded(n int, pools []int, results []bool) (int, bool) {
	if !wantPoolsOk(n, pools) || len(results) != len(pools) {
		return 0, false
	}
	var left []int
	for item := range n {
		cleared := false
		for i, pool := range pools {
			cleared = cleared || !results[i] && slices.Contains(wantItems(pool), item)
		}
		if !cleared {
			left = append(left, item)
		}
	}
	if !slices.Equal(wantResults(pools, setOf(left...)), results) {
		return 0, false
	}
	return setOf(left...), true
}

// poolLists returns all ascending lists of at most most pools of n items.
func poolLists(n, most int) [][]int {
	lists := [][]int{nil}
	for first := 0; first < len(lists); first++ {
		l := lists[first]
		if len(l) == most {
			continue
		}
		next := 0
		if len(l) > 0 {
			next = l[len(l)-1] + 1
		}
		for pool := next; pool < setsUpTo(n); pool++ {
			lists = append(lists, append(slices.Clone(l), pool))
		}
	}
	return lists
}

// pairPools are all pools of two items: each item is apart from any single other one, and from n - 2 of them.
func pairPools(n int) []int {
	var pools []int
	for a := range n {
		for b := range a {
			pools = append(pools, setOf(a, b))
		}
	}
	return pools
}

// tellingBenches are pools of which many are disjunct or separable.
func tellingBenches() []bench {
	var list []bench
	for n := 1; n <= 3; n++ {
		for _, pools := range poolLists(n, 8) {
			list = append(list, bench{n, pools})
		}
	}
	for _, pools := range poolLists(4, 4) {
		list = append(list, bench{4, pools})
	}
	for n := 2; n <= 5; n++ {
		list = append(list, bench{n, pairPools(n)})
	}
	for n := 2; n <= 10; n++ {
		backward := singles(n)
		slices.Reverse(backward)
		list = append(list, bench{n, backward}, bench{n, singles(n)[1:]}, bench{n, singles(n)[:n-1]}, bench{n, append(singles(n)[1:], setsUpTo(n)-1)})
		short := bitPairs(n)
		list = append(list, bench{n, short[1:]}, bench{n, short[:len(short)-1]}, bench{n, append(slices.Clone(short), singles(n)[:min(n, 12-len(short))]...)})
	}
	return append(list, bench{9, lines()}, bench{9, lines()[:9]}, bench{9, lines()[:6]})
}

// lines are those of a square of nine points, three in each of four directions: an item shares only one with each other item,
// so that in k directions k - 1 other items leave it one.
func lines() []int { return []int{7, 56, 448, 73, 146, 292, 273, 98, 140, 84, 266, 161} }

// allBenches are valid pools of all kinds.
func allBenches() []bench { return slices.Concat(smallBenches(), someBenches(), tellingBenches()) }

// wrongBounds are numbers of bad items that one may not ask about.
func wrongBounds() []int { return append(farNumbers(), 0) }

// decoded returns the set that DecodeItems finds for the results of a bad set.
func decoded(t *testing.T, b bench, bad int) int {
	t.Helper()
	set, ok := impl.DecodeItems(b.n, b.pools, tested(t, b, bad))
	if !ok {
		t.Fatalf("DecodeItems(%d, %v, ..) finds nothing for the results of %d", b.n, b.pools, bad)
	}
	return set
}

// P4: if the pools are d-disjunct and at most d items are bad, DecodeItems gives the set of the bad items; and if they are not, it misses one.
func TestP4DisjunctDecode(t *testing.T) {
	found := map[bool]int{}
	for _, b := range allBenches() {
		for d := 1; d <= 3; d++ {
			disjunct := impl.IsDisjunct(b.n, b.pools, d)
			all := true
			for _, bad := range setsWith(b.n, d) {
				right := decoded(t, b, bad) == bad
				all = all && right
				if disjunct && !right {
					t.Fatalf("%d items, pools %v are %d-disjunct, but %d is decoded as %d", b.n, b.pools, d, bad, decoded(t, b, bad))
				}
			}
			if all != disjunct {
				t.Fatalf("%d items, pools %v are not %d-disjunct, but all sets are decoded", b.n, b.pools, d)
			}
			found[disjunct]++
		}
	}
	if found[true] < 300 || found[false] < 1000 {
		t.Errorf("disjunct or not: %v", found)
	}
}

// P4: the pools of BitPools are 1-disjunct for n of at least 2, and tell the one bad item.
func TestP4BitPools(t *testing.T) {
	for n := 1; n <= 10; n++ {
		pools, ok := impl.BitPools(n)
		if !ok || !impl.PoolsOk(n, pools) || impl.IsDisjunct(n, pools, 1) != (n >= 2) || impl.IsSeparable(n, pools, 1) != (n >= 2) {
			t.Fatalf("BitPools(%d) = %v, %v", n, pools, ok)
		}
		if n == 1 {
			continue
		}
		for _, bad := range setsWith(n, 1) {
			if got := decoded(t, bench{n, pools}, bad); got != bad {
				t.Errorf("%d items, pools %v: %d is decoded as %d", n, pools, bad, got)
			}
		}
	}
}

// P4: pools of one item each decode every set.
func TestP4SinglePools(t *testing.T) {
	for n := 1; n <= 10; n++ {
		pools, ok := impl.SinglePools(n)
		if !ok {
			t.Fatalf("SinglePools(%d) fails", n)
		}
		for d := 1; d <= 3; d++ {
			if !impl.IsDisjunct(n, pools, d) || !impl.IsSeparable(n, pools, d) {
				t.Errorf("%d items, pools %v are not %d-disjunct or not %d-separable", n, pools, d, d)
			}
		}
		for bad := range setsUpTo(n) {
			if got := decoded(t, bench{n, pools}, bad); got != bad {
				t.Fatalf("%d items, pools %v: %d is decoded as %d", n, pools, bad, got)
			}
		}
	}
}

// P4: IsSeparable is true exactly if Weakness finds no two sets, and what it finds are two different sets with the same results.
func TestP4SeparableWeakness(t *testing.T) {
	found := map[bool]int{}
	for _, b := range allBenches() {
		for d := 1; d <= 3; d++ {
			separable := impl.IsSeparable(b.n, b.pools, d)
			pair, weak := impl.Weakness(b.n, b.pools, d)
			if separable == weak || weak != (len(pair) == 2) {
				t.Fatalf("%d items, pools %v, at most %d bad: separable is %v, Weakness is %v, %v", b.n, b.pools, d, separable, pair, weak)
			}
			found[separable]++
			if weak && (pair[0] >= pair[1] || impl.CountItems(pair[0]) > d || impl.CountItems(pair[1]) > d || !slices.Equal(tested(t, b, pair[0]), tested(t, b, pair[1]))) {
				t.Fatalf("Weakness(%d, %v, %d) = %v", b.n, b.pools, d, pair)
			}
		}
	}
	if found[true] < 1000 || found[false] < 1000 {
		t.Errorf("separable or not: %v", found)
	}
}

// P4: with d-separable pools, each set of at most d items is the only one that is consistent with its results, and with others it is not so.
func TestP4SeparableConsistent(t *testing.T) {
	for i, b := range allBenches() {
		if b.n > 5 && i%5 != 0 {
			continue
		}
		d := 1 + i%3
		alone := true
		for _, bad := range setsWith(b.n, d) {
			alone = alone && slices.Equal(impl.ConsistentSets(b.n, b.pools, tested(t, b, bad), d), []int{bad})
		}
		if impl.IsSeparable(b.n, b.pools, d) != alone {
			t.Fatalf("IsSeparable(%d, %v, %d) = %v", b.n, b.pools, d, !alone)
		}
	}
}

// P4: d-disjunct pools are d-separable, and what holds for d bad items holds for fewer.
func TestP4DisjunctSeparable(t *testing.T) {
	for _, b := range allBenches() {
		for d := 1; d <= 3; d++ {
			disjunct, separable := impl.IsDisjunct(b.n, b.pools, d), impl.IsSeparable(b.n, b.pools, d)
			if disjunct && !separable {
				t.Fatalf("%d items, pools %v are %d-disjunct, but not %d-separable", b.n, b.pools, d, d)
			}
			if d > 1 && (disjunct && !impl.IsDisjunct(b.n, b.pools, d-1) || separable && !impl.IsSeparable(b.n, b.pools, d-1)) {
				t.Fatalf("%d items, pools %v: what holds for %d bad items does not for %d", b.n, b.pools, d, d-1)
			}
		}
	}
}

// P4: FewestPools for d = 1 is the least k for which 2 to the power of k is at least n + 1.
func TestP4FewestPools(t *testing.T) {
	for n := 1; n <= 4; n++ {
		k := 0
		for setsUpTo(k) < n+1 {
			k++
		}
		if got := impl.FewestPools(n, 1); got != k {
			t.Errorf("FewestPools(%d, 1) = %d, want %d", n, got, k)
		}
	}
}

// P4: so many pools can be separable, and fewer cannot.
func TestP4FewestPoolsSeparable(t *testing.T) {
	for n := 1; n <= 4; n++ {
		for d := 1; d <= 2; d++ {
			fewest := impl.FewestPools(n, d)
			enough := 0
			for _, pools := range poolLists(n, fewest) {
				if !impl.IsSeparable(n, pools, d) {
					continue
				}
				if len(pools) < fewest {
					t.Fatalf("FewestPools(%d, %d) = %d, but %v are enough", n, d, fewest, pools)
				}
				enough++
			}
			if enough == 0 {
				t.Errorf("FewestPools(%d, %d) = %d, but none are enough", n, d, fewest)
			}
		}
	}
}

func TestP9DisjunctNamed(t *testing.T) {
	named := []struct {
		n                   int
		pools               []int
		d                   int
		disjunct, separable bool
	}{
		{4, []int{10, 5, 12, 3}, 1, true, true}, {4, []int{10, 5, 12, 3}, 2, false, false}, {4, []int{10, 5, 12, 3}, 3, false, false}, {4, []int{10, 12}, 1, false, false}, {3, []int{3, 5}, 1, false, true}, {3, []int{3, 5}, 2, false, false},
		{3, []int{1, 2, 4}, 1, true, true}, {3, []int{1, 2, 4}, 2, true, true}, {3, []int{1, 2, 4}, 3, true, true}, {3, []int{4, 2, 1}, 3, true, true}, {3, []int{1, 2}, 1, false, false}, {3, []int{7, 2, 4}, 1, false, true}, {3, []int{7, 2, 4}, 2, false, false},
		{3, []int{3, 5, 6}, 1, true, true}, {3, []int{3, 5, 6}, 2, false, false}, {3, []int{3, 5, 6}, 3, false, false}, {4, []int{3, 5, 6, 9, 10, 12}, 2, true, true}, {4, []int{3, 5, 6, 9, 10, 12}, 3, false, false},
		{9, lines(), 1, true, true}, {9, lines(), 2, true, true}, {9, lines(), 3, true, true}, {9, lines()[:9], 2, true, true}, {9, lines()[:9], 3, false, false}, {9, lines()[:6], 1, true, true}, {9, lines()[:6], 2, false, false},
		// d is greater than the number of items, or than that of the other ones.
		{1, []int{1}, 1, true, true}, {1, []int{1}, 2, true, true}, {1, []int{1}, 3, true, true}, {1, []int{0}, 1, false, false}, {1, []int{0}, 3, false, false}, {1, []int{0, 1}, 3, true, true},
		{2, []int{1, 2}, 2, true, true}, {2, []int{1, 2}, 3, true, true}, {2, []int{1, 3}, 1, false, true}, {2, []int{1, 3}, 2, false, false}, {2, []int{1, 3}, 3, false, false}, {2, []int{3}, 1, false, false}, {2, []int{3}, 3, false, false},
		// No pools.
		{1, nil, 1, false, false}, {1, []int{}, 1, false, false}, {1, nil, 3, false, false}, {2, nil, 1, false, false}, {10, nil, 1, false, false}, {10, []int{}, 3, false, false},
		// Other d.
		{3, []int{1, 2, 4}, 0, false, false}, {3, []int{1, 2, 4}, -1, false, false}, {3, []int{1, 2, 4}, 4, false, false}, {3, []int{1, 2, 4}, math.MinInt, false, false}, {3, []int{1, 2, 4}, math.MaxInt, false, false}, {3, []int{1, 2, 4}, 1<<32 + 1, false, false},
		{1, []int{1}, 0, false, false}, {1, []int{1}, -1, false, false}, {1, []int{1}, 4, false, false}, {10, nil, 0, false, false}, {5, []int{1, 2, 4, 8, 16}, 4, false, false}, {5, []int{1, 2, 4, 8, 16}, 5, false, false},
		// Other n, and pools that are not valid.
		{0, nil, 1, false, false}, {0, []int{1}, 1, false, false}, {11, nil, 1, false, false}, {11, singles(10), 1, false, false}, {math.MinInt, []int{1}, 1, false, false}, {math.MaxInt, []int{1}, 1, false, false}, {-1, nil, 1, false, false}, {64, []int{1}, 1, false, false},
		{3, []int{1, 2, 4, 8}, 1, false, false}, {3, []int{1, 2, 4, -1}, 1, false, false}, {3, []int{8, 1, 2, 4}, 1, false, false}, {2, []int{1, 2, math.MinInt}, 1, false, false}, {2, []int{1, 2, math.MaxInt}, 1, false, false},
		// Many pools.
		{10, singles(10), 1, true, true}, {10, singles(10), 2, true, true}, {10, singles(10), 3, true, true}, {10, append(singles(10), 0, 1023), 3, true, true}, {10, append(singles(10), 0, 0, 0), 1, false, false}, {10, singles(9), 1, false, false},
		{3, append(make([]int, 9), 1, 2, 4), 3, true, true}, {3, append(make([]int, 10), 1, 2, 4), 3, false, false}, {3, make([]int, 12), 1, false, false}, {3, make([]int, 13), 1, false, false},
	}
	for _, c := range named {
		if got := impl.IsDisjunct(c.n, c.pools, c.d); got != c.disjunct {
			t.Errorf("IsDisjunct(%d, %v, %d) = %v", c.n, c.pools, c.d, got)
		}
		if got := impl.IsSeparable(c.n, c.pools, c.d); got != c.separable {
			t.Errorf("IsSeparable(%d, %v, %d) = %v", c.n, c.pools, c.d, got)
		}
	}
}

// P9: all three against what the definitions say.
func TestP9DisjunctSeparable(t *testing.T) {
	for _, b := range allBenches() {
		for d := -1; d <= 5; d++ {
			if got := impl.IsDisjunct(b.n, b.pools, d); got != wantDisjunct(b.n, b.pools, d) {
				t.Fatalf("IsDisjunct(%d, %v, %d) = %v", b.n, b.pools, d, got)
			}
			want := wantWeakness(b.n, b.pools, d)
			if got, ok := impl.Weakness(b.n, b.pools, d); ok != (want != nil) || !slices.Equal(got, want) {
				t.Fatalf("Weakness(%d, %v, %d) = %v, %v, want %v", b.n, b.pools, d, got, ok, want)
			}
			if got := impl.IsSeparable(b.n, b.pools, d); got != (want == nil && d >= 1 && d <= 3) {
				t.Fatalf("IsSeparable(%d, %v, %d) = %v", b.n, b.pools, d, got)
			}
		}
	}
}

// P9: nothing is disjunct or separable, or has a weakness, for other numbers of bad items or for pools that are not valid.
func TestP9DisjunctInvalid(t *testing.T) {
	check := func(b bench, d int) {
		pair, weak := impl.Weakness(b.n, b.pools, d)
		if impl.IsDisjunct(b.n, b.pools, d) || impl.IsSeparable(b.n, b.pools, d) || weak || len(pair) > 0 {
			t.Fatalf("%d items, pools %v, at most %d bad: IsDisjunct, IsSeparable or Weakness (%v, %v)", b.n, b.pools[:min(len(b.pools), 14)], d, pair, weak)
		}
	}
	for _, b := range append(someBenches(), bench{3, []int{1, 2, 4}}, bench{9, lines()}) {
		for _, d := range wrongBounds() {
			check(b, d)
		}
	}
	for _, b := range wrongBenches() {
		for d := 0; d <= 4; d++ {
			check(b, d)
		}
	}
	for _, n := range append(farNumbers(), 0) {
		if n >= 1 && n <= 10 {
			continue
		}
		for _, pools := range [][]int{nil, {1}, {1, 2}, {1, 2, 4}} {
			for d := -1; d <= 4; d++ {
				check(bench{n, pools}, d)
			}
			check(bench{n, pools}, math.MinInt)
			check(bench{n, pools}, math.MaxInt)
		}
	}
}

func TestP9WeaknessNamed(t *testing.T) {
	named := []struct {
		n     int
		pools []int
		d     int
		want  []int
	}{
		{3, []int{1, 2}, 1, []int{0, 4}}, {3, []int{1, 2}, 2, []int{0, 4}}, {3, []int{1, 2}, 3, []int{0, 4}}, {4, []int{3, 5}, 1, []int{0, 8}}, {4, []int{15}, 1, []int{1, 2}}, {4, []int{15}, 3, []int{1, 2}},
		// Several pairs: by the lesser set, although the other pair has the lesser other set.
		{4, []int{11, 2, 4}, 1, []int{1, 8}}, {4, []int{11, 2, 4}, 2, []int{1, 8}}, {4, []int{11, 2, 4}, 3, []int{1, 8}}, {3, []int{6, 1}, 1, []int{2, 4}}, {3, []int{6, 1}, 2, []int{2, 4}}, {3, []int{4, 4, 2}, 1, []int{0, 1}},
		// More sets, more weaknesses.
		{4, []int{10, 5, 12, 3}, 1, nil}, {4, []int{10, 5, 12, 3}, 2, []int{6, 9}}, {4, []int{10, 5, 12, 3}, 3, []int{6, 7}}, {3, []int{3, 5, 6}, 1, nil}, {3, []int{3, 5, 6}, 2, []int{3, 5}}, {3, []int{3, 5, 6}, 3, []int{3, 5}},
		{4, []int{3, 5, 6, 9, 10, 12}, 2, nil}, {4, []int{3, 5, 6, 9, 10, 12}, 3, []int{7, 11}},
		{2, []int{1, 3}, 1, nil}, {2, []int{1, 3}, 2, []int{1, 3}}, {2, []int{1, 3}, 3, []int{1, 3}}, {2, []int{3, 3}, 1, []int{1, 2}}, {2, []int{1, 2}, 3, nil}, {1, []int{1}, 3, nil}, {1, []int{0}, 1, []int{0, 1}}, {1, []int{0}, 3, []int{0, 1}},
		// No pools.
		{1, nil, 1, []int{0, 1}}, {4, nil, 1, []int{0, 1}}, {4, []int{}, 2, []int{0, 1}}, {10, nil, 3, []int{0, 1}},
		{10, []int{1023}, 1, []int{1, 2}}, {10, []int{1023}, 3, []int{1, 2}}, {10, []int{512}, 1, []int{0, 1}}, {10, singles(9), 1, []int{0, 512}}, {10, singles(9), 3, []int{0, 512}}, {10, singles(10), 3, nil}, {10, append(singles(8), 768), 1, []int{256, 512}},
		{10, append(singles(8), 768, 512), 1, nil}, {10, append(singles(8), 768, 512), 2, []int{512, 768}}, {10, append(singles(8), 768, 512), 3, []int{512, 768}},
		// Invalid.
		{3, []int{1, 2}, 0, nil}, {3, []int{1, 2}, -1, nil}, {3, []int{1, 2}, 4, nil}, {3, []int{1, 2}, math.MinInt, nil}, {3, []int{1, 2}, math.MaxInt, nil}, {0, nil, 1, nil}, {11, nil, 1, nil}, {math.MinInt, nil, 1, nil}, {math.MaxInt, nil, 1, nil},
		{3, []int{1, 8}, 1, nil}, {3, []int{-1, 1}, 1, nil}, {3, make([]int, 12), 1, []int{0, 1}}, {3, make([]int, 13), 1, nil},
	}
	for _, c := range named {
		if got, ok := impl.Weakness(c.n, c.pools, c.d); ok != (c.want != nil) || !slices.Equal(got, c.want) {
			t.Errorf("Weakness(%d, %v, %d) = %v, %v, want %v", c.n, c.pools, c.d, got, ok, c.want)
		}
	}
}

func TestP9BitPools(t *testing.T) {
	named := map[int][]int{1: nil, 2: {2, 1}, 3: {2, 5, 4, 3}, 4: {10, 5, 12, 3}, 5: {10, 21, 12, 19, 16, 15}, 8: {170, 85, 204, 51, 240, 15},
		9: {170, 341, 204, 307, 240, 271, 256, 255}, 10: {682, 341, 204, 819, 240, 783, 768, 255}}
	for n, want := range named {
		if got, ok := impl.BitPools(n); !ok || !slices.Equal(got, want) {
			t.Errorf("BitPools(%d) = %v, %v, want %v", n, got, ok, want)
		}
	}
	for _, n := range append(someInts(), farNumbers()...) {
		got, ok := impl.BitPools(n)
		if n < 1 || n > 10 {
			if ok || len(got) > 0 {
				t.Errorf("BitPools(%d) = %v, %v", n, got, ok)
			}
		} else if !ok || !slices.Equal(got, bitPairs(n)) {
			t.Errorf("BitPools(%d) = %v, %v, want %v", n, got, ok, bitPairs(n))
		}
	}
}

func TestP9SinglePools(t *testing.T) {
	named := map[int][]int{1: {1}, 2: {1, 2}, 3: {1, 2, 4}, 10: {1, 2, 4, 8, 16, 32, 64, 128, 256, 512}}
	for n, want := range named {
		if got, ok := impl.SinglePools(n); !ok || !slices.Equal(got, want) {
			t.Errorf("SinglePools(%d) = %v, %v, want %v", n, got, ok, want)
		}
	}
	for _, n := range append(someInts(), farNumbers()...) {
		got, ok := impl.SinglePools(n)
		if n < 1 || n > 10 {
			if ok || len(got) > 0 {
				t.Errorf("SinglePools(%d) = %v, %v", n, got, ok)
			}
		} else if !ok || !slices.Equal(got, singles(n)) {
			t.Errorf("SinglePools(%d) = %v, %v, want %v", n, got, ok, singles(n))
		}
	}
}

func TestP9DecodeItemsNamed(t *testing.T) {
	named := []struct {
		n       int
		pools   []int
		results string
		want    int
		ok      bool
	}{
		{3, []int{1, 2, 4}, "+..", 1, true}, {3, []int{1, 2, 4}, "...", 0, true}, {3, []int{1, 2, 4}, "+++", 7, true}, {3, []int{1, 2, 4}, ".++", 6, true}, {3, []int{4, 2, 1}, "+..", 4, true},
		{2, []int{3}, "+", 3, true}, {2, []int{3}, ".", 0, true}, {2, []int{1, 3}, ".+", 2, true}, {2, []int{1, 3}, "++", 3, true}, {2, []int{1, 3}, "..", 0, true},
		// Items in no pool are not surely good.
		{4, []int{3, 5}, "+.", 10, true}, {4, []int{3, 5}, "..", 8, true}, {4, []int{3, 5}, "++", 15, true}, {4, []int{0}, ".", 15, true}, {4, []int{0, 0}, "..", 15, true}, {10, []int{511}, ".", 512, true},
		// Results that no set has.
		{2, []int{1, 3}, "+.", 0, false}, {4, []int{3, 3}, "+.", 0, false}, {4, []int{3, 3}, ".+", 0, false}, {4, []int{0}, "+", 0, false}, {4, []int{3, 0}, "++", 0, false}, {4, []int{15, 1, 2, 4, 8}, "+....", 0, false}, {4, []int{15, 3, 12}, "+..", 0, false}, {4, []int{15, 3, 12}, ".++", 0, false},
		// No pools.
		{1, nil, "", 1, true}, {4, nil, "", 15, true}, {4, []int{}, "", 15, true}, {10, nil, "", 1023, true}, {4, nil, ".", 0, false}, {4, nil, "+", 0, false},
		// More items than the pools are disjunct for: the set is too great, but has the results.
		{4, []int{10, 5, 12, 3}, "++++", 15, true}, {4, []int{10, 5, 12, 3}, "....", 0, true}, {4, []int{10, 5, 12, 3}, "+..+", 2, true}, {4, []int{10, 5, 12, 3}, "++.+", 3, true}, {4, []int{10, 5, 12, 3}, "+...", 0, false}, {3, []int{3, 5, 6}, "+++", 7, true},
		// Fewer and more results than pools.
		{3, []int{1, 2, 4}, "", 0, false}, {3, []int{1, 2, 4}, "+", 0, false}, {3, []int{1, 2, 4}, "+.", 0, false}, {3, []int{1, 2, 4}, "+...", 0, false}, {3, []int{1, 2, 4}, "+..+", 0, false}, {3, []int{1, 2, 4}, "....", 0, false},
		// All negative and all positive.
		{10, singles(10), "..........", 0, true}, {10, singles(10), "++++++++++", 1023, true}, {10, []int{1023}, ".", 0, true}, {10, []int{1023}, "+", 1023, true}, {10, append(singles(10), 0, 1023), "+..++..+.+.+", 0b1010011001, true}, {10, append(singles(10), 0, 1023), "++++++++++++", 0, false}, {10, append(singles(10), 0, 1023), "............", 0, true},
		// Not valid.
		{0, nil, "", 0, false}, {11, nil, "", 0, false}, {11, []int{1}, "+", 0, false}, {math.MinInt, nil, "", 0, false}, {math.MaxInt, nil, "", 0, false}, {math.MaxInt, []int{1}, "+", 0, false}, {-1, nil, "", 0, false}, {64, nil, "", 0, false},
		{3, []int{8}, "+", 0, false}, {3, []int{8}, ".", 0, false}, {3, []int{1, -1}, "+.", 0, false}, {3, make([]int, 12), "............", 7, true}, {3, make([]int, 13), ".............", 0, false}, {3, slices.Repeat([]int{7}, 12), "++++++++++++", 7, true}, {3, slices.Repeat([]int{7}, 13), "+++++++++++++", 0, false},
	}
	for _, c := range named {
		if got, ok := impl.DecodeItems(c.n, c.pools, resultsFrom(c.results)); ok != c.ok || got != c.want {
			t.Errorf("DecodeItems(%d, %v, %q) = %d, %v, want %d, %v", c.n, c.pools, c.results, got, ok, c.want, c.ok)
		}
	}
}

// P9: all results, also those that no set has.
func TestP9DecodeItems(t *testing.T) {
	found := map[bool]int{}
	check := func(b bench, results []bool) {
		want, fine := wantDecoded(b.n, b.pools, results)
		if got, ok := impl.DecodeItems(b.n, b.pools, results); ok != fine || got != want {
			t.Fatalf("DecodeItems(%d, %v, %v) = %d, %v, want %d, %v", b.n, b.pools, results, got, ok, want, fine)
		}
		found[fine]++
	}
	for _, b := range smallBenches() {
		for _, results := range allResults(len(b.pools)) {
			check(b, results)
		}
	}
	for _, b := range someBenches() {
		for _, results := range someResults(b) {
			check(b, results)
		}
		if len(b.pools) <= 8 {
			for _, results := range allResults(len(b.pools)) {
				check(b, results)
			}
		}
	}
	if found[true] < 1000 || found[false] < 1000 {
		t.Errorf("decoded or not: %v", found)
	}
}

func TestP9DecodeItemsInvalid(t *testing.T) {
	check := func(b bench, results []bool) {
		if got, ok := impl.DecodeItems(b.n, b.pools, results); ok || got != 0 {
			t.Fatalf("DecodeItems(%d, %v, %d results) = %d, %v", b.n, b.pools[:min(len(b.pools), 14)], len(results), got, ok)
		}
	}
	for _, b := range append(smallBenches(), someBenches()...) {
		for _, bad := range []int{0, 1, setsUpTo(b.n) - 1} {
			for _, results := range wrongCounts(wantResults(b.pools, bad)) {
				check(b, results)
			}
		}
	}
	for _, b := range wrongBenches() {
		for _, results := range [][]bool{nil, make([]bool, len(b.pools)), slices.Repeat([]bool{true}, len(b.pools)), wantResults(b.pools, 1)} {
			check(b, results)
		}
	}
}

func TestP9FewestPools(t *testing.T) {
	named := map[[2]int]int{{1, 1}: 1, {2, 1}: 2, {3, 1}: 2, {4, 1}: 3, {1, 2}: 1, {2, 2}: 2, {3, 2}: 3, {4, 2}: 4}
	for n := -1; n <= 12; n++ {
		for d := -1; d <= 5; d++ {
			want, ok := named[[2]int{n, d}]
			if !ok {
				want = -1
			}
			if got := impl.FewestPools(n, d); got != want {
				t.Errorf("FewestPools(%d, %d) = %d, want %d", n, d, got, want)
			}
		}
	}
	for _, far := range append(someInts(), farNumbers()...) {
		for near := range 6 {
			if (far < 1 || far > 4) && impl.FewestPools(far, near) != -1 {
				t.Errorf("FewestPools(%d, %d) = %d", far, near, impl.FewestPools(far, near))
			}
			if (far < 1 || far > 2) && impl.FewestPools(near, far) != -1 {
				t.Errorf("FewestPools(%d, %d) = %d", near, far, impl.FewestPools(near, far))
			}
		}
	}
}

// P9: the fewest pools by trying all lists of them, in any order and with repetitions.
func TestP9FewestPoolsTried(t *testing.T) {
	for n := 1; n <= 3; n++ {
		for d := 1; d <= 2; d++ {
			fewest := math.MaxInt
			var sets []int
			for set := range setsUpTo(n) {
				sets = append(sets, set)
			}
			for _, pools := range allLists(sets, n) {
				if len(pools) < fewest && wantWeakness(n, pools, d) == nil {
					fewest = len(pools)
				}
			}
			if got := impl.FewestPools(n, d); got != fewest {
				t.Errorf("FewestPools(%d, %d) = %d, want %d", n, d, got, fewest)
			}
		}
	}
}

// P9: pools, results and the room behind them stay as they are, and what is returned shares no memory with them.
func TestP9DisjunctArguments(t *testing.T) {
	benches := append(someBenches(), bench{9, lines()}, bench{0, []int{1}}, bench{11, []int{1}}, bench{3, []int{8, 1}}, bench{3, []int{1, -1}}, bench{3, make([]int, 13)}, bench{math.MinInt, []int{1, 2}}, bench{math.MaxInt, nil})
	for _, b := range benches {
		for _, results := range append(wrongCounts(wantResults(b.pools, 1))[:2], wantResults(b.pools, 1), make([]bool, len(b.pools)), slices.Repeat([]bool{true}, len(b.pools))) {
			pools, answers := guarded(b.pools...), guardedResults(results)
			impl.DecodeItems(b.n, pools.list, answers.list)
			for d := 0; d <= 4; d++ {
				impl.IsDisjunct(b.n, pools.list, d)
				impl.IsSeparable(b.n, pools.list, d)
				pair, _ := impl.Weakness(b.n, pools.list, d)
				if !pools.same() || !answers.same() {
					t.Fatalf("an argument was changed: %v, %v", pools.whole, answers.whole)
				}
				spoil(pair)
				if !pools.same() || !answers.same() {
					t.Fatalf("a result shares memory with an argument: %v, %v", pools.whole, answers.whole)
				}
			}
		}
	}
}

// checkApart makes all lists twice, for all numbers of items, and overwrites one after the other.
func checkApart(t *testing.T, made []func(n int) ([]int, bool)) {
	t.Helper()
	for n := 1; n <= 10; n++ {
		var lists, firsts [][]int
		for _, f := range slices.Repeat(made, 2) {
			list, _ := f(n)
			lists = append(lists, list)
			firsts = append(firsts, slices.Clone(list))
		}
		for i, list := range lists {
			spoil(list)
			for k := i + 1; k < len(lists); k++ {
				if !slices.Equal(lists[k], firsts[k]) {
					t.Fatalf("%d items: two results share memory: %v, want %v", n, lists[k], firsts[k])
				}
			}
		}
		for i, f := range slices.Repeat(made, 2) {
			if got, _ := f(n); !slices.Equal(got, firsts[i]) {
				t.Fatalf("%d items: a result that was overwritten is returned: %v, want %v", n, got, firsts[i])
			}
		}
	}
}

// P9: no two results share memory.
func TestP9DisjunctResults(t *testing.T) {
	made := []func(n int) ([]int, bool){impl.BitPools, impl.SinglePools,
		func(n int) ([]int, bool) { return impl.Weakness(n, singles(n)[1:], 1) },
		func(n int) ([]int, bool) { return impl.Weakness(n, nil, 3) },
		func(n int) ([]int, bool) { return impl.Weakness(n, bitPairs(n), 2) }}
	checkApart(t, made)
}

// P9: a nil slice and an empty one are the same.
func TestP9DisjunctNil(t *testing.T) {
	for n := -1; n <= 12; n++ {
		valid := n >= 1 && n <= 10
		for _, pools := range [][]int{nil, {}} {
			for d := -1; d <= 5; d++ {
				pair, weak := impl.Weakness(n, pools, d)
				if impl.IsDisjunct(n, pools, d) || impl.IsSeparable(n, pools, d) || weak != (valid && d >= 1 && d <= 3) || weak && !slices.Equal(pair, []int{0, 1}) || !weak && len(pair) > 0 {
					t.Errorf("%d items, pools %#v, at most %d bad: Weakness is %v, %v", n, pools, d, pair, weak)
				}
			}
			for _, results := range [][]bool{nil, {}} {
				set, ok := impl.DecodeItems(n, pools, results)
				if ok != valid || valid && set != setsUpTo(n)-1 || !valid && set != 0 {
					t.Errorf("DecodeItems(%d, %#v, %#v) = %d, %v", n, pools, results, set, ok)
				}
			}
		}
	}
}

// P9: a call that is repeated many times, with other calls in between, returns the same.
func TestP9DisjunctRepeated(t *testing.T) {
	bits, pools, results := []int{10, 5, 12, 3}, []int{1, 2, 4}, []bool{true, false, false}
	for i := range 1000 {
		if !impl.IsDisjunct(4, bits, 1) || impl.IsDisjunct(4, bits, 2) || !impl.IsDisjunct(3, pools, 3) || impl.IsDisjunct(4, pools, 1) || impl.IsDisjunct(3, pools, 0) {
			t.Fatal("IsDisjunct changes")
		}
		if !impl.IsSeparable(4, bits, 1) || impl.IsSeparable(4, bits, 2) || !impl.IsSeparable(3, pools, 3) || impl.IsSeparable(4, pools, 1) || impl.IsSeparable(3, pools, 4) {
			t.Fatal("IsSeparable changes")
		}
		one, weak := impl.Weakness(4, bits, 2)
		two, unsure := impl.Weakness(4, pools, 1)
		three, none := impl.Weakness(3, pools, 1)
		if !weak || !slices.Equal(one, []int{6, 9}) || !unsure || !slices.Equal(two, []int{0, 8}) || none || len(three) > 0 {
			t.Fatalf("Weakness changes: %v, %v, %v, %v, %v, %v", one, weak, two, unsure, three, none)
		}
		four, fine := impl.BitPools(4)
		five, good := impl.SinglePools(3)
		six, far := impl.BitPools(11)
		if !fine || !slices.Equal(four, bits) || !good || !slices.Equal(five, pools) || far || len(six) > 0 {
			t.Fatalf("BitPools or SinglePools changes: %v, %v, %v, %v, %v, %v", four, fine, five, good, six, far)
		}
		set, ok := impl.DecodeItems(3, pools, results)
		other, wrong := impl.DecodeItems(3, pools, results[1:])
		if set != 1 || !ok || other != 0 || wrong {
			t.Fatalf("DecodeItems changes: %d, %v, %d, %v", set, ok, other, wrong)
		}
		if i%10 == 0 && (impl.FewestPools(4, 2) != 4 || impl.FewestPools(5, 1) != -1) || impl.FewestPools(3, 1) != 2 || impl.FewestPools(2, 2) != 2 {
			t.Fatal("FewestPools changes")
		}
		spoil(one, two, four, five)
	}
	// The same slices with other contents are other pools and other results.
	pools[2], results[1] = 2, true
	pair, weak := impl.Weakness(3, pools, 1)
	if set, ok := impl.DecodeItems(3, pools, results); ok || set != 0 || impl.IsDisjunct(3, pools, 1) || impl.IsSeparable(3, pools, 1) || !weak || !slices.Equal(pair, []int{0, 4}) {
		t.Errorf("pools %v, results %v: DecodeItems is %d, %v, Weakness is %v, %v", pools, results, set, ok, pair, weak)
	}
}

// endsWith waits until no more goroutines are there than before, but not for long: one that has done its last step is counted a moment longer.
func endsWith(before int) bool {
	for range 2000 {
		if runtime.NumGoroutine() <= before {
			return true
		}
		time.Sleep(time.Millisecond)
	}
	return false
}

// P9: every goroutine that a call starts has ended when it returns, whether it found what it looked for early, late or not at all.
func TestP9DisjunctGoroutines(t *testing.T) {
	before := runtime.NumGoroutine()
	for i, b := range slices.Concat(smallBenches()[:200], someBenches(), wrongBenches()[:100], []bench{{9, lines()}}) {
		impl.DecodeItems(b.n, b.pools, make([]bool, len(b.pools)))
		impl.BitPools(b.n)
		impl.SinglePools(b.n)
		for d := 0; d <= 4; d++ {
			impl.IsDisjunct(b.n, b.pools, d)
			impl.IsSeparable(b.n, b.pools, d)
			impl.Weakness(b.n, b.pools, d)
			if i%20 == 0 {
				impl.FewestPools(b.n, d)
			}
			if !endsWith(before) {
				t.Fatalf("%d items, pools %v, at most %d bad: a goroutine does not end", b.n, b.pools[:min(len(b.pools), 14)], d)
			}
		}
	}
}

// P9: calls at the same time do not disturb each other.
func TestP9DisjunctTogether(t *testing.T) {
	benches := someBenches()
	wrong := make([]int, 8)
	var group sync.WaitGroup
	for worker := range wrong {
		group.Go(func() {
			for i := worker; i < len(benches); i += 5 {
				b, d := benches[i], 1+i%3
				pair, _ := impl.Weakness(b.n, b.pools, d)
				if impl.IsDisjunct(b.n, b.pools, d) != wantDisjunct(b.n, b.pools, d) || !slices.Equal(pair, wantWeakness(b.n, b.pools, d)) || impl.IsSeparable(b.n, b.pools, d) != (len(pair) == 0) {
					wrong[worker]++
				}
				pools, _ := impl.BitPools(b.n)
				alone, _ := impl.SinglePools(b.n)
				if !slices.Equal(pools, bitPairs(b.n)) || !slices.Equal(alone, singles(b.n)) {
					wrong[worker]++
				}
				if impl.FewestPools(1+i%4, 1) != []int{1, 2, 2, 3}[i%4] {
					wrong[worker]++
				}
			}
		})
	}
	group.Wait()
	if slices.Max(wrong) > 0 {
		t.Errorf("wrong answers: %v", wrong)
	}
}

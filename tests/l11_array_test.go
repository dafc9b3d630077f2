package tests

import (
	"math"
	"runtime"
	"slices"
	"sync"
	"testing"

	"loop.example/g01040/impl"
)

// shape is a number of rows with a number of columns.
type shape struct {
	rows, cols int
}

func allShapes() []shape {
	var list []shape
	for rows := 1; rows <= 4; rows++ {
		for cols := 1; cols <= 4; cols++ {
			list = append(list, shape{rows, cols})
		}
	}
	return list
}

// sets is the number of the sets of all items.
func (s shape) sets() int { return setsUpTo(s.rows * s.cols) }

// wantLines notes the row and the column of each bad item.
func (s shape) wantLines(bad int) ([]bool, []bool) {
	r, c := make([]bool, s.rows), make([]bool, s.cols)
	for _, item := range wantItems(bad) {
		r[item/s.cols] = true
		c[item%s.cols] = true
	}
	return r, c
}

// wantSuspects asks of each item whether its row and its column are positive.
func (s shape) wantSuspects(r, c []bool) []int {
	var items []int
	for item := range s.rows * s.cols {
		if r[item/s.cols] && c[item%s.cols] {
			items = append(items, item)
		}
	}
	return items
}

func positives(results []bool) int {
	count := 0
	for _, positive := range results {
		count += map[bool]int{true: 1}[positive]
	}
	return count
}

// wantClear names the results that are clear: none is positive, one row with some columns, or one column with some rows.
func wantClear(r, c []bool) bool {
	inRows, inCols := positives(r), positives(c)
	switch {
	case inRows == 0 || inCols == 0:
		return inRows+inCols == 0
	default:
		return inRows == 1 || inCols == 1
	}
}

func (s shape) wantTests(bad int) int {
	r, c := s.wantLines(bad)
	if wantClear(r, c) {
		return s.rows + s.cols
	}
	return s.rows + s.cols + len(s.wantSuspects(r, c))
}

// wantSame counts, for all results, the sets that have them.
func (s shape) wantSame() map[string]int {
	count := map[string]int{}
	for bad := range s.sets() {
		r, c := s.wantLines(bad)
		count[resultText(r)+"/"+resultText(c)]++
	}
	return count
}

func (s shape) wantWorst(d int) int {
	worst := 0
	for _, bad := range setsWith(s.rows*s.cols, d) {
		worst = max(worst, s.wantTests(bad))
	}
	return worst
}

// wrongShapes are sides that are not valid, some of them with a valid product.
func wrongShapes() []shape {
	list := []shape{{1, 16}, {16, 1}, {2, 8}, {8, 2}, {5, 3}, {3, 5}, {5, 5}, {-2, -2}, {-1, -4}, {-4, -4}, {1 << 32, 1 << 32}, {1 << 62, 4}, {math.MinInt, -1}, {-1, math.MinInt}, {math.MaxInt, math.MaxInt}, {math.MinInt, math.MinInt}, {math.MinInt, math.MaxInt}, {1<<32 + 2, 1<<32 + 2}}
	for _, wrong := range append(farNumbers(), 0) {
		if wrong >= 1 && wrong <= 4 {
			continue
		}
		for _, side := range []int{0, 1, 2, 3, 4, 5, -1, wrong} {
			list = append(list, shape{wrong, side}, shape{side, wrong})
		}
	}
	return list
}

// someArraySets are all sets of few items, and of more items those of none, one, all and all but one, and some others.
func (s shape) someArraySets() []int {
	var list []int
	items := s.rows * s.cols
	for bad := range s.sets() {
		count := impl.CountItems(bad)
		if items <= 6 || count <= 1 || count >= items-1 || bad%37 == 5 {
			list = append(list, bad)
		}
	}
	return list
}

// linesOf returns what TestArray returns, which succeeds.
func linesOf(t *testing.T, s shape, bad int) ([]bool, []bool) {
	t.Helper()
	r, c, ok := impl.TestArray(s.rows, s.cols, bad)
	if !ok || len(r) != s.rows || len(c) != s.cols {
		t.Fatalf("TestArray(%d, %d, %d) = %v, %v, %v", s.rows, s.cols, bad, r, c, ok)
	}
	return r, c
}

// P5: the suspects contain the bad items, no further item can be bad, and where the results are clear there are no others.
func TestP5ArraySuspects(t *testing.T) {
	for _, s := range allShapes() {
		for bad := range s.sets() {
			r, c := linesOf(t, s, bad)
			suspects := impl.SuspectsOf(s.rows, s.cols, r, c)
			if bad&^suspects != 0 {
				t.Fatalf("%v: %d is bad, and %d are suspects", s, bad, suspects)
			}
			if clear := impl.IsClear(s.rows, s.cols, r, c); clear && suspects != bad {
				t.Fatalf("%v: %d is bad, and %d are suspects, which is clear", s, bad, suspects)
			}
			again, other := linesOf(t, s, suspects)
			if !slices.Equal(again, r) || !slices.Equal(other, c) {
				t.Fatalf("%v: %d are the suspects of %d and have other results", s, suspects, bad)
			}
		}
	}
}

// P5: results of a set are clear exactly if no other set has them.
func TestP5ArrayClear(t *testing.T) {
	for _, s := range allShapes() {
		known := map[string]int{}
		for bad := range s.sets() {
			r, c := linesOf(t, s, bad)
			text := resultText(r) + "/" + resultText(c)
			if known[text] == 0 {
				known[text] = impl.ArraySets(s.rows, s.cols, r, c)
			}
			if clear := impl.IsClear(s.rows, s.cols, r, c); clear != (known[text] == 1) || known[text] < 1 {
				t.Fatalf("%v: %d sets have the results %s of %d; clear is %v", s, known[text], text, bad, clear)
			}
		}
	}
}

// P5: each set is counted once.
func TestP5ArraySetsDivided(t *testing.T) {
	for _, s := range allShapes() {
		total := 0
		for _, r := range allResults(s.rows) {
			for _, c := range allResults(s.cols) {
				total += impl.ArraySets(s.rows, s.cols, r, c)
			}
		}
		if total != s.sets() {
			t.Errorf("%v: all results together have %d sets, want %d", s, total, s.sets())
		}
	}
}

// P5: CountArrayTests is the number of rows and columns, and of the suspects in addition where the results are not clear.
func TestP5CountArrayTests(t *testing.T) {
	for _, s := range allShapes() {
		for bad := range s.sets() {
			r, c := linesOf(t, s, bad)
			want := s.rows + s.cols
			if !impl.IsClear(s.rows, s.cols, r, c) {
				want += impl.CountItems(impl.SuspectsOf(s.rows, s.cols, r, c))
			}
			if got := impl.CountArrayTests(s.rows, s.cols, bad); got != want {
				t.Fatalf("CountArrayTests(%d, %d, %d) = %d, want %d", s.rows, s.cols, bad, got, want)
			}
		}
	}
}

// P5: WorstArray is the greatest CountArrayTests of all sets of at most d items.
func TestP5WorstArray(t *testing.T) {
	for _, s := range allShapes() {
		items := s.rows * s.cols
		if items > 9 {
			continue
		}
		worst := 0
		for d := 0; d <= items+2; d++ {
			for bad := range s.sets() {
				if impl.CountItems(bad) == d {
					worst = max(worst, impl.CountArrayTests(s.rows, s.cols, bad))
				}
			}
			if got := impl.WorstArray(s.rows, s.cols, d); got != worst {
				t.Errorf("WorstArray(%d, %d, %d) = %d, want %d", s.rows, s.cols, d, got, worst)
			}
		}
	}
}

func TestP9ArrayOk(t *testing.T) {
	if impl.MaxSide != 4 {
		t.Errorf("MaxSide is %d", impl.MaxSide)
	}
	for _, s := range allShapes() {
		if !impl.ArrayOk(s.rows, s.cols) {
			t.Errorf("ArrayOk(%d, %d) is false", s.rows, s.cols)
		}
	}
	for _, s := range wrongShapes() {
		if impl.ArrayOk(s.rows, s.cols) {
			t.Errorf("ArrayOk(%d, %d) is true", s.rows, s.cols)
		}
	}
	numbers := append(someInts(), farNumbers()...)
	for _, n := range numbers {
		for _, side := range []int{-1, 0, 1, 2, 3, 4, 5, n, -n} {
			want := n >= 1 && n <= 4 && side >= 1 && side <= 4
			if impl.ArrayOk(n, side) != want || impl.ArrayOk(side, n) != want {
				t.Fatalf("ArrayOk(%d, %d) = %v, and %v the other way round", n, side, impl.ArrayOk(n, side), impl.ArrayOk(side, n))
			}
		}
	}
}

// P9: results, suspects, clearness and number of tests for single sets.
func TestP9ArrayNamed(t *testing.T) {
	named := []struct {
		rows, cols, bad int
		r, c            string
		suspects        int
		clear           bool
		tests, sets     int
	}{
		{2, 2, 9, "++", "++", 15, false, 8, 7}, {2, 2, 3, "+.", "++", 3, true, 4, 1}, {2, 2, 0, "..", "..", 0, true, 4, 1}, {2, 2, 6, "++", "++", 15, false, 8, 7}, {2, 2, 5, "++", "+.", 5, true, 4, 1}, {2, 2, 15, "++", "++", 15, false, 8, 7}, {2, 2, 7, "++", "++", 15, false, 8, 7},
		// One item alone.
		{1, 1, 0, ".", ".", 0, true, 2, 1}, {1, 1, 1, "+", "+", 1, true, 2, 1},
		// One row or one column tells everything.
		{1, 4, 0, ".", "....", 0, true, 5, 1}, {1, 4, 5, "+", "+.+.", 5, true, 5, 1}, {1, 4, 15, "+", "++++", 15, true, 5, 1}, {4, 1, 10, ".+.+", "+", 10, true, 5, 1}, {4, 1, 15, "++++", "+", 15, true, 5, 1}, {4, 1, 0, "....", ".", 0, true, 5, 1},
		// More columns than rows, and the other way round.
		{2, 3, 33, "++", "+.+", 45, false, 9, 7}, {2, 3, 4, "+.", "..+", 4, true, 5, 1}, {2, 3, 8, ".+", "+..", 8, true, 5, 1}, {2, 3, 63, "++", "+++", 63, false, 11, 25}, {2, 3, 36, "++", "..+", 36, true, 5, 1}, {3, 2, 33, "+.+", "++", 51, false, 9, 7}, {3, 2, 4, ".+.", "+.", 4, true, 5, 1}, {3, 2, 8, ".+.", ".+", 8, true, 5, 1}, {3, 2, 63, "+++", "++", 63, false, 11, 25}, {3, 2, 21, "+++", "+.", 21, true, 5, 1},
		{3, 3, 273, "+++", "+++", 511, false, 15, 265}, {3, 3, 257, "+.+", "+.+", 325, false, 10, 7}, {3, 3, 56, ".+.", "+++", 56, true, 6, 1}, {3, 3, 146, "+++", ".+.", 146, true, 6, 1}, {3, 3, 511, "+++", "+++", 511, false, 15, 265},
		// More items than pools may have in chapter 9.
		{3, 4, 2048, "..+", "...+", 2048, true, 7, 1}, {3, 4, 4095, "+++", "++++", 4095, false, 19, 2161}, {4, 3, 1024, "...+", ".+.", 1024, true, 7, 1}, {2, 4, 255, "++", "++++", 255, false, 14, 79},
		{4, 4, 0, "....", "....", 0, true, 8, 1}, {4, 4, 65535, "++++", "++++", 65535, false, 24, 41503}, {4, 4, 32768, "...+", "...+", 32768, true, 8, 1}, {4, 4, 33, "++..", "++..", 51, false, 12, 7}, {4, 4, 33825, "++++", "++++", 65535, false, 24, 41503}, {4, 4, 61440, "...+", "++++", 61440, true, 8, 1}, {4, 4, 34952, "++++", "...+", 34952, true, 8, 1}, {4, 4, 32769, "+..+", "+..+", 36873, false, 12, 7}, {4, 4, 65534, "++++", "++++", 65535, false, 24, 41503},
	}
	for _, n := range named {
		r, c, ok := impl.TestArray(n.rows, n.cols, n.bad)
		if !ok || resultText(r) != n.r || resultText(c) != n.c {
			t.Errorf("TestArray(%d, %d, %d) = %v, %v, %v, want %q, %q", n.rows, n.cols, n.bad, r, c, ok, n.r, n.c)
		}
		r, c = resultsFrom(n.r), resultsFrom(n.c)
		if got := impl.SuspectsOf(n.rows, n.cols, r, c); got != n.suspects {
			t.Errorf("SuspectsOf(%d, %d, %q, %q) = %d, want %d", n.rows, n.cols, n.r, n.c, got, n.suspects)
		}
		if got := impl.IsClear(n.rows, n.cols, r, c); got != n.clear {
			t.Errorf("IsClear(%d, %d, %q, %q) = %v", n.rows, n.cols, n.r, n.c, got)
		}
		if got := impl.CountArrayTests(n.rows, n.cols, n.bad); got != n.tests {
			t.Errorf("CountArrayTests(%d, %d, %d) = %d, want %d", n.rows, n.cols, n.bad, got, n.tests)
		}
		if got := impl.ArraySets(n.rows, n.cols, r, c); got != n.sets {
			t.Errorf("ArraySets(%d, %d, %q, %q) = %d, want %d", n.rows, n.cols, n.r, n.c, got, n.sets)
		}
	}
}

// P9: results that no set has, and other numbers of results than rows and columns.
func TestP9ArrayResultsNamed(t *testing.T) {
	named := []struct {
		rows, cols int
		r, c       string
	}{
		// A row is positive and no column, and the other way round.
		{2, 2, "+.", ".."}, {2, 2, "..", ".+"}, {2, 2, "++", ".."}, {2, 2, "..", "++"}, {1, 1, "+", "."}, {1, 1, ".", "+"}, {4, 4, "++++", "...."}, {4, 4, "....", "++++"}, {4, 4, "...+", "...."}, {4, 4, "....", "+..."}, {1, 4, ".", "++++"}, {1, 4, "+", "...."}, {4, 1, "++++", "."}, {4, 1, "....", "+"},
		// None, too few and too many results.
		{2, 2, "", ""}, {2, 2, "++", ""}, {2, 2, "", "++"}, {2, 2, "..", ""}, {2, 2, "", ".."}, {2, 2, "+", "++"}, {2, 2, "++", "+"}, {2, 2, "+", "+"}, {2, 2, "+++", "++"}, {2, 2, "++", "+++"}, {2, 2, "+.", "+.."}, {2, 2, "+..", "+."}, {2, 2, "..", "..."}, {2, 2, "...", ".."}, {2, 2, "++++", ""}, {1, 1, "", ""}, {1, 1, "+", ""}, {1, 1, "", "+"}, {1, 1, "++", "+"}, {1, 1, "..", ".."}, {4, 4, "+++++", "++++"}, {4, 4, "++++", "+++++"}, {4, 4, "+++", "++++"}, {4, 4, "++++", "+++"}, {4, 4, "+++++", "+++++"}, {4, 4, "", ""},
		// Rows and columns in the wrong order.
		{2, 3, "+++", "++"}, {3, 2, "++", "+++"}, {2, 3, "...", ".."}, {1, 4, "++++", "+"}, {4, 1, "+", "++++"}, {4, 1, ".", "...."},
		// Other numbers of rows and columns, with as many results.
		{0, 0, "", ""}, {0, 1, "", "+"}, {1, 0, "+", ""}, {0, 1, "", "."}, {5, 1, "+++++", "+"}, {1, 5, "+", "+++++"}, {5, 5, "+++++", "+++++"}, {5, 1, ".....", "."}, {1, 5, ".", "....."}, {5, 5, ".....", "....."}, {4, 5, "++++", "+++++"}, {5, 4, "+++++", "++++"}, {0, 5, "", "+++++"}, {-1, 2, "", "++"}, {2, -1, "++", ""}, {-1, -1, "", ""}, {math.MinInt, 2, "++", "++"}, {2, math.MaxInt, "++", "++"}, {math.MaxInt, math.MinInt, "", ""},
	}
	for _, n := range named {
		r, c := resultsFrom(n.r), resultsFrom(n.c)
		if suspects, sets := impl.SuspectsOf(n.rows, n.cols, r, c), impl.ArraySets(n.rows, n.cols, r, c); suspects != 0 || sets != 0 || impl.IsClear(n.rows, n.cols, r, c) {
			t.Errorf("%d rows, %d columns, %q, %q: the suspects are %d, %d sets, clear is %v", n.rows, n.cols, n.r, n.c, suspects, sets, impl.IsClear(n.rows, n.cols, r, c))
		}
	}
}

// P9: all sets of all arrays against the row and the column of each item.
func TestP9TestArray(t *testing.T) {
	for _, s := range allShapes() {
		for bad := range s.sets() {
			wantR, wantC := s.wantLines(bad)
			if r, c, ok := impl.TestArray(s.rows, s.cols, bad); !ok || !slices.Equal(r, wantR) || !slices.Equal(c, wantC) {
				t.Fatalf("TestArray(%d, %d, %d) = %v, %v, %v, want %v, %v", s.rows, s.cols, bad, r, c, ok, wantR, wantC)
			}
			if got := impl.CountArrayTests(s.rows, s.cols, bad); got != s.wantTests(bad) {
				t.Fatalf("CountArrayTests(%d, %d, %d) = %d, want %d", s.rows, s.cols, bad, got, s.wantTests(bad))
			}
		}
	}
}

// P9: of arrays that chapter 9 can hold, the rows and the columns have the results that TestPools returns.
func TestP9TestArrayPools(t *testing.T) {
	for _, s := range allShapes() {
		n := s.rows * s.cols
		if n > 10 {
			continue
		}
		lines := make([][]int, s.rows+s.cols)
		for item := range n {
			lines[item/s.cols] = append(lines[item/s.cols], item)
			lines[s.rows+item%s.cols] = append(lines[s.rows+item%s.cols], item)
		}
		var pools []int
		for _, line := range lines {
			pools = append(pools, setOf(line...))
		}
		for bad := range s.sets() {
			r, c, ok := impl.TestArray(s.rows, s.cols, bad)
			if results, fine := impl.TestPools(n, pools, bad); !ok || !fine || !slices.Equal(slices.Concat(r, c), results) {
				t.Fatalf("TestArray(%d, %d, %d) = %v, %v, %v, TestPools returns %v", s.rows, s.cols, bad, r, c, ok, results)
			}
		}
	}
}

// P9: all results of all arrays, also those that no set has.
func TestP9ArrayAllResults(t *testing.T) {
	for _, s := range allShapes() {
		same := s.wantSame()
		for _, r := range allResults(s.rows) {
			for _, c := range allResults(s.cols) {
				if got, want := impl.SuspectsOf(s.rows, s.cols, r, c), setOf(s.wantSuspects(r, c)...); got != want {
					t.Fatalf("SuspectsOf(%d, %d, %v, %v) = %d, want %d", s.rows, s.cols, r, c, got, want)
				}
				if got := impl.IsClear(s.rows, s.cols, r, c); got != wantClear(r, c) {
					t.Fatalf("IsClear(%d, %d, %v, %v) = %v", s.rows, s.cols, r, c, got)
				}
				if got, want := impl.ArraySets(s.rows, s.cols, r, c), same[resultText(r)+"/"+resultText(c)]; got != want {
					t.Fatalf("ArraySets(%d, %d, %v, %v) = %d, want %d", s.rows, s.cols, r, c, got, want)
				}
			}
		}
	}
}

// P9: nothing is tested in other arrays, or for numbers that are no set of the items.
func TestP9TestArrayInvalid(t *testing.T) {
	check := func(s shape, bad int) {
		r, c, ok := impl.TestArray(s.rows, s.cols, bad)
		if ok || len(r) > 0 || len(c) > 0 || impl.CountArrayTests(s.rows, s.cols, bad) != -1 {
			t.Fatalf("TestArray(%d, %d, %d) = %v, %v, %v, CountArrayTests is %d", s.rows, s.cols, bad, r, c, ok, impl.CountArrayTests(s.rows, s.cols, bad))
		}
	}
	numbers := append(someInts(), farNumbers()...)
	for _, s := range wrongShapes() {
		for _, bad := range append(farNumbers(), 0, 1, 2, 15, 65535, 65536) {
			check(s, bad)
		}
	}
	for _, s := range allShapes() {
		for _, bad := range append(wrongSets(s.rows*s.cols), numbers...) {
			if bad < 0 || bad >= s.sets() {
				check(s, bad)
			}
		}
	}
}

// P9: other numbers of results than rows and columns, also such that fit the other side, and results of arrays that are not valid.
func TestP9ArrayResultsInvalid(t *testing.T) {
	check := func(s shape, r, c []bool) {
		if suspects, sets := impl.SuspectsOf(s.rows, s.cols, r, c), impl.ArraySets(s.rows, s.cols, r, c); suspects != 0 || sets != 0 || impl.IsClear(s.rows, s.cols, r, c) {
			t.Fatalf("%v, %d and %d results: the suspects are %d, %d sets, clear is %v", s, len(r), len(c), suspects, sets, impl.IsClear(s.rows, s.cols, r, c))
		}
	}
	for _, s := range allShapes() {
		for _, positive := range []bool{false, true} {
			for rows := range 7 {
				for cols := range 7 {
					if rows != s.rows || cols != s.cols {
						check(s, slices.Repeat([]bool{positive}, rows), slices.Repeat([]bool{positive}, cols))
					}
				}
			}
			r, c := slices.Repeat([]bool{positive}, s.rows), slices.Repeat([]bool{positive}, s.cols)
			for _, wrong := range wrongCounts(r) {
				check(s, wrong, c)
			}
			for _, wrong := range wrongCounts(c) {
				check(s, r, wrong)
			}
		}
	}
	for _, s := range wrongShapes() {
		for _, count := range []int{0, 1, 2, 4, 5, 8, 16} {
			for _, positive := range []bool{false, true} {
				results := slices.Repeat([]bool{positive}, count)
				check(s, results, results)
				check(s, results, []bool{positive})
				check(s, []bool{positive}, results)
				check(s, results, nil)
				check(s, nil, results)
			}
		}
		if s.rows >= 0 && s.rows <= 256 && s.cols >= 0 && s.cols <= 256 {
			check(s, make([]bool, s.rows), make([]bool, s.cols))
			check(s, slices.Repeat([]bool{true}, s.rows), slices.Repeat([]bool{true}, s.cols))
		}
	}
}

func TestP9WorstArrayNamed(t *testing.T) {
	named := []struct {
		rows, cols int
		// The values for d from 0 on; the last one holds for all greater ones.
		worst []int
	}{
		{1, 1, []int{2}}, {1, 2, []int{3}}, {2, 1, []int{3}}, {1, 3, []int{4}}, {3, 1, []int{4}}, {1, 4, []int{5}}, {4, 1, []int{5}},
		{2, 2, []int{4, 4, 8}}, {2, 3, []int{5, 5, 9, 11}}, {3, 2, []int{5, 5, 9, 11}}, {2, 4, []int{6, 6, 10, 12, 14}}, {4, 2, []int{6, 6, 10, 12, 14}},
		// Nine items are the most.
		{3, 3, []int{6, 6, 10, 15}}, {3, 4, []int{-1}}, {4, 3, []int{-1}}, {4, 4, []int{-1}},
		{0, 0, []int{-1}}, {0, 1, []int{-1}}, {1, 0, []int{-1}}, {5, 1, []int{-1}}, {1, 5, []int{-1}}, {5, 5, []int{-1}}, {1, 9, []int{-1}}, {9, 1, []int{-1}}, {-3, -3, []int{-1}}, {-1, -1, []int{-1}}, {math.MinInt, 1, []int{-1}}, {1, math.MaxInt, []int{-1}}, {math.MinInt, math.MinInt, []int{-1}}, {math.MaxInt, math.MaxInt, []int{-1}},
	}
	for _, n := range named {
		for _, d := range []int{0, 1, 2, 3, 4, 5, 6, 7, 8, 9, 10, 11, 16, 17, 63, 64, 65, 1 << 32, 1<<32 + 1, 1 << 62, math.MaxInt - 1, math.MaxInt} {
			want := n.worst[min(d, len(n.worst)-1)]
			if got := impl.WorstArray(n.rows, n.cols, d); got != want {
				t.Errorf("WorstArray(%d, %d, %d) = %d, want %d", n.rows, n.cols, d, got, want)
			}
		}
		for _, d := range []int{-1, -2, -9, -64, 1 - 1<<32, math.MinInt, math.MinInt + 1} {
			if got := impl.WorstArray(n.rows, n.cols, d); got != -1 {
				t.Errorf("WorstArray(%d, %d, %d) = %d", n.rows, n.cols, d, got)
			}
		}
	}
}

func TestP9WorstArray(t *testing.T) {
	numbers := append(someInts(), farNumbers()...)
	for _, s := range allShapes() {
		items := s.rows * s.cols
		for d := range items + 1 {
			want := -1
			if items <= 9 {
				want = s.wantWorst(d)
			}
			if got := impl.WorstArray(s.rows, s.cols, d); got != want {
				t.Errorf("WorstArray(%d, %d, %d) = %d, want %d", s.rows, s.cols, d, got, want)
			}
		}
		for _, d := range numbers {
			if got := impl.WorstArray(s.rows, s.cols, d); got != -1 && (d < 0 || items > 9) {
				t.Fatalf("WorstArray(%d, %d, %d) = %d", s.rows, s.cols, d, got)
			}
		}
	}
	for _, s := range wrongShapes() {
		for _, d := range []int{-1, 0, 1, 2, 9, 16, s.rows, s.cols, math.MinInt, math.MaxInt} {
			if got := impl.WorstArray(s.rows, s.cols, d); got != -1 {
				t.Fatalf("WorstArray(%d, %d, %d) = %d", s.rows, s.cols, d, got)
			}
		}
	}
}

// P9: the results and the room behind them stay as they are.
func TestP9ArrayArguments(t *testing.T) {
	shapes := append(allShapes(), shape{0, 0}, shape{5, 1}, shape{1, 5}, shape{-1, 2}, shape{math.MinInt, math.MaxInt})
	for _, s := range shapes {
		for _, rows := range []int{0, 1, 2, 3, 4, 5} {
			for _, cols := range []int{0, 1, 2, 3, 4, 5} {
				for _, positive := range []bool{false, true} {
					r, c := guardedResults(slices.Repeat([]bool{positive}, rows)), guardedResults(slices.Repeat([]bool{true}, cols))
					impl.SuspectsOf(s.rows, s.cols, r.list, c.list)
					impl.IsClear(s.rows, s.cols, r.list, c.list)
					impl.ArraySets(s.rows, s.cols, r.list, c.list)
					if !r.same() || !c.same() {
						t.Fatalf("%v, %d and %d results: an argument is changed", s, rows, cols)
					}
				}
			}
		}
	}
}

// P9: the results may be given as parts of the same memory, and as nil where they are empty.
func TestP9ArraySharedArguments(t *testing.T) {
	for _, s := range allShapes() {
		for _, long := range allResults(4) {
			r, c := long[:s.rows], long[4-s.cols:]
			apart, other := slices.Clone(r), slices.Clone(c)
			if impl.SuspectsOf(s.rows, s.cols, r, c) != impl.SuspectsOf(s.rows, s.cols, apart, other) || impl.IsClear(s.rows, s.cols, r, c) != impl.IsClear(s.rows, s.cols, apart, other) || impl.ArraySets(s.rows, s.cols, r, c) != impl.ArraySets(s.rows, s.cols, apart, other) {
				t.Fatalf("%v, %v, %v: results in the same memory count otherwise", s, r, c)
			}
		}
		if impl.SuspectsOf(s.rows, s.cols, nil, nil) != 0 || impl.SuspectsOf(s.rows, s.cols, []bool{}, []bool{}) != 0 || impl.IsClear(s.rows, s.cols, nil, nil) || impl.IsClear(s.rows, s.cols, []bool{}, []bool{}) || impl.ArraySets(s.rows, s.cols, nil, nil) != 0 || impl.ArraySets(s.rows, s.cols, []bool{}, []bool{}) != 0 {
			t.Fatalf("%v: something is told by no results", s)
		}
	}
}

// P9: no two results share memory.
func TestP9ArrayResultsMemory(t *testing.T) {
	found := func(s shape, bad int) [][]bool {
		r, c, _ := impl.TestArray(s.rows, s.cols, bad)
		return [][]bool{r, c}
	}
	for _, s := range append(allShapes(), shape{0, 1}, shape{5, 5}) {
		sets := []int{-1, 0, 16}
		if impl.ArrayOk(s.rows, s.cols) {
			sets = append(s.someArraySets(), -1, s.sets())
		}
		for _, bad := range sets {
			lists := slices.Concat(found(s, bad), found(s, bad))
			var firsts [][]bool
			for _, list := range lists {
				firsts = append(firsts, slices.Clone(list))
			}
			for i, list := range lists {
				turnResults(list)
				for k := i + 1; k < len(lists); k++ {
					if !slices.Equal(lists[k], firsts[k]) {
						t.Fatalf("%v, %d is bad: two results share memory: %v, want %v", s, bad, lists[k], firsts[k])
					}
				}
			}
			for i, list := range found(s, bad) {
				if !slices.Equal(list, firsts[i]) {
					t.Fatalf("%v, %d is bad: a result that was overwritten is returned: %v, want %v", s, bad, list, firsts[i])
				}
			}
		}
	}
}

// P9: a call that is repeated many times, with other calls in between, returns the same.
func TestP9ArrayRepeated(t *testing.T) {
	all := slices.Repeat([]bool{true}, 4)
	for i := range 1000 {
		r, c, ok := impl.TestArray(2, 2, 9)
		u, v, two := impl.TestArray(4, 4, 33)
		x, y, far := impl.TestArray(2, 2, 16)
		if !ok || resultText(r) != "++" || resultText(c) != "++" || !two || resultText(u) != "++.." || resultText(v) != "++.." || far || len(x) > 0 || len(y) > 0 {
			t.Fatalf("TestArray changes: %v, %v, %v, %v, %v, %v, %v, %v, %v", r, c, ok, u, v, two, x, y, far)
		}
		if impl.SuspectsOf(2, 2, r, c) != 15 || impl.SuspectsOf(4, 4, u, v) != 51 || impl.SuspectsOf(4, 4, r, c) != 0 || impl.IsClear(2, 2, r, c) || !impl.IsClear(2, 2, r[:2], []bool{true, false}) {
			t.Fatal("SuspectsOf or IsClear changes")
		}
		if impl.CountArrayTests(2, 2, 9) != 8 || impl.CountArrayTests(2, 2, 3) != 4 || impl.CountArrayTests(2, 2, 16) != -1 || impl.CountArrayTests(4, 4, 65535) != 24 {
			t.Fatal("CountArrayTests changes")
		}
		if impl.ArraySets(2, 2, r, c) != 7 || impl.ArraySets(4, 4, u, v) != 7 || impl.ArraySets(3, 3, all[:3], all[1:]) != 265 || impl.ArraySets(2, 2, u, v) != 0 || i%50 == 0 && impl.ArraySets(4, 4, all, all) != 41503 {
			t.Fatal("ArraySets changes")
		}
		if impl.WorstArray(2, 2, 1) != 4 || impl.WorstArray(2, 2, 2) != 8 || impl.WorstArray(4, 4, 1) != -1 || impl.WorstArray(2, 3, 3) != 11 || i%10 == 0 && impl.WorstArray(3, 3, 9) != 15 {
			t.Fatal("WorstArray changes")
		}
		turnResults(r, c, u, v)
	}
}

// P9: every goroutine that a call starts has ended when it returns, also where the call fails.
func TestP9ArrayGoroutines(t *testing.T) {
	before := runtime.NumGoroutine()
	for _, s := range append(allShapes(), shape{0, 0}, shape{5, 1}, shape{1, 5}, shape{math.MinInt, math.MaxInt}) {
		for d := -1; d <= 4; d++ {
			impl.WorstArray(s.rows, s.cols, d)
			impl.TestArray(s.rows, s.cols, d)
			impl.CountArrayTests(s.rows, s.cols, d)
			for _, positive := range []bool{false, true} {
				r, c := slices.Repeat([]bool{positive}, 4), slices.Repeat([]bool{true}, 4)
				impl.ArraySets(s.rows, s.cols, r[:max(d, 0)], c)
				if impl.ArrayOk(s.rows, s.cols) {
					impl.ArraySets(s.rows, s.cols, r[:s.rows], c[:s.cols])
				}
			}
			if !endsWith(before) {
				t.Fatalf("%v, %d: a goroutine does not end", s, d)
			}
		}
	}
}

// P9: calls at the same time do not disturb each other.
func TestP9ArrayTogether(t *testing.T) {
	shapes := allShapes()
	wrong := make([]int, 8)
	var group sync.WaitGroup
	for worker := range wrong {
		group.Go(func() {
			for i := range shapes {
				s := shapes[(i+worker)%len(shapes)]
				same := s.wantSame()
				for _, bad := range s.someArraySets() {
					wantR, wantC := s.wantLines(bad)
					r, c, ok := impl.TestArray(s.rows, s.cols, bad)
					if !ok || !slices.Equal(r, wantR) || !slices.Equal(c, wantC) || impl.SuspectsOf(s.rows, s.cols, r, c) != setOf(s.wantSuspects(r, c)...) || impl.IsClear(s.rows, s.cols, r, c) != wantClear(r, c) || impl.CountArrayTests(s.rows, s.cols, bad) != s.wantTests(bad) {
						wrong[worker]++
					}
					if len(s.wantSuspects(r, c)) <= 9 && impl.ArraySets(s.rows, s.cols, r, c) != same[resultText(r)+"/"+resultText(c)] {
						wrong[worker]++
					}
				}
				if d := worker % 4; s.rows*s.cols <= 9 && impl.WorstArray(s.rows, s.cols, d) != s.wantWorst(d) {
					wrong[worker]++
				}
			}
		})
	}
	group.Wait()
	if slices.Max(wrong) > 0 {
		t.Errorf("wrong answers: %v", wrong)
	}
}

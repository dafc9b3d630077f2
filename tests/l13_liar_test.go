package tests

import (
	"math"
	"runtime"
	"slices"
	"sync"
	"testing"

	"loop.example/g01040/impl"
)

// inquiry is a number of numbers with questions about them and their answers.
type inquiry struct {
	n       int
	asks    []int
	answers []bool
}

// wantLies counts the answers that are false for a number.
func (q inquiry) wantLies(number int) int {
	lies := 0
	for i, ask := range q.asks {
		if slices.Contains(wantItems(ask), number) != q.answers[i] {
			lies++
		}
	}
	return lies
}

// wantFits asks of each number alone how many answers are false for it.
func (q inquiry) wantFits() (int, int) {
	fits := map[int][]int{}
	for number := range q.n {
		lies := q.wantLies(number)
		fits[lies] = append(fits[lies], number)
	}
	return setOf(fits[0]...), setOf(fits[1]...)
}

func (q inquiry) wantOk() bool {
	if q.n < 1 || q.n > 8 || len(q.asks) > 8 || len(q.answers) != len(q.asks) {
		return false
	}
	return len(q.asks) == 0 || slices.Min(q.asks) >= 0 && slices.Max(q.asks) <= setsUpTo(q.n)-1
}

// with returns the inquiry with a further question and its answer.
func (q inquiry) with(ask int, answer bool) inquiry {
	return inquiry{q.n, append(slices.Clone(q.asks), ask), append(slices.Clone(q.answers), answer)}
}

// smallInquiries are all those about few numbers, up to some number of questions.
func smallInquiries() []inquiry {
	var list []inquiry
	for n := 1; n <= 3; n++ {
		for _, asks := range allLists(itemsUpTo(setsUpTo(n)), []int{5, 4, 3}[n-1]) {
			for _, answers := range allResults(len(asks)) {
				list = append(list, inquiry{n, asks, answers})
			}
		}
	}
	return list
}

// someInquiries are about up to eight numbers, with up to eight questions, and with all answers to them.
func someInquiries() []inquiry {
	var list []inquiry
	for n := 1; n <= 8; n++ {
		all := setsUpTo(n) - 1
		lists := [][]int{nil, {}, make([]int, 8), slices.Repeat([]int{all}, 8), slices.Repeat([]int{0, all}, 4), slices.Repeat([]int{1}, 8), singles(n), bitPairs(n)}
		for count := 1; count <= 8; count++ {
			lists = append(lists, mixedPools(n, count, 100*n+count), mixedPools(n, count, 977*n+count))
		}
		for _, asks := range lists {
			for _, answers := range allResults(len(asks)) {
				list = append(list, inquiry{n, asks, answers})
			}
		}
	}
	return list
}

// wrongNumbers are no valid n.
func wrongNumbers() []int { return append(wrongItems(), 9, 10) }

// wrongInquiries are not valid, each for one reason.
func wrongInquiries() []inquiry {
	var list []inquiry
	for _, n := range wrongNumbers() {
		for _, asks := range [][]int{nil, {}, {0}, {1}, {1, 2}, {0, 0, 0}, make([]int, 8)} {
			list = append(list, inquiry{n, asks, make([]bool, len(asks))}, inquiry{n, asks, slices.Repeat([]bool{true}, len(asks))})
		}
	}
	for n := 1; n <= 8; n++ {
		for _, count := range []int{9, 10, 12, 13, 256, 256 + 3, 70000} {
			list = append(list, inquiry{n, make([]int, count), make([]bool, count)}, inquiry{n, slices.Repeat([]int{1}, count), slices.Repeat([]bool{true}, count)})
		}
		for _, ask := range wrongSets(n) {
			for _, asks := range [][]int{{ask}, {ask, 1, 0}, {1, ask, 1}, {0, 1, ask}, {ask, ask}, append(make([]int, 7), ask), append([]int{ask}, make([]int, 7)...)} {
				list = append(list, inquiry{n, asks, make([]bool, len(asks))}, inquiry{n, asks, slices.Repeat([]bool{true}, len(asks))})
			}
		}
		for _, asks := range [][]int{nil, {0}, {1, 1}, singles(n), make([]int, 8)} {
			for _, answers := range wrongCounts(make([]bool, len(asks))) {
				list = append(list, inquiry{n, asks, answers})
			}
		}
	}
	return list
}

// standing is how many numbers fit with no lie and with one, and how many questions are left.
type standing struct {
	a, b, q int
}

// wantWon follows the recursion of the document, from no question on to eight, without any limit of b.
func wantWon() map[standing]bool {
	won := map[standing]bool{}
	for q := 0; q <= 8; q++ {
		for a := 0; a <= 8; a++ {
			for b := 0; a+b <= 24; b++ {
				_, _, found := wantAsk(won, standing{a, b, q})
				won[standing{a, b, q}] = a+b <= 1 || found
			}
		}
	}
	return won
}

// wantAsk returns the first question after which both answers lead to what is won with one question fewer.
func wantAsk(won map[standing]bool, s standing) (int, int, bool) {
	if s.q < 1 {
		return 0, 0, false
	}
	for x := 0; x <= s.a; x++ {
		for y := 0; y <= s.b; y++ {
			if won[standing{x, y + s.a - x, s.q - 1}] && won[standing{s.a - x, s.b - y + x, s.q - 1}] {
				return x, y, true
			}
		}
	}
	return 0, 0, false
}

// inRange reports whether CanWin may be true.
func (s standing) inRange() bool {
	return s.a >= 0 && s.a <= 8 && s.b >= 0 && s.b <= 16 && s.q >= 0 && s.q <= 8
}

// allStandings are those in range and just outside.
func allStandings() []standing {
	var list []standing
	for a := -2; a <= 10; a++ {
		for b := -2; b <= 18; b++ {
			for q := -2; q <= 10; q++ {
				list = append(list, standing{a, b, q})
			}
		}
	}
	return list
}

// farStandings have at least one number that is far out of range, some of them a sum that overflows to a small one.
func farStandings() []standing {
	far := []int{math.MinInt, math.MinInt + 1, math.MinInt + 8, math.MaxInt, math.MaxInt - 1, 1 << 32, 1<<32 + 1, 1 - 1<<32, 1 << 62, -1 << 62, 64, 256, 257, -256}
	var list []standing
	for _, x := range far {
		for _, y := range append([]int{-1, 0, 1, 2, 8, 9, 16, 17, -x, 1 - x}, far...) {
			for _, z := range []int{-1, 0, 1, 3, 8, 9, x, y} {
				list = append(list, standing{x, y, z}, standing{y, x, z}, standing{z, y, x})
			}
		}
	}
	return list
}

// remaining are the numbers that fit with no lie and with one.
type remaining struct {
	none, one int
}

func (r remaining) numbers() []int { return wantItems(r.none | r.one) }

// after counts, number by number, the lies before and with an answer to a question.
func (r remaining) after(ask int, answer bool) remaining {
	fits := map[int][]int{}
	for _, number := range r.numbers() {
		lies := map[bool]int{true: 1}[slices.Contains(wantItems(r.one), number)]
		if slices.Contains(wantItems(ask), number) != answer {
			lies++
		}
		fits[lies] = append(fits[lies], number)
	}
	return remaining{setOf(fits[0]...), setOf(fits[1]...)}
}

// allRemaining are all ways in which each number up to n fits with no lie, with one, or not at all.
func allRemaining(n int) []remaining {
	var list []remaining
	for none := range setsUpTo(n) {
		for one := range setsUpTo(n) {
			if none&one == 0 {
				list = append(list, remaining{none, one})
			}
		}
	}
	return list
}

// foundWith tries all questions about numbers up to n, from no question on to eight, and returns from which remaining numbers the chosen one is always found.
func foundWith(n int) []map[remaining]bool {
	var found []map[remaining]bool
	for q := 0; q <= 8; q++ {
		now := map[remaining]bool{}
		for _, r := range allRemaining(n) {
			now[r] = len(r.numbers()) <= 1 || q > 0 && slices.ContainsFunc(itemsUpTo(setsUpTo(n)), func(ask int) bool {
				return found[q-1][r.after(ask, true)] && found[q-1][r.after(ask, false)]
			})
		}
		found = append(found, now)
	}
	return found
}

// fitting returns what FitsAfter returns for a valid inquiry.
func fitting(t *testing.T, q inquiry) remaining {
	t.Helper()
	if !impl.AsksOk(q.n, q.asks, q.answers) {
		t.Fatalf("AsksOk(%d, %v, %v) = false", q.n, q.asks, q.answers)
	}
	none, one := impl.FitsAfter(q.n, q.asks, q.answers)
	return remaining{none, one}
}

// nextAsk returns a question that FirstAsk names, made of the least numbers of both kinds, and false if it names none.
func nextAsk(t *testing.T, q inquiry, left int) (int, bool) {
	t.Helper()
	r := fitting(t, q)
	none, one := wantItems(r.none), wantItems(r.one)
	x, y, ok := impl.FirstAsk(len(none), len(one), left)
	if !ok {
		return 0, false
	}
	if x < 0 || x > len(none) || y < 0 || y > len(one) {
		t.Fatalf("FirstAsk(%d, %d, %d) = %d, %d", len(none), len(one), left, x, y)
	}
	return setOf(slices.Concat(none[:x], one[:y])...), true
}

// P7: FitsAfter returns the sets of the numbers for which none, and exactly one, of the answers is false, and IsFound is true exactly if they have one number together.
func TestP7Fits(t *testing.T) {
	found := map[bool]int{}
	for _, q := range append(smallInquiries(), someInquiries()...) {
		r := fitting(t, q)
		var few []int
		for number := range q.n {
			lies := q.wantLies(number)
			if slices.Contains(wantItems(r.none), number) != (lies == 0) || slices.Contains(wantItems(r.one), number) != (lies == 1) {
				t.Fatalf("FitsAfter(%d, %v, %v) = %d, %d, but %d answers are false for %d", q.n, q.asks, q.answers, r.none, r.one, lies, number)
			}
			if lies <= 1 {
				few = append(few, number)
			}
		}
		if r.none|r.one >= setsUpTo(q.n) || impl.IsFound(q.n, q.asks, q.answers) != (len(few) == 1) {
			t.Fatalf("%d numbers, asks %v, answers %v: %v fit, FitsAfter is %d, %d, IsFound is %v", q.n, q.asks, q.answers, few, r.none, r.one, impl.IsFound(q.n, q.asks, q.answers))
		}
		found[len(few) == 1]++
	}
	if found[true] < 1000 || found[false] < 1000 {
		t.Errorf("found or not: %v", found)
	}
}

// P7: with true answers, or all but one, the chosen number is never left out, and it is in the one set or in the other.
func TestP7ChosenFits(t *testing.T) {
	for n := 1; n <= 8; n++ {
		for count := range 9 {
			asks := mixedPools(n, count, 31*n+count)
			for chosen := range n {
				for lie := -1; lie < count; lie++ {
					answers := wantResults(asks, setOf(chosen))
					if lie >= 0 {
						answers[lie] = !answers[lie]
					}
					r := fitting(t, inquiry{n, asks, answers})
					if slices.Contains(wantItems(r.none), chosen) != (lie < 0) || slices.Contains(wantItems(r.one), chosen) != (lie >= 0) {
						t.Fatalf("FitsAfter(%d, %v, %v) = %d, %d, chosen is %d, answer %d is a lie", n, asks, answers, r.none, r.one, chosen, lie)
					}
					if impl.IsFound(n, asks, answers) && r.none|r.one != setOf(chosen) {
						t.Fatalf("IsFound(%d, %v, %v), but chosen is %d", n, asks, answers, chosen)
					}
				}
			}
		}
	}
}

// P7: a question divides the numbers as the recursion of CanWin says, and its order among the others does not matter.
func TestP7FitsStep(t *testing.T) {
	for i, q := range append(smallInquiries(), someInquiries()...) {
		if len(q.asks) == 0 {
			continue
		}
		last := len(q.asks) - 1
		before := fitting(t, inquiry{q.n, q.asks[:last], q.answers[:last]})
		if got := fitting(t, q); got != before.after(q.asks[last], q.answers[last]) {
			t.Fatalf("FitsAfter(%d, %v, %v) = %v, and without the last question %v", q.n, q.asks, q.answers, got, before)
		}
		turned := inquiry{q.n, slices.Clone(q.asks), slices.Clone(q.answers)}
		if i%2 == 0 {
			slices.Reverse(turned.asks)
			slices.Reverse(turned.answers)
		} else {
			turned = inquiry{q.n, q.asks[1:], q.answers[1:]}.with(q.asks[0], q.answers[0])
		}
		if fitting(t, turned) != fitting(t, q) {
			t.Fatalf("FitsAfter(%d, %v, %v) = %v, in another order %v", q.n, q.asks, q.answers, fitting(t, q), fitting(t, turned))
		}
	}
}

// P7: WeightOf is the number of ways in which further answers can be given: each number that fits counts once in each row of answers with which it still does.
func TestP7WeightOfRows(t *testing.T) {
	for n := 1; n <= 8; n++ {
		for first := range 3 {
			for further := range 6 {
				asks := mixedPools(n, first+further, 13*n+first+7*further)
				for _, begun := range allResults(first) {
					r := fitting(t, inquiry{n, asks[:first], begun})
					ways := 0
					for _, row := range allResults(further) {
						ways += len(fitting(t, inquiry{n, asks, slices.Concat(begun, row)}).numbers())
					}
					a, b := len(wantItems(r.none)), len(wantItems(r.one))
					if got := impl.WeightOf(a, b, further); got != ways {
						t.Fatalf("WeightOf(%d, %d, %d) = %d, there are %d ways", a, b, further, got, ways)
					}
				}
			}
		}
	}
}

// P7: the ways are divided among both answers, and there are not more of them than rows of answers where the number can be found.
func TestP7WeightOfWon(t *testing.T) {
	for _, s := range allStandings() {
		if !s.inRange() || s.q == 0 {
			continue
		}
		weight := impl.WeightOf(s.a, s.b, s.q)
		for x := 0; x <= s.a; x++ {
			for y := 0; y <= s.b; y++ {
				if yes, no := impl.WeightOf(x, y+s.a-x, s.q-1), impl.WeightOf(s.a-x, s.b-y+x, s.q-1); yes+no != weight {
					t.Fatalf("WeightOf(%v) = %d, after a question about %d and %d it is %d and %d", s, weight, x, y, yes, no)
				}
			}
		}
		if impl.CanWin(s.a, s.b, s.q) && weight > setsUpTo(s.q) {
			t.Fatalf("CanWin(%v), but WeightOf is %d", s, weight)
		}
	}
}

// P7: CanWin is true exactly if the number is always found, whatever of up to six numbers fit and whatever is asked.
func TestP7CanWinFound(t *testing.T) {
	for n := 1; n <= 6; n++ {
		for q, found := range foundWith(n) {
			for r, always := range found {
				a, b := len(wantItems(r.none)), len(wantItems(r.one))
				if impl.CanWin(a, b, q) != always {
					t.Fatalf("CanWin(%d, %d, %d) = %v, from %v it is %v", a, b, q, !always, r, always)
				}
			}
			if all := (remaining{setsUpTo(n) - 1, 0}); found[all] != (impl.FewestAsks(n) <= q) {
				t.Fatalf("FewestAsks(%d) = %d, with %d questions the number is found: %v", n, impl.FewestAsks(n), q, found[all])
			}
		}
	}
}

// P7: with FewestAsks questions or more, and those that FirstAsk names, each number is found, whichever answer is a lie.
func TestP7Played(t *testing.T) {
	for n := 1; n <= 8; n++ {
		for most := impl.FewestAsks(n); most <= 8; most++ {
			for chosen := range n {
				for lie := -1; lie < most; lie++ {
					q := inquiry{n: n}
					for left := most; ; left-- {
						ask, more := nextAsk(t, q, left)
						if !more {
							break
						}
						q = q.with(ask, slices.Contains(wantItems(ask), chosen) != (len(q.asks) == lie))
					}
					if r := fitting(t, q); len(q.asks) > most || r.none|r.one != setOf(chosen) || !impl.IsFound(n, q.asks, q.answers) {
						t.Fatalf("%d numbers, %d questions, chosen is %d, answer %d is a lie: %v ends with %v", n, most, chosen, lie, q, r)
					}
				}
			}
		}
	}
}

// P7: with all answers to the questions that FirstAsk names, at most one number is left, and none is found before all others are out.
func TestP7PlayedAll(t *testing.T) {
	ends := 0
	var play func(q inquiry, left int)
	play = func(q inquiry, left int) {
		r := fitting(t, q)
		if impl.IsFound(q.n, q.asks, q.answers) != (len(r.numbers()) == 1) {
			t.Fatalf("%v: IsFound, but FitsAfter is %v", q, r)
		}
		ask, more := nextAsk(t, q, left)
		if more == (len(r.numbers()) <= 1) {
			t.Fatalf("%v, %d questions left: FirstAsk is %v, FitsAfter %v", q, left, more, r)
		}
		if !more {
			ends++
			return
		}
		play(q.with(ask, true), left-1)
		play(q.with(ask, false), left-1)
	}
	for n := 1; n <= 8; n++ {
		for most := impl.FewestAsks(n); most <= 8; most++ {
			play(inquiry{n: n}, most)
		}
	}
	if ends < 500 {
		t.Errorf("only %d ends", ends)
	}
}

// P7: CanWin, FirstAsk and FewestAsks are as the recursion says.
func TestP7Recursion(t *testing.T) {
	won := wantWon()
	count := map[bool]int{}
	for _, s := range allStandings() {
		if !s.inRange() {
			continue
		}
		if impl.CanWin(s.a, s.b, s.q) != won[s] {
			t.Fatalf("CanWin(%v) = %v", s, !won[s])
		}
		count[won[s]]++
		x, y, ok := impl.FirstAsk(s.a, s.b, s.q)
		wantX, wantY, found := 0, 0, false
		if s.a+s.b > 1 {
			wantX, wantY, found = wantAsk(won, s)
		}
		if x != wantX || y != wantY || ok != found {
			t.Fatalf("FirstAsk(%v) = %d, %d, %v, want %d, %d, %v", s, x, y, ok, wantX, wantY, found)
		}
	}
	if count[true] < 300 || count[false] < 300 {
		t.Errorf("won or not: %v", count)
	}
	for n := 1; n <= 8; n++ {
		fewest := impl.FewestAsks(n)
		for q := 0; q <= 8; q++ {
			if won[standing{n, 0, q}] != (fewest >= 0 && q >= fewest) {
				t.Errorf("FewestAsks(%d) = %d, with %d questions it is %v", n, fewest, q, won[standing{n, 0, q}])
			}
		}
	}
}

func TestP9AsksNamed(t *testing.T) {
	yes, no := []bool{true}, []bool{false}
	named := []struct {
		n         int
		asks      []int
		answers   []bool
		ok        bool
		none, one int
		found     bool
	}{
		{4, []int{1, 1, 2}, resultsFrom("++."), true, 1, 0, true}, {4, []int{1}, yes, true, 1, 14, false}, {4, []int{1}, no, true, 14, 1, false}, {4, []int{3, 5, 9}, resultsFrom("+.."), true, 2, 0, true}, {4, []int{3, 5, 3}, resultsFrom("+++"), true, 1, 2, false}, {4, []int{3, 5, 3, 5}, resultsFrom("++++"), true, 1, 0, true}, {4, []int{3, 3, 5, 9}, resultsFrom("++.+"), true, 0, 3, false}, {3, []int{1, 2, 4}, resultsFrom("..."), true, 0, 7, false}, {3, []int{1, 2, 4}, resultsFrom("++."), true, 0, 3, false}, {3, []int{1, 2, 4}, resultsFrom("+++"), true, 0, 0, false},
		// Found with no lie, with one, and not, because nothing fits.
		{2, []int{1, 1, 1}, resultsFrom("+++"), true, 1, 0, true}, {2, []int{1, 1, 1}, resultsFrom("+.+"), true, 0, 1, true}, {2, []int{1, 1, 1}, resultsFrom(".+."), true, 0, 2, true}, {2, []int{1, 2, 1}, resultsFrom("+.+"), true, 1, 0, true}, {2, []int{1, 1}, resultsFrom("++"), true, 1, 0, true}, {2, []int{1, 1}, resultsFrom("+."), true, 0, 3, false}, {2, []int{1, 1, 1, 1}, resultsFrom("++.."), true, 0, 0, false}, {1, []int{0, 0}, resultsFrom("++"), true, 0, 0, false},
		// No asks.
		{1, nil, nil, true, 1, 0, true}, {1, []int{}, []bool{}, true, 1, 0, true}, {2, nil, nil, true, 3, 0, false}, {2, nil, []bool{}, true, 3, 0, false}, {8, []int{}, nil, true, 255, 0, false},
		// n 0, 1, 8, 9, the least and the greatest int.
		{0, nil, nil, false, 0, 0, false}, {0, []int{0}, yes, false, 0, 0, false}, {1, []int{1}, yes, true, 1, 0, true}, {1, []int{1}, no, true, 0, 1, true}, {1, []int{0}, yes, true, 0, 1, true}, {1, []int{0}, no, true, 1, 0, true}, {1, []int{2}, yes, false, 0, 0, false}, {8, []int{170}, yes, true, 170, 85, false}, {8, []int{255, 128}, resultsFrom("++"), true, 128, 127, false}, {8, []int{256}, yes, false, 0, 0, false}, {9, nil, nil, false, 0, 0, false}, {9, []int{1}, yes, false, 0, 0, false}, {10, []int{1}, yes, false, 0, 0, false},
		{math.MinInt, nil, nil, false, 0, 0, false}, {math.MaxInt, nil, nil, false, 0, 0, false}, {math.MinInt, []int{1}, yes, false, 0, 0, false}, {math.MaxInt, []int{1}, yes, false, 0, 0, false}, {-1, []int{0}, yes, false, 0, 0, false}, {64, []int{1}, yes, false, 0, 0, false},
		// 8 asks and 9.
		{8, []int{170, 170, 204, 204, 240, 240, 15, 51}, resultsFrom("++++++.."), true, 128, 0, true}, {8, []int{170, 170, 204, 204, 240, 240, 15, 51}, resultsFrom("++++++.+"), true, 0, 128, true}, {3, make([]int, 8), make([]bool, 8), true, 7, 0, false}, {3, make([]int, 8), resultsFrom("+......."), true, 0, 7, false}, {3, make([]int, 8), resultsFrom("+......+"), true, 0, 0, false}, {3, make([]int, 9), make([]bool, 9), false, 0, 0, false}, {1, make([]int, 9), make([]bool, 9), false, 0, 0, false}, {1, make([]int, 9), make([]bool, 8), false, 0, 0, false},
		// Fewer and more answers than asks.
		{4, []int{1}, nil, false, 0, 0, false}, {4, nil, yes, false, 0, 0, false}, {1, nil, no, false, 0, 0, false}, {1, []int{1}, resultsFrom("++"), false, 0, 0, false}, {4, []int{1, 2}, yes, false, 0, 0, false}, {4, make([]int, 8), make([]bool, 7), false, 0, 0, false}, {4, make([]int, 8), make([]bool, 9), false, 0, 0, false},
		// An ask 0, one of all numbers, one with a number too many, a negative one.
		{4, []int{0}, yes, true, 0, 15, false}, {4, []int{0}, no, true, 15, 0, false}, {4, []int{15}, yes, true, 15, 0, false}, {4, []int{15}, no, true, 0, 15, false}, {4, []int{0, 15}, resultsFrom("+."), true, 0, 0, false}, {4, []int{16}, yes, false, 0, 0, false}, {4, []int{16}, no, false, 0, 0, false}, {4, []int{31}, yes, false, 0, 0, false}, {4, []int{-1}, yes, false, 0, 0, false}, {4, []int{-1}, no, false, 0, 0, false}, {1, []int{1, -1}, resultsFrom("++"), false, 0, 0, false}, {1, []int{math.MinInt}, no, false, 0, 0, false}, {1, []int{math.MaxInt}, yes, false, 0, 0, false}, {4, []int{1, 16, 1}, resultsFrom("+.+"), false, 0, 0, false},
		// The same ask twice, with the same and with opposite answers.
		{4, []int{3, 3}, resultsFrom("++"), true, 3, 0, false}, {4, []int{3, 3}, resultsFrom(".."), true, 12, 0, false}, {4, []int{3, 3}, resultsFrom("+."), true, 0, 15, false}, {4, []int{3, 3}, resultsFrom(".+"), true, 0, 15, false}, {4, []int{8, 8}, resultsFrom("++"), true, 8, 0, true}, {1, []int{1, 1}, resultsFrom("+."), true, 0, 1, true}, {1, []int{1, 1}, resultsFrom(".."), true, 0, 0, false}, {4, []int{3, 12}, resultsFrom("++"), true, 0, 15, false}, {4, []int{3, 12}, resultsFrom("+."), true, 3, 0, false},
	}
	for _, c := range named {
		if got := impl.AsksOk(c.n, c.asks, c.answers); got != c.ok {
			t.Errorf("AsksOk(%d, %v, %v) = %v", c.n, c.asks, c.answers, got)
		}
		if none, one := impl.FitsAfter(c.n, c.asks, c.answers); none != c.none || one != c.one {
			t.Errorf("FitsAfter(%d, %v, %v) = %d, %d, want %d, %d", c.n, c.asks, c.answers, none, one, c.none, c.one)
		}
		if got := impl.IsFound(c.n, c.asks, c.answers); got != c.found {
			t.Errorf("IsFound(%d, %v, %v) = %v", c.n, c.asks, c.answers, got)
		}
	}
}

func TestP9AsksAll(t *testing.T) {
	for _, q := range slices.Concat(smallInquiries(), someInquiries(), wrongInquiries()) {
		ok := q.wantOk()
		if impl.AsksOk(q.n, q.asks, q.answers) != ok {
			t.Fatalf("AsksOk(%d, %v, %v) = %v", q.n, q.asks[:min(len(q.asks), 14)], q.answers[:min(len(q.answers), 14)], !ok)
		}
		wantNone, wantOne := 0, 0
		if ok {
			wantNone, wantOne = q.wantFits()
		}
		if none, one := impl.FitsAfter(q.n, q.asks, q.answers); none != wantNone || one != wantOne {
			t.Fatalf("FitsAfter(%d, %v, %v) = %d, %d, want %d, %d", q.n, q.asks[:min(len(q.asks), 14)], q.answers[:min(len(q.answers), 14)], none, one, wantNone, wantOne)
		}
		if found := len(wantItems(wantNone))+len(wantItems(wantOne)) == 1; impl.IsFound(q.n, q.asks, q.answers) != found {
			t.Fatalf("IsFound(%d, %v, %v) = %v", q.n, q.asks[:min(len(q.asks), 14)], q.answers[:min(len(q.answers), 14)], !found)
		}
	}
	for _, q := range wrongInquiries() {
		if q.wantOk() {
			t.Fatalf("%v is valid", q)
		}
	}
}

func TestP9WeightOf(t *testing.T) {
	named := []struct{ a, b, q, want int }{
		{4, 0, 5, 24}, {-1, 0, 5, -1}, {0, 0, 0, 0}, {1, 0, 0, 1}, {0, 1, 0, 1}, {1, 1, 1, 3}, {0, 4, 2, 4}, {2, 3, 4, 13}, {8, 16, 8, 88},
		{0, -1, 5, -1}, {0, 0, -1, -1}, {-1, -1, -1, -1}, {1000, 1000, 40, 42000}, {1000, 0, 40, 41000}, {0, 1000, 40, 1000}, {1000, 1000, 0, 2000}, {1001, 0, 0, -1}, {0, 1001, 0, -1}, {0, 0, 41, -1}, {1000, 1000, 41, -1}, {1001, 1000, 40, -1}, {1000, 1001, 40, -1}, {0, 0, 40, 0},
		{math.MinInt, 0, 0, -1}, {0, math.MinInt, 0, -1}, {0, 0, math.MinInt, -1}, {math.MaxInt, 0, 0, -1}, {0, math.MaxInt, 0, -1}, {0, 0, math.MaxInt, -1}, {1, math.MinInt, math.MaxInt, -1}, {-2, 1000, 40, -1}, {1000, -1, 40, -1}, {1, 40, -2, -1},
	}
	for _, c := range named {
		if got := impl.WeightOf(c.a, c.b, c.q); got != c.want {
			t.Errorf("WeightOf(%d, %d, %d) = %d, want %d", c.a, c.b, c.q, got, c.want)
		}
	}
	counts := []int{-2, -1, 0, 1, 2, 3, 7, 8, 9, 16, 17, 24, 40, 41, 255, 256, 512, 998, 999, 1000, 1001, 1002, 1024, 1 << 32, 1<<32 + 1, -1 << 32, math.MinInt, math.MaxInt}
	for _, a := range counts {
		for _, b := range counts {
			for _, q := range append(counts, itemsUpTo(44)...) {
				want := -1
				if a >= 0 && a <= 1000 && b >= 0 && b <= 1000 && q >= 0 && q <= 40 {
					want = a + b
					for range q {
						want += a
					}
				}
				if got := impl.WeightOf(a, b, q); got != want {
					t.Fatalf("WeightOf(%d, %d, %d) = %d, want %d", a, b, q, got, want)
				}
			}
		}
	}
}

func TestP9WinNamed(t *testing.T) {
	named := []struct {
		a, b, q int
		won     bool
		x, y    int
		ok      bool
	}{
		{4, 0, 5, true, 2, 0, true}, {4, 0, 4, false, 0, 0, false}, {0, 4, 2, true, 0, 2, true}, {0, 4, 1, false, 0, 0, false}, {2, 0, 3, true, 1, 0, true}, {2, 0, 2, false, 0, 0, false}, {1, 1, 2, true, 0, 1, true}, {1, 1, 1, false, 0, 0, false}, {1, 2, 2, false, 0, 0, false}, {0, 2, 1, true, 0, 1, true}, {0, 3, 2, true, 0, 1, true}, {0, 2, 2, true, 0, 0, true}, {1, 4, 3, true, 0, 3, true}, {1, 5, 3, false, 0, 0, false}, {0, 16, 4, true, 0, 8, true}, {0, 16, 3, false, 0, 0, false}, {8, 0, 6, true, 4, 0, true}, {8, 0, 5, false, 0, 0, false}, {5, 0, 5, false, 0, 0, false}, {8, 16, 8, true, 0, 0, true},
		// a + b at most 1, also with no question.
		{0, 0, 0, true, 0, 0, false}, {1, 0, 0, true, 0, 0, false}, {0, 1, 0, true, 0, 0, false}, {0, 0, 1, true, 0, 0, false}, {1, 0, 1, true, 0, 0, false}, {0, 1, 1, true, 0, 0, false}, {0, 0, 8, true, 0, 0, false}, {1, 0, 8, true, 0, 0, false}, {0, 1, 8, true, 0, 0, false}, {1, 1, 0, false, 0, 0, false}, {2, 0, 0, false, 0, 0, false}, {0, 2, 0, false, 0, 0, false},
		// a -1, 0, 8 and 9, b -1, 0, 16 and 17, q -1, 0, 8 and 9.
		{-1, 0, 8, false, 0, 0, false}, {-1, 1, 8, false, 0, 0, false}, {-1, 2, 8, false, 0, 0, false}, {-1, 3, 8, false, 0, 0, false}, {9, 0, 8, false, 0, 0, false}, {9, 16, 8, false, 0, 0, false}, {0, -1, 8, false, 0, 0, false}, {1, -1, 8, false, 0, 0, false}, {2, -1, 8, false, 0, 0, false}, {3, -1, 8, false, 0, 0, false}, {0, 17, 8, false, 0, 0, false}, {8, 17, 8, false, 0, 0, false}, {1, 17, 8, false, 0, 0, false}, {0, 0, -1, false, 0, 0, false}, {1, 0, -1, false, 0, 0, false}, {0, 1, -1, false, 0, 0, false}, {0, 2, -1, false, 0, 0, false}, {0, 0, 9, false, 0, 0, false}, {1, 0, 9, false, 0, 0, false}, {0, 1, 9, false, 0, 0, false}, {2, 0, 9, false, 0, 0, false}, {8, 16, 9, false, 0, 0, false}, {8, 16, 0, false, 0, 0, false},
		{math.MinInt, 0, 3, false, 0, 0, false}, {0, math.MinInt, 3, false, 0, 0, false}, {0, 0, math.MinInt, false, 0, 0, false}, {2, 0, math.MinInt, false, 0, 0, false}, {math.MaxInt, 0, 3, false, 0, 0, false}, {0, math.MaxInt, 3, false, 0, 0, false}, {0, 0, math.MaxInt, false, 0, 0, false}, {2, 0, math.MaxInt, false, 0, 0, false}, {math.MinInt, math.MinInt, 3, false, 0, 0, false}, {math.MaxInt, math.MaxInt, 3, false, 0, 0, false}, {math.MaxInt, math.MinInt, 3, false, 0, 0, false}, {math.MinInt, math.MinInt, math.MinInt, false, 0, 0, false}, {math.MaxInt, math.MaxInt, math.MaxInt, false, 0, 0, false},
	}
	for _, c := range named {
		if got := impl.CanWin(c.a, c.b, c.q); got != c.won {
			t.Errorf("CanWin(%d, %d, %d) = %v", c.a, c.b, c.q, got)
		}
		if x, y, ok := impl.FirstAsk(c.a, c.b, c.q); x != c.x || y != c.y || ok != c.ok {
			t.Errorf("FirstAsk(%d, %d, %d) = %d, %d, %v, want %d, %d, %v", c.a, c.b, c.q, x, y, ok, c.x, c.y, c.ok)
		}
	}
}

// P9: outside of their ranges, CanWin is false and FirstAsk has no question.
func TestP9WinRanges(t *testing.T) {
	for _, s := range append(allStandings(), farStandings()...) {
		if s.inRange() {
			continue
		}
		x, y, ok := impl.FirstAsk(s.a, s.b, s.q)
		if impl.CanWin(s.a, s.b, s.q) || x != 0 || y != 0 || ok {
			t.Fatalf("CanWin(%v) = %v, FirstAsk is %d, %d, %v", s, impl.CanWin(s.a, s.b, s.q), x, y, ok)
		}
	}
}

func TestP9FewestAsks(t *testing.T) {
	named := map[int]int{1: 0, 2: 3, 3: 5, 4: 5, 5: 6, 6: 6, 7: 6, 8: 6}
	for _, n := range slices.Concat(someInts(), wrongNumbers()) {
		want, ok := named[n]
		if !ok {
			want = -1
		}
		if got := impl.FewestAsks(n); got != want {
			t.Errorf("FewestAsks(%d) = %d, want %d", n, got, want)
		}
	}
}

// P9: asks, answers and the room behind them stay as they are.
func TestP9AsksArguments(t *testing.T) {
	list := []inquiry{{0, []int{1}, []bool{true}}, {9, []int{1}, []bool{true}}, {3, []int{8, 1}, []bool{true, false}}, {3, []int{1, -1}, []bool{true, false}}, {3, make([]int, 9), make([]bool, 9)}, {3, []int{1, 2}, []bool{true}}, {3, []int{1}, []bool{true, false}}, {math.MinInt, []int{1, 2}, []bool{true, true}}, {math.MaxInt, nil, nil}}
	for i, q := range someInquiries() {
		if i%11 == 0 {
			list = append(list, q)
		}
	}
	for _, q := range list {
		asks, answers := guarded(q.asks...), guardedResults(q.answers)
		impl.AsksOk(q.n, asks.list, answers.list)
		impl.FitsAfter(q.n, asks.list, answers.list)
		impl.IsFound(q.n, asks.list, answers.list)
		if !asks.same() || !answers.same() {
			t.Fatalf("an argument was changed: %v, %v", asks.whole, answers.whole)
		}
	}
}

// P9: a nil slice and an empty one are the same.
func TestP9AsksNil(t *testing.T) {
	for n := -1; n <= 10; n++ {
		valid := n >= 1 && n <= 8
		want := 0
		if valid {
			want = setsUpTo(n) - 1
		}
		for _, asks := range [][]int{nil, {}} {
			for _, answers := range [][]bool{nil, {}} {
				none, one := impl.FitsAfter(n, asks, answers)
				if impl.AsksOk(n, asks, answers) != valid || none != want || one != 0 || impl.IsFound(n, asks, answers) != (n == 1) {
					t.Errorf("%d numbers, asks %#v, answers %#v: FitsAfter is %d, %d", n, asks, answers, none, one)
				}
			}
			if impl.AsksOk(n, asks, []bool{true}) {
				t.Errorf("AsksOk(%d, %#v, [true])", n, asks)
			}
		}
	}
}

// P9: a call that is repeated many times, with other calls in between, returns the same, in whatever order select takes the answers.
func TestP9LiarRepeated(t *testing.T) {
	asks, answers := []int{170, 204, 240, 15, 170, 204, 51, 85}, resultsFrom(".++.++.+")
	for i := range 2000 {
		none, one := impl.FitsAfter(8, asks, answers)
		few, fewer := impl.FitsAfter(8, asks[:2], answers[:2])
		wrong, zero := impl.FitsAfter(7, asks, answers)
		if none != 0 || one != 64 || few != 68 || fewer != 153 || wrong != 0 || zero != 0 {
			t.Fatalf("FitsAfter changes: %d, %d, %d, %d, %d, %d", none, one, few, fewer, wrong, zero)
		}
		if !impl.AsksOk(8, asks, answers) || impl.AsksOk(8, asks, answers[1:]) || impl.AsksOk(7, asks, answers) {
			t.Fatal("AsksOk changes")
		}
		if !impl.IsFound(8, asks, answers) || impl.IsFound(8, asks[:6], answers[:6]) || impl.IsFound(8, asks[:4], answers[:4]) {
			t.Fatal("IsFound changes")
		}
		if impl.WeightOf(4, 0, 5) != 24 || impl.WeightOf(4, 1001, 5) != -1 {
			t.Fatal("WeightOf changes")
		}
		if !impl.CanWin(4, 0, 5) || impl.CanWin(4, 0, 4) || !impl.CanWin(0, 4, 2) || impl.CanWin(9, 0, 8) {
			t.Fatal("CanWin changes")
		}
		x, y, ok := impl.FirstAsk(1, 4, 3)
		if a, b, lost := impl.FirstAsk(1, 5, 3); x != 0 || y != 3 || !ok || a != 0 || b != 0 || lost {
			t.Fatalf("FirstAsk changes: %d, %d, %v, %d, %d, %v", x, y, ok, a, b, lost)
		}
		if n := i % 10; impl.FewestAsks(n) != []int{-1, 0, 3, 5, 5, 6, 6, 6, 6, -1}[n] {
			t.Fatal("FewestAsks changes")
		}
	}
	// The same slices with other contents are other questions and other answers.
	asks[4], answers[0], answers[7] = 128, true, false
	if none, one := impl.FitsAfter(8, asks, answers); none != 128 || one != 0 {
		t.Errorf("FitsAfter(8, %v, %v) = %d, %d", asks, answers, none, one)
	}
}

// P9: every goroutine that a call starts has ended when it returns, also where the call fails.
func TestP9LiarGoroutines(t *testing.T) {
	before := runtime.NumGoroutine()
	var list []inquiry
	for i, q := range slices.Concat(smallInquiries(), someInquiries(), wrongInquiries()) {
		if i%29 == 0 {
			list = append(list, q)
		}
	}
	for i, q := range list {
		impl.AsksOk(q.n, q.asks, q.answers)
		impl.FitsAfter(q.n, q.asks, q.answers)
		impl.IsFound(q.n, q.asks, q.answers)
		impl.WeightOf(i%10, i%18, i%10)
		impl.CanWin(i%10, i%18, i%10)
		impl.FirstAsk(i%10, i%18, i%10)
		impl.FewestAsks(i % 10)
		if !endsWith(before) {
			t.Fatalf("%d numbers, asks %v: a goroutine does not end", q.n, q.asks[:min(len(q.asks), 14)])
		}
	}
}

// P9: calls at the same time do not disturb each other.
func TestP9LiarTogether(t *testing.T) {
	inquiries, won := someInquiries(), wantWon()
	wrong := make([]int, 8)
	var group sync.WaitGroup
	for worker := range wrong {
		group.Go(func() {
			for i := worker; i < len(inquiries); i += 5 {
				q, s := inquiries[i], standing{i % 9, i % 17, i % 8}
				wantNone, wantOne := q.wantFits()
				if none, one := impl.FitsAfter(q.n, q.asks, q.answers); none != wantNone || one != wantOne || !impl.AsksOk(q.n, q.asks, q.answers) {
					wrong[worker]++
				}
				if impl.IsFound(q.n, q.asks, q.answers) != (len(wantItems(wantNone))+len(wantItems(wantOne)) == 1) {
					wrong[worker]++
				}
				wantX, wantY, _ := wantAsk(won, s)
				x, y, ok := impl.FirstAsk(s.a, s.b, s.q)
				if impl.CanWin(s.a, s.b, s.q) != won[s] || ok && (x != wantX || y != wantY) || impl.WeightOf(s.a, s.b, s.q) != s.a*s.q+s.a+s.b {
					wrong[worker]++
				}
				if impl.FewestAsks(i%4) != []int{-1, 0, 3, 5}[i%4] {
					wrong[worker]++
				}
			}
		})
	}
	group.Wait()
	if slices.Max(wrong) > 0 {
		t.Errorf("wrong answers: %v", wrong)
	}
}

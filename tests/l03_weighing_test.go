package tests

import (
	"math"
	"slices"
	"strconv"
	"strings"
	"sync"
	"testing"

	"loop.example/g01040/impl"
)

func weigh(left, right []int) impl.Weighing { return impl.Weighing{Left: left, Right: right} }

func sameWeighing(a, b impl.Weighing) bool {
	return slices.Equal(a.Left, b.Left) && slices.Equal(a.Right, b.Right)
}

// placed is a weighing with the outcome for each coin if it is too heavy: 1 on the left, -1 on the right, 0 beside.
type placed struct {
	w     impl.Weighing
	place [14]int
}

// everyWeighing puts each coin in turn on the left, on the right or beside, and keeps what has equal sides.
func everyWeighing(coins int) []placed {
	list := []placed{{}}
	for coin := 1; coin <= coins; coin++ {
		for _, p := range list {
			left, right := p, p
			left.w.Left = append(slices.Clone(p.w.Left), coin)
			left.place[coin] = 1
			right.w.Right = append(slices.Clone(p.w.Right), coin)
			right.place[coin] = -1
			if len(left.w.Left) <= coins/2 {
				list = append(list, left)
			}
			if len(right.w.Right) <= coins/2 {
				list = append(list, right)
			}
		}
	}
	return slices.DeleteFunc(list, func(p placed) bool {
		return len(p.w.Left) == 0 || len(p.w.Left) != len(p.w.Right)
	})
}

// allWeighings are those of 13 coins; they are many, so the tests share one list.
var allWeighings = sync.OnceValue(func() []placed { return everyWeighing(impl.MaxCoins) })

// someWeighings returns all weighings of five coins, and some of all thirteen.
func someWeighings() []placed {
	list := everyWeighing(5)
	for i, p := range allWeighings() {
		if i%997 == 0 || len(p.w.Left) == 6 && i%31 == 0 {
			list = append(list, p)
		}
	}
	return list
}

// wrongWeighings returns weighings that are not valid for any number of coins.
func wrongWeighings() []impl.Weighing {
	return []impl.Weighing{
		{},
		weigh([]int{}, []int{}),
		weigh([]int{1}, nil),
		weigh(nil, []int{1}),
		weigh([]int{1}, []int{}),
		weigh([]int{1}, []int{1}),
		weigh([]int{1, 2}, []int{2, 3}),
		weigh([]int{1, 3}, []int{2, 3}),
		weigh([]int{1, 2}, []int{1, 2}),
		weigh([]int{1}, []int{2, 3}),
		weigh([]int{1, 2}, []int{3}),
		weigh([]int{2, 1}, []int{3, 4}),
		weigh([]int{1, 2}, []int{4, 3}),
		weigh([]int{1, 1}, []int{2, 3}),
		weigh([]int{1, 2}, []int{3, 3}),
		weigh([]int{0}, []int{1}),
		weigh([]int{1}, []int{0}),
		weigh([]int{0, 1}, []int{2, 3}),
		weigh([]int{-1}, []int{1}),
		weigh([]int{1}, []int{-2}),
		weigh([]int{1}, []int{14}),
		weigh([]int{14}, []int{1}),
		weigh([]int{1, 14}, []int{2, 3}),
		weigh([]int{math.MinInt}, []int{1}),
		weigh([]int{1}, []int{math.MaxInt}),
		weigh([]int{math.MaxInt, math.MinInt}, []int{1, 2}),
		weigh([]int{1<<32 + 1}, []int{2}),
		weigh([]int{1, 2, 3, 4, 5, 6, 7}, []int{7, 8, 9, 10, 11, 12, 13}),
		weigh([]int{1, 2, 3, 4, 5, 6, 7}, []int{8, 9, 10, 11, 12, 13, 14}),
		weigh([]int{1, 2, 3, 4, 5, 6, 7}, []int{8, 9, 10, 11, 12, 13}),
	}
}

// someCases returns all cases, numbers near them, and numbers far from them.
func someCases() []int {
	list := []int{math.MinInt, math.MinInt + 1, math.MinInt + 14, math.MaxInt, math.MaxInt - 1, 1 << 32, 1<<32 + 1, -(1 << 32) - 1, 1<<63 - 13, 257, -257}
	for c := -20; c <= 20; c++ {
		list = append(list, c)
	}
	return list
}

// someCaseLists returns lists of cases: empty ones, unordered ones, with a case twice, with numbers that are no cases.
func someCaseLists() [][]int {
	backward := someCases()
	slices.Reverse(backward)
	list := [][]int{nil, {}, someCases(), backward, append(someCases(), backward...),
		impl.CasesOf(impl.Problem{Coins: 13, Heavy: true, Light: true, None: true}),
		{1, 1, 1, 2, 2, -1, -1, 0, 0}, {5, -5, 5, -5, 4, 0, 14}, {math.MinInt, 1, math.MaxInt, -1}}
	return append(list, allLists([]int{-2, -1, 0, 1, 2, 3, 14}, 4)...)
}

// allLists returns all lists of at most most of the values.
func allLists(values []int, most int) [][]int {
	all := [][]int{nil}
	last := all
	for range most {
		var next [][]int
		for _, l := range last {
			for _, v := range values {
				next = append(next, append(slices.Clone(l), v))
			}
		}
		all = append(all, next...)
		last = next
	}
	return all
}

// wantWeighing writes a weighing without regard to its validity.
func wantWeighing(w impl.Weighing) string {
	text := ""
	for _, coin := range w.Left {
		text += "," + strconv.Itoa(coin)
	}
	text += ":"
	for _, coin := range w.Right {
		text += "," + strconv.Itoa(coin)
	}
	return strings.TrimPrefix(strings.Replace(text, ":,", ":", 1), ",")
}

// allTexts returns every valid weighing under its text.
func allTexts() map[string]impl.Weighing {
	m := map[string]impl.Weighing{}
	for _, p := range allWeighings() {
		m[wantWeighing(p.w)] = p.w
	}
	return m
}

// P1: every valid weighing is recovered from its text, and no two have one text.
func TestP1WeighingTexts(t *testing.T) {
	all := allWeighings()
	if len(all) != 212940 {
		t.Fatalf("the test knows %d weighings of 13 coins", len(all))
	}
	seen := map[string]bool{}
	for _, p := range all {
		s := impl.FormatWeighing(p.w)
		if s == "" || seen[s] {
			t.Fatalf("FormatWeighing(%v) = %q, empty or that of another one", p.w, s)
		}
		seen[s] = true
		if got, ok := impl.ParseWeighing(s); !ok || !sameWeighing(got, p.w) {
			t.Fatalf("ParseWeighing(%q) = %v, %v, want %v", s, got, ok, p.w)
		}
	}
}

// P1: a light coin has the opposite outcome of a heavy one, and exchanged sides the opposite one too.
func TestP1OppositeOutcomes(t *testing.T) {
	for _, p := range someWeighings() {
		turned := impl.TurnWeighing(p.w)
		if !sameWeighing(impl.TurnWeighing(turned), p.w) {
			t.Errorf("%v turned twice is %v", p.w, impl.TurnWeighing(turned))
		}
		for coin := 1; coin <= 13; coin++ {
			heavy, light := impl.OutcomeOf(p.w, coin), impl.OutcomeOf(p.w, -coin)
			if (heavy != 0) != (p.place[coin] != 0) {
				t.Errorf("OutcomeOf(%v, %d) = %d", p.w, coin, heavy)
			}
			if light != -heavy {
				t.Errorf("coin %d on %v: heavy %d, light %d", coin, p.w, heavy, light)
			}
			if impl.OutcomeOf(turned, coin) != -heavy || impl.OutcomeOf(turned, -coin) != -light {
				t.Errorf("coin %d on %v: %d, %d, turned %d, %d", coin, p.w, heavy, light, impl.OutcomeOf(turned, coin), impl.OutcomeOf(turned, -coin))
			}
		}
	}
}

// P1: a weighing divides a list of cases into three lists, in order, none lost and none twice; TellsMost is the length of the longest.
func TestP1Split(t *testing.T) {
	weighings := wrongWeighings()
	for _, p := range someWeighings() {
		weighings = append(weighings, p.w)
	}
	lists := someCaseLists()
	for i, w := range weighings {
		for j, cases := range lists {
			// The longer lists of a few cases are many: each weighing divides a fifth of them.
			if len(cases) > 2 && len(cases) < 5 && (i+j)%5 != 0 {
				continue
			}
			less, even, more := impl.SplitBy(w, cases)
			parts := map[int][]int{-1: less, 0: even, 1: more}
			for _, c := range cases {
				o := impl.OutcomeOf(w, c)
				if len(parts[o]) == 0 || parts[o][0] != c {
					t.Fatalf("SplitBy(%v, %v) = %v, %v, %v: %d is not the next one with %d", w, cases, less, even, more, c, o)
				}
				parts[o] = parts[o][1:]
			}
			if len(less)+len(even)+len(more) != len(cases) {
				t.Fatalf("SplitBy(%v, %v) = %v, %v, %v", w, cases, less, even, more)
			}
			longest := slices.Max([]int{len(less), len(even), len(more)})
			if got := impl.TellsMost(w, cases); got != longest {
				t.Fatalf("TellsMost(%v, %v) = %d, want %d", w, cases, got, longest)
			}
		}
	}
}

func TestP9WeighingOkNamed(t *testing.T) {
	named := []struct {
		left, right []int
		coins       int
		want        bool
	}{
		{[]int{1, 2}, []int{3, 4}, 4, true},
		{[]int{1, 2}, []int{3, 4}, 3, false},
		{[]int{3, 4}, []int{1, 2}, 4, true},
		{[]int{3, 4}, []int{1, 2}, 3, false},
		{[]int{1, 4}, []int{2, 3}, 13, true},
		{[]int{1}, []int{2}, 2, true},
		{[]int{2}, []int{1}, 2, true},
		{[]int{1}, []int{2}, 1, false},
		{[]int{1}, []int{1}, 1, false},
		{[]int{1}, []int{2}, 0, false},
		{[]int{1}, []int{2}, -1, false},
		{[]int{1}, []int{2}, math.MinInt, false},
		{[]int{1}, []int{2}, 13, true},
		{[]int{1}, []int{2}, 14, false},
		{[]int{1}, []int{2}, math.MaxInt, false},
		{[]int{1}, []int{2}, 1<<32 + 5, false},
		{[]int{13}, []int{12}, 13, true},
		{[]int{13}, []int{12}, 12, false},
		{[]int{1, 2, 3, 4, 5, 6}, []int{7, 8, 9, 10, 11, 12}, 13, true},
		{[]int{1, 2, 3, 4, 5, 6}, []int{7, 8, 9, 10, 11, 12}, 12, true},
		{[]int{1, 2, 3, 4, 5, 6}, []int{7, 8, 9, 10, 11, 12}, 11, false},
		{[]int{2, 4, 6, 8, 10, 12}, []int{1, 3, 5, 7, 9, 13}, 13, true},
		{nil, nil, 4, false},
		{[]int{1}, nil, 4, false},
		{[]int{}, []int{1}, 4, false},
		{[]int{2, 1}, []int{3, 4}, 4, false},
		{[]int{1, 2}, []int{4, 3}, 4, false},
		{[]int{1, 1}, []int{3, 4}, 4, false},
		{[]int{1, 2}, []int{3, 3}, 4, false},
		{[]int{0, 1}, []int{2, 3}, 4, false},
		{[]int{1, 2}, []int{0, 3}, 4, false},
		{[]int{1}, []int{2, 3}, 4, false},
		{[]int{1, 2}, []int{3}, 4, false},
		{[]int{1, 2}, []int{2, 3}, 4, false},
		{[]int{1, 4}, []int{2, 4}, 4, false},
	}
	for _, c := range named {
		if got := impl.WeighingOk(weigh(c.left, c.right), c.coins); got != c.want {
			t.Errorf("WeighingOk(%v : %v, %d) = %v", c.left, c.right, c.coins, got)
		}
	}
	for _, w := range wrongWeighings() {
		for coins := -2; coins <= 16; coins++ {
			if impl.WeighingOk(w, coins) {
				t.Errorf("WeighingOk(%v, %d) = true", w, coins)
			}
		}
	}
}

// wantOk looks at the coins of both sides together: there are as many different ones as there are coins.
func wantOk(w impl.Weighing, coins int) bool {
	different := map[int]bool{}
	for _, coin := range slices.Concat(w.Left, w.Right) {
		different[coin] = true
		if coin < 1 || coin > coins {
			return false
		}
	}
	return coins > 0 && coins < 14 && len(w.Left) > 0 && len(w.Left) == len(w.Right) &&
		len(different) == 2*len(w.Left) && slices.IsSorted(w.Left) && slices.IsSorted(w.Right)
}

func TestP9WeighingOkAll(t *testing.T) {
	lists := allLists([]int{-1, 0, 1, 2, 3, 4, 13, 14}, 2)
	lists = append(lists, allLists([]int{1, 2, 3}, 3)...)
	for _, left := range lists {
		for _, right := range lists {
			w := weigh(left, right)
			for _, coins := range []int{math.MinInt, -1, 0, 1, 2, 3, 4, 12, 13, 14, math.MaxInt} {
				if got := impl.WeighingOk(w, coins); got != wantOk(w, coins) {
					t.Errorf("WeighingOk(%v, %d) = %v", w, coins, got)
				}
			}
		}
	}
	for _, p := range allWeighings() {
		greatest := max(slices.Max(p.w.Left), slices.Max(p.w.Right))
		for coins := greatest - 1; coins <= 14; coins++ {
			if got := impl.WeighingOk(p.w, coins); got != (coins >= greatest && coins <= 13) {
				t.Errorf("WeighingOk(%v, %d) = %v", p.w, coins, got)
			}
		}
	}
}

func TestP9OutcomeOf(t *testing.T) {
	w := weigh([]int{1, 2}, []int{3, 13})
	named := map[int]int{1: 1, 2: 1, 3: -1, 13: -1, -1: -1, -2: -1, -3: 1, -13: 1, 0: 0, 4: 0, -4: 0, 12: 0, -12: 0,
		14: 0, -14: 0, math.MaxInt: 0, math.MinInt: 0, math.MinInt + 1: 0, 1<<32 + 1: 0, -(1 << 32) - 1: 0, 257: 0}
	for c, want := range named {
		if got := impl.OutcomeOf(w, c); got != want {
			t.Errorf("OutcomeOf(%v, %d) = %d, want %d", w, c, got, want)
		}
	}
	for _, p := range someWeighings() {
		for _, c := range someCases() {
			want := 0
			if c > 0 && c < 14 {
				want = p.place[c]
			} else if c < 0 && c > -14 {
				want = -p.place[-c]
			}
			if got := impl.OutcomeOf(p.w, c); got != want {
				t.Errorf("OutcomeOf(%v, %d) = %d, want %d", p.w, c, got, want)
			}
		}
	}
	for _, w := range wrongWeighings() {
		for _, c := range someCases() {
			if got := impl.OutcomeOf(w, c); got != 0 {
				t.Errorf("OutcomeOf(%v, %d) = %d, want 0", w, c, got)
			}
		}
	}
}

func TestP9SplitBy(t *testing.T) {
	one := weigh([]int{1}, []int{2})
	named := []struct {
		w                impl.Weighing
		cases            []int
		less, even, more []int
	}{
		{one, nil, nil, nil, nil},
		{one, []int{}, nil, nil, nil},
		{one, []int{-2, -1, 0, 1, 2}, []int{-1, 2}, []int{0}, []int{-2, 1}},
		{one, []int{2, 1, 0, -1, -2}, []int{2, -1}, []int{0}, []int{1, -2}},
		{one, []int{1, 1, 2, 2, 0, 0, 1}, []int{2, 2}, []int{0, 0}, []int{1, 1, 1}},
		{one, []int{3, -3, 14, -14, math.MinInt, math.MaxInt}, nil, []int{3, -3, 14, -14, math.MinInt, math.MaxInt}, nil},
		{one, []int{1, -2}, nil, nil, []int{1, -2}},
		{one, []int{-1}, []int{-1}, nil, nil},
		{weigh([]int{2, 1}, []int{3, 4}), []int{1, -1, 4, 0}, nil, []int{1, -1, 4, 0}, nil},
		{weigh([]int{1}, []int{14}), []int{14, 1, -1}, nil, []int{14, 1, -1}, nil},
		{impl.Weighing{}, []int{0, 1, 1}, nil, []int{0, 1, 1}, nil},
		{weigh([]int{1, 2, 3, 4, 5, 6}, []int{7, 8, 9, 10, 11, 12}), []int{13, 12, 6, -6, -12, -13, 0},
			[]int{12, -6}, []int{13, -13, 0}, []int{6, -12}},
	}
	for _, c := range named {
		less, even, more := impl.SplitBy(c.w, c.cases)
		if !slices.Equal(less, c.less) || !slices.Equal(even, c.even) || !slices.Equal(more, c.more) {
			t.Errorf("SplitBy(%v, %v) = %v, %v, %v", c.w, c.cases, less, even, more)
		}
	}
}

func TestP9TellsMost(t *testing.T) {
	one := weigh([]int{1}, []int{2})
	named := []struct {
		w     impl.Weighing
		cases []int
		want  int
	}{
		{one, nil, 0},
		{one, []int{}, 0},
		{one, []int{0}, 1},
		{one, []int{-2, -1, 0, 1, 2}, 2},
		{one, []int{1, 1, 1, 0, 2}, 3},
		{one, []int{2, 2, 2, 2, 0, 1}, 4},
		{one, []int{0, 5, 14, -14, math.MinInt, 1, 2}, 5},
		{weigh([]int{1}, []int{1}), []int{1, -1, 0}, 3},
		{impl.Weighing{}, []int{1, 2, 3, 4}, 4},
		{impl.Weighing{}, nil, 0},
	}
	for _, c := range named {
		if got := impl.TellsMost(c.w, c.cases); got != c.want {
			t.Errorf("TellsMost(%v, %v) = %d, want %d", c.w, c.cases, got, c.want)
		}
	}
}

func TestP9FormatWeighing(t *testing.T) {
	named := map[string]impl.Weighing{
		"1:2":                         weigh([]int{1}, []int{2}),
		"2:1":                         weigh([]int{2}, []int{1}),
		"13:12":                       weigh([]int{13}, []int{12}),
		"1,2:3,4":                     weigh([]int{1, 2}, []int{3, 4}),
		"2,10:1,11":                   weigh([]int{2, 10}, []int{1, 11}),
		"1,2,3,4,5,6:7,8,9,10,11,12":  weigh([]int{1, 2, 3, 4, 5, 6}, []int{7, 8, 9, 10, 11, 12}),
		"2,4,6,8,10,12:1,3,5,7,9,13":  weigh([]int{2, 4, 6, 8, 10, 12}, []int{1, 3, 5, 7, 9, 13}),
		"1,3,5,7,9,11:2,4,6,8,10,12":  weigh([]int{1, 3, 5, 7, 9, 11}, []int{2, 4, 6, 8, 10, 12}),
		"8,9,10,11,12,13:1,2,3,4,5,6": weigh([]int{8, 9, 10, 11, 12, 13}, []int{1, 2, 3, 4, 5, 6}),
		"1,2,3,4,5:9,10,11,12,13":     weigh([]int{1, 2, 3, 4, 5}, []int{9, 10, 11, 12, 13}),
		"7:3":                         weigh([]int{7}, []int{3}),
	}
	for want, w := range named {
		if got := impl.FormatWeighing(w); got != want {
			t.Errorf("FormatWeighing(%v) = %q, want %q", w, got, want)
		}
	}
	for want, w := range allTexts() {
		if got := impl.FormatWeighing(w); got != want {
			t.Errorf("FormatWeighing(%v) = %q, want %q", w, got, want)
		}
	}
	for _, w := range wrongWeighings() {
		if got := impl.FormatWeighing(w); got != "" {
			t.Errorf("FormatWeighing(%v) = %q, want none", w, got)
		}
	}
}

func TestP9ParseWeighingRefused(t *testing.T) {
	many := strings.Repeat("1", 30)
	for _, s := range []string{"", ":", "1:", ":1", "1:1", "1:2:3", "1,2:3", "1:2,3", "2,1:3,4", "1,2:4,3", "1,1:2,3", "1,2:3,3",
		"1,2:2,3", "01:2", "1:02", "+1:2", "1:+2", "-1:2", "1:-2", "1: 2", "1 :2", " 1:2", "1:2 ", "1:2,", "1,:2", ",1:2", "1:,2",
		"1,,2:3,4", "1,2:3,,4", "0:1", "1:0", "0,1:2,3", "1:14", "14:1", "1", "1,2", "1;2", "1.2", "1:2\n", "\n1:2", "1:2\x00", "a:b", "1:b", "a:2",
		"1:2:", ":1:2", "::", "1::2", ",:,", ",", "1,2:3,4:", "1,2:3,4,", "1, 2:3,4", "1-2", "1=2", "1+:2-", "none", "-", "-:-",
		many + ":2", "2:" + many, "18446744073709551617:2", "1:18446744073709551618", "4294967297:2", "9223372036854775807:1", "-9223372036854775808:1",
		strings.Repeat("9", 5000) + ":1", strings.Repeat("0", 25) + "1:2", strings.Repeat("1,", 5000) + "1:2", strings.Repeat(":", 5000), strings.Repeat(",", 5000),
		"\xff", "\xff:\xfe", "1:\xff", "1\xff:2", "\xff1:2", "1:2\xff", "1\xff2", "\u0661:2", "1:\uff12", "1\uff1a2", "1\u02d02", "1:2\u2028", "0x1:2", "1e0:2", "1_0:2",
		"1,2,3,4,5,6,7:8,9,10,11,12,13,14", "1,2,3,4,5,6,7:8,9,10,11,12,13", "1,2,3,4,5,6:7,8,9,10,11,14", "1,10,2:3,4,5"} {
		if w, ok := impl.ParseWeighing(s); ok || len(w.Left) != 0 || len(w.Right) != 0 {
			t.Errorf("ParseWeighing(%q) = %v, %v, want the zero value and false", s, w, ok)
		}
	}
}

// P9: of many texts, exactly those of valid weighings are read.
func TestP9ParseWeighing(t *testing.T) {
	valid := allTexts()
	list := append(texts([]string{"0", "1", "2", "3", "14", ",", ":", "-", "+", " ", "\xff"}, 5), everyByte()...)
	for _, s := range []string{"1:2", "1,2:3,4", "9,13:8,12"} {
		for i := range len(s) + 1 {
			for b := range 256 {
				c := string([]byte{byte(b)})
				list = append(list, s[:i]+c+s[i:], s[:i]+c+s[min(i+1, len(s)):])
			}
			list = append(list, s[:i], s[i:], s[:i]+s[min(i+1, len(s)):])
		}
	}
	read := 0
	for _, s := range list {
		want, wantOk := valid[s]
		got, ok := impl.ParseWeighing(s)
		if ok != wantOk || !sameWeighing(got, want) {
			t.Errorf("ParseWeighing(%q) = %v, %v, want %v, %v", s, got, ok, want, wantOk)
		}
		if ok {
			read++
			if back := impl.FormatWeighing(got); back != s {
				t.Errorf("%q is read as %v, which is written %q", s, got, back)
			}
		}
	}
	if read < 20 {
		t.Errorf("only %d of the texts are read", read)
	}
}

func TestP9TurnWeighing(t *testing.T) {
	list := wrongWeighings()
	for _, p := range everyWeighing(6) {
		list = append(list, p.w)
	}
	list = append(list, weigh([]int{1, 2, 3, 4, 5, 6}, []int{7, 8, 9, 10, 11, 12}), weigh([]int{1, 2, 3}, nil), weigh(nil, []int{5, 5, 4, math.MinInt}))
	for _, w := range list {
		if got := impl.TurnWeighing(w); !sameWeighing(got, weigh(w.Right, w.Left)) {
			t.Errorf("TurnWeighing(%v) = %v", w, got)
		}
	}
}

// guard holds a list with room behind it, and what both were at first.
type guard struct {
	list, whole, first []int
}

func guarded(list ...int) guard {
	whole := append(slices.Clone(list), 71, 72, 73, 74)
	return guard{whole[:len(list)], whole, slices.Clone(whole)}
}

func (g guard) same() bool { return slices.Equal(g.whole, g.first) }

// spoil overwrites a result and the room behind it.
func spoil(lists ...[]int) {
	for _, l := range lists {
		l = l[:cap(l)]
		for i := range l {
			l[i] = -99
		}
	}
}

// P9: arguments and the room behind them stay as they are, and results share no memory with them.
func TestP9WeighingArguments(t *testing.T) {
	for _, sides := range [][2][]int{{{1, 2}, {3, 4}}, {{2, 1}, {3, 4}}, {{1}, {2, 3}}, {{}, {}}, {{0, 14}, {1, 1}}} {
		left, right, cases := guarded(sides[0]...), guarded(sides[1]...), guarded(-4, 0, 3, 1, 1, -1, 20)
		w := weigh(left.list, right.list)
		impl.WeighingOk(w, 4)
		impl.OutcomeOf(w, -3)
		impl.TellsMost(w, cases.list)
		impl.FormatWeighing(w)
		less, even, more := impl.SplitBy(w, cases.list)
		turned := impl.TurnWeighing(w)
		if !left.same() || !right.same() || !cases.same() {
			t.Errorf("an argument was changed: %v, %v, %v", left.whole, right.whole, cases.whole)
		}
		spoil(less, even, more, turned.Left, turned.Right)
		if !left.same() || !right.same() || !cases.same() {
			t.Errorf("a result shares memory with an argument: %v, %v, %v", left.whole, right.whole, cases.whole)
		}
	}
}

// P9: no two results share memory, nor do two slices of one result; arguments that share memory are no exception.
func TestP9WeighingResults(t *testing.T) {
	whole := []int{1, 2, 3, 4, 5}
	w := weigh(whole[:2], whole[2:4])
	turned, again := impl.TurnWeighing(w), impl.TurnWeighing(w)
	spoil(turned.Left)
	if !slices.Equal(turned.Right, []int{1, 2}) || !sameWeighing(again, weigh([]int{3, 4}, []int{1, 2})) || !slices.Equal(whole, []int{1, 2, 3, 4, 5}) {
		t.Errorf("TurnWeighing shares memory: %v, %v, %v", turned, again, whole)
	}
	both := impl.TurnWeighing(weigh(whole[:2], whole[:2]))
	spoil(both.Left)
	if !slices.Equal(both.Right, []int{1, 2}) {
		t.Errorf("the sides of a turned weighing share memory: %v", both)
	}
	read, reread := parsed("1,2:3,4"), parsed("1,2:3,4")
	spoil(read.Left)
	if !slices.Equal(read.Right, []int{3, 4}) || !sameWeighing(reread, weigh([]int{1, 2}, []int{3, 4})) {
		t.Errorf("ParseWeighing shares memory: %v, %v", read, reread)
	}
	cases := []int{1, 2, 3, -1, -2, -3}
	one := weigh([]int{1}, []int{2})
	less, even, more := impl.SplitBy(one, cases)
	less2, even2, more2 := impl.SplitBy(one, cases)
	spoil(less)
	if !slices.Equal(even, []int{3, -3}) || !slices.Equal(more, []int{1, -2}) {
		t.Errorf("the lists of SplitBy share memory: %v, %v", even, more)
	}
	spoil(even)
	if !slices.Equal(more, []int{1, -2}) {
		t.Errorf("the lists of SplitBy share memory: %v", more)
	}
	spoil(more)
	if !slices.Equal(less2, []int{2, -1}) || !slices.Equal(even2, []int{3, -3}) || !slices.Equal(more2, []int{1, -2}) {
		t.Errorf("two results of SplitBy share memory: %v, %v, %v", less2, even2, more2)
	}
}

func parsed(text string) impl.Weighing {
	w, _ := impl.ParseWeighing(text)
	return w
}

package tests

import (
	"math"
	"regexp"
	"slices"
	"strconv"
	"testing"

	"loop.example/g01040/impl"
)

// allProblems returns the problems with the given numbers of coins and all settings of the three flags.
func allProblems(coins ...int) []impl.Problem {
	var list []impl.Problem
	for _, n := range coins {
		for flags := range 8 {
			list = append(list, impl.Problem{Coins: n, Heavy: flags&1 != 0, Light: flags&2 != 0, None: flags&4 != 0})
		}
	}
	return list
}

// problem is that of so many coins, heavy with the kind +, light with -, or none with 0.
func problem(coins int, kinds string) impl.Problem {
	p := impl.Problem{Coins: coins}
	for _, kind := range kinds {
		p.Heavy = p.Heavy || kind == '+'
		p.Light = p.Light || kind == '-'
		p.None = p.None || kind == '0'
	}
	return p
}

// someCoins returns all numbers of coins near the valid ones, and some far from them.
func someCoins() []int {
	list := []int{math.MinInt, math.MinInt + 1, -1000, math.MaxInt, math.MaxInt - 1, 1 << 32, 1<<32 + 5, -(1 << 32) + 5, 1000}
	for n := -20; n <= 20; n++ {
		list = append(list, n)
	}
	return list
}

// wantCases lists the cases of a problem part by part: the light ones, none, the heavy ones.
func wantCases(p impl.Problem) []int {
	if p.Coins < 1 || p.Coins > 13 || !p.Heavy && !p.Light {
		return nil
	}
	var cases []int
	if p.Light {
		for k := p.Coins; k > 0; k-- {
			cases = append(cases, -k)
		}
	}
	if p.None {
		cases = append(cases, 0)
	}
	if p.Heavy {
		for k := 1; k <= p.Coins; k++ {
			cases = append(cases, k)
		}
	}
	return cases
}

// P1: every case is recovered from its text, and no two cases have one text.
func TestP1CaseTexts(t *testing.T) {
	seen := map[string]int{}
	for c := -impl.MaxCoins; c <= impl.MaxCoins; c++ {
		s := impl.CaseText(c)
		if before, twice := seen[s]; twice || s == "" {
			t.Errorf("the cases %d and %d have the text %q", before, c, s)
		}
		seen[s] = c
		if got, ok := impl.ReadCase(s); got != c || !ok {
			t.Errorf("ReadCase(CaseText(%d)) = %d, %v", c, got, ok)
		}
	}
	for _, s := range texts([]string{"0", "1", "2", "3", "4", "9", "+", "-", " ", "none", "\xff"}, 4) {
		if c, ok := impl.ReadCase(s); ok && impl.CaseText(c) != s {
			t.Errorf("%q is read as %d, whose text is %q", s, c, impl.CaseText(c))
		}
	}
}

// P1: a problem has exactly the cases that the chapter names.
func TestP1CasesOfProblems(t *testing.T) {
	for _, p := range allProblems(someCoins()...) {
		want := wantCases(p)
		if got := impl.CasesOf(p); !slices.Equal(got, want) {
			t.Errorf("CasesOf(%+v) = %v, want %v", p, got, want)
		}
		for _, c := range append(someCoins(), someInts()...) {
			if got := impl.CaseOk(p, c); got != slices.Contains(want, c) {
				t.Errorf("CaseOk(%+v, %d) = %v", p, c, got)
			}
		}
	}
}

func TestP9ProblemOk(t *testing.T) {
	if impl.MaxCoins != 13 {
		t.Errorf("MaxCoins = %d", impl.MaxCoins)
	}
	named := map[impl.Problem]bool{
		{Coins: 1, Heavy: true}:                             true,
		{Coins: 1, Light: true}:                             true,
		{Coins: 1, Heavy: true, Light: true, None: true}:    true,
		{Coins: 13, Heavy: true}:                            true,
		{Coins: 13, Light: true, None: true}:                true,
		{Coins: 0, Heavy: true}:                             false,
		{Coins: 14, Light: true}:                            false,
		{Coins: -1, Heavy: true, Light: true}:               false,
		{Coins: math.MinInt, Heavy: true}:                   false,
		{Coins: math.MaxInt, Heavy: true}:                   false,
		{Coins: 5}:                                          false,
		{Coins: 5, None: true}:                              false,
		{}:                                                  false,
		{Coins: 0, None: true}:                              false,
		{Coins: 1<<32 + 3, Heavy: true, Light: true}:        false,
		{Coins: -1 << 63, Heavy: true, Light: true}:         false,
		{Coins: 3, Heavy: true, Light: true}:                true,
		{Coins: 3, Heavy: true, Light: false, None: true}:   true,
		{Coins: 3, Heavy: false, Light: true, None: false}:  true,
		{Coins: 14, Heavy: true, Light: true, None: true}:   false,
		{Coins: 13, Heavy: false, Light: false, None: true}: false,
	}
	for p, want := range named {
		if got := impl.ProblemOk(p); got != want {
			t.Errorf("ProblemOk(%+v) = %v", p, got)
		}
	}
	for _, p := range allProblems(someCoins()...) {
		want := p.Coins > 0 && p.Coins < 14 && !(!p.Heavy && !p.Light)
		if got := impl.ProblemOk(p); got != want {
			t.Errorf("ProblemOk(%+v) = %v", p, got)
		}
	}
}

func TestP9CaseOk(t *testing.T) {
	both := impl.Problem{Coins: 3, Heavy: true, Light: true}
	heavy := impl.Problem{Coins: 13, Heavy: true, None: true}
	light := impl.Problem{Coins: 1, Light: true}
	cases := []struct {
		p    impl.Problem
		c    int
		want bool
	}{
		{both, -3, true}, {both, 3, true}, {both, 1, true}, {both, -1, true},
		{both, 0, false}, {both, 4, false}, {both, -4, false},
		{heavy, 0, true}, {heavy, 13, true}, {heavy, 14, false}, {heavy, -1, false}, {heavy, -13, false},
		{light, -1, true}, {light, 1, false}, {light, 0, false}, {light, -2, false},
		{both, math.MinInt, false}, {both, math.MaxInt, false}, {heavy, math.MinInt, false}, {heavy, math.MaxInt, false},
		{impl.Problem{Coins: 3, None: true}, 0, false},
		{impl.Problem{Coins: 14, Heavy: true, None: true}, 0, false},
		{impl.Problem{Coins: 14, Heavy: true, None: true}, 1, false},
		{impl.Problem{Coins: -1, Heavy: true, Light: true, None: true}, 0, false},
		{impl.Problem{Coins: math.MaxInt, Heavy: true}, 5, false},
		{impl.Problem{Coins: math.MinInt, Heavy: true, Light: true}, math.MinInt, false},
	}
	for _, c := range cases {
		if got := impl.CaseOk(c.p, c.c); got != c.want {
			t.Errorf("CaseOk(%+v, %d) = %v", c.p, c.c, got)
		}
	}
}

func TestP9CasesOf(t *testing.T) {
	cases := []struct {
		p    impl.Problem
		want []int
	}{
		{impl.Problem{Coins: 1, Heavy: true}, []int{1}},
		{impl.Problem{Coins: 1, Light: true}, []int{-1}},
		{impl.Problem{Coins: 1, Heavy: true, Light: true, None: true}, []int{-1, 0, 1}},
		{impl.Problem{Coins: 3, Heavy: true, Light: true}, []int{-3, -2, -1, 1, 2, 3}},
		{impl.Problem{Coins: 2, Heavy: true, None: true}, []int{0, 1, 2}},
		{impl.Problem{Coins: 2, Light: true, None: true}, []int{-2, -1, 0}},
		{impl.Problem{Coins: 13, Light: true}, []int{-13, -12, -11, -10, -9, -8, -7, -6, -5, -4, -3, -2, -1}},
		{impl.Problem{Coins: 2, None: true}, nil},
		{impl.Problem{Coins: 2}, nil},
		{impl.Problem{Heavy: true, Light: true, None: true}, nil},
		{impl.Problem{Coins: 14, Heavy: true, Light: true, None: true}, nil},
		{impl.Problem{Coins: -2, Heavy: true, Light: true}, nil},
		{impl.Problem{Coins: math.MaxInt, Heavy: true, Light: true}, nil},
		{impl.Problem{Coins: math.MinInt, Heavy: true, Light: true}, nil},
	}
	for _, c := range cases {
		got := impl.CasesOf(c.p)
		if !slices.Equal(got, c.want) {
			t.Errorf("CasesOf(%+v) = %v, want %v", c.p, got, c.want)
		}
		for i := range got {
			got[i] = 99
		}
		if again := impl.CasesOf(c.p); !slices.Equal(again, c.want) {
			t.Errorf("CasesOf(%+v) = %v after a result was changed", c.p, again)
		}
	}
}

func TestP9CaseText(t *testing.T) {
	named := map[int]string{
		0: "none", 1: "1+", -1: "1-", 3: "3+", -3: "3-", 10: "10+", -10: "10-", 13: "13+", -13: "13-",
		14: "", -14: "", 100: "", -100: "", math.MaxInt: "", math.MinInt: "", math.MinInt + 1: "", 1 << 32: "", 1<<32 + 3: "",
	}
	for c, want := range named {
		if got := impl.CaseText(c); got != want {
			t.Errorf("CaseText(%d) = %q, want %q", c, got, want)
		}
	}
	for _, c := range someInts() {
		want := ""
		if c == 0 {
			want = "none"
		} else if c > 0 && c < 14 {
			want = strconv.Itoa(c) + "+"
		} else if c < 0 && c > -14 {
			want = strconv.Itoa(c)[1:] + "-"
		}
		if got := impl.CaseText(c); got != want {
			t.Errorf("CaseText(%d) = %q, want %q", c, got, want)
		}
	}
}

func TestP9ReadCase(t *testing.T) {
	named := map[string]int{"none": 0, "1+": 1, "1-": -1, "3-": -3, "9+": 9, "10-": -10, "13+": 13, "13-": -13}
	for s, want := range named {
		if got, ok := impl.ReadCase(s); got != want || !ok {
			t.Errorf("ReadCase(%q) = %d, %v, want %d, true", s, got, ok, want)
		}
	}
	for _, s := range []string{"", "0+", "0-", "-0", "+3", "-3", "03+", "003-", "14-", "14+", "3", "13", "0", "3 +", " 3+", "3+ ", "3+\n",
		"None", "NONE", "none ", " none", "none+", "nonenone", "non", "+", "-", "3+-", "3++", "--3", "-3-", "-3+", "+3+", "33+", "130+", "\xff", "3\xff", "\xff3+", "3+\xff",
		"none\xff", "3\u2212", "\u0663+", "\uff13+", "3+\x00", "4294967299+", "-9223372036854775808", "9223372036854775808-", "18446744073709551619+"} {
		if got, ok := impl.ReadCase(s); got != 0 || ok {
			t.Errorf("ReadCase(%q) = %d, %v, want 0, false", s, got, ok)
		}
	}
	pattern := regexp.MustCompile(`\A(none|([1-9]|1[0-3])[+-])\z`)
	list := append(texts([]string{"0", "1", "2", "3", "4", "9", "+", "-", " ", "none", "\xff"}, 4), everyByte()...)
	for _, s := range list {
		c, ok := impl.ReadCase(s)
		if ok != pattern.MatchString(s) || !ok && c != 0 {
			t.Errorf("ReadCase(%q) = %d, %v", s, c, ok)
		}
	}
}

func TestP9CoinOf(t *testing.T) {
	named := map[int]int{0: 0, 1: 1, -1: 1, 5: 5, -5: 5, 13: 13, -13: 13, 14: 0, -14: 0,
		math.MaxInt: 0, math.MinInt: 0, math.MinInt + 1: 0, 1<<32 + 5: 0, -(1 << 32) - 5: 0}
	for c, want := range named {
		if got := impl.CoinOf(c); got != want {
			t.Errorf("CoinOf(%d) = %d, want %d", c, got, want)
		}
	}
	for _, c := range someInts() {
		want := 0
		if c > -14 && c < 14 {
			want = int(math.Abs(float64(c)))
		}
		if got := impl.CoinOf(c); got != want {
			t.Errorf("CoinOf(%d) = %d, want %d", c, got, want)
		}
	}
}

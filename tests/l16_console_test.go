package tests

import (
	"math"
	"regexp"
	"runtime"
	"slices"
	"strconv"
	"strings"
	"sync"
	"testing"

	"loop.example/g01040/impl"
)

const noCommand = "unknown command"

// consoleWith is a console of these parts.
func consoleWith(p impl.Problem, cases []int, items int, pools []int) impl.Console {
	return impl.Console{Problem: p, Cases: cases, Items: items, Pools: pools}
}

// firstConsole is what NewConsole shall return.
func firstConsole() impl.Console {
	return consoleWith(problem(3, "+-0"), []int{-3, -2, -1, 0, 1, 2, 3}, 4, nil)
}

func sameConsole(a, b impl.Console) bool {
	return a.Problem == b.Problem && a.Items == b.Items && slices.Equal(a.Cases, b.Cases) && slices.Equal(a.Pools, b.Pools)
}

// shortConsole is a console for a message: its lists may be long.
func shortConsole(c impl.Console) impl.Console {
	c.Cases, c.Pools = c.Cases[:min(len(c.Cases), 30)], c.Pools[:min(len(c.Pools), 14)]
	return c
}

// afterLines is the console after these lines, which are separated by semicolons.
func afterLines(lines string) impl.Console {
	c := impl.NewConsole()
	for _, line := range strings.Split(lines, ";") {
		c, _ = impl.RunLine(c, line)
	}
	return c
}

// wantWeigh reads a weighing, and writes it again to see whether the text is the only one.
func wantWeigh(text string, coins int) (impl.Weighing, bool) {
	parts := strings.Split(text, ":")
	if len(parts) != 2 {
		return impl.Weighing{}, false
	}
	var sides [2][]int
	for i, part := range parts {
		for _, coin := range strings.Split(part, ",") {
			n, _ := strconv.Atoi(coin)
			sides[i] = append(sides[i], n)
		}
	}
	w := weigh(sides[0], sides[1])
	return w, wantOk(w, coins) && wantWeighing(w) == text
}

func wantWeighings(list []impl.Weighing) string { return wantList(list, " ", wantWeighing) }

var knownSets = sync.OnceValue(textsOfSets)

// leastAsks finds for each number of numbers the least number of questions.
var leastAsks = sync.OnceValue(func() map[int]int {
	won, least := wantWon(), map[int]int{}
	for q := 8; q >= 0; q-- {
		for n := 1; n <= 8; n++ {
			if won[standing{n, 0, q}] {
				least[n] = q
			}
		}
	}
	return least
})

// wantInts reads all of some integers.
func wantInts(texts []string) ([]int, bool) {
	var list []int
	all := true
	for _, text := range texts {
		n, ok := wantInt(text)
		list = append(list, n)
		all = all && ok
	}
	return list, all
}

func noneOr(text string, ok bool) string {
	if !ok {
		return "none"
	}
	return text
}

// wantAboutCoins executes the commands of a problem and its cases; ok is false if there is no such command or an argument is malformed.
func wantAboutCoins(c impl.Console, name string, args []string) (next impl.Console, output string, ok bool) {
	switch name {
	case "cases 0":
		return c, wantCaseList(c.Cases), true
	case "coins 2":
		coins, ok := wantInt(args[0])
		p := problem(coins, args[1])
		if !ok || len(wantCases(p)) == 0 {
			return c, "none", ok
		}
		c.Problem, c.Cases = p, wantCases(p)
		return c, wantCaseList(c.Cases), true
	case "weigh 1":
		w, ok := wantWeigh(args[0], c.Problem.Coins)
		return c, wantSplit(w, c.Cases), ok
	case "hear 2":
		w, ok := wantWeigh(args[0], c.Problem.Coins)
		outcome, known := map[string]int{"<": -1, "=": 0, ">": 1}[args[1]]
		c.Cases = slices.DeleteFunc(slices.Clone(c.Cases), func(bad int) bool { return wantOutcome(w, bad) != outcome })
		return c, wantCaseList(c.Cases), ok && known
	}
	return c, "", false
}

// wantAboutNumbers returns the output of the commands that do not look at the console.
func wantAboutNumbers(name string, args []string) (string, bool) {
	numbers, ok := wantInts(args)
	switch {
	case !ok:
	case name == "vector 1":
		designs := map[int][]impl.Weighing{2: twoVectors(), 3: threeVectors()}
		list, found := designs[numbers[0]]
		return noneOr(wantWeighings(list), found), true
	case name == "state 4":
		line := wantStateLine(stateFrom([4]int(numbers)))
		return noneOr(line, line != ""), true
	case name == "pick 5":
		p, found := wantFirst(stateFrom([4]int(numbers)), numbers[4])
		fields := pickFields(p)
		return noneOr(wantNumbers(fields[:]...), found), true
	case name == "asks 1":
		if least, found := leastAsks()[numbers[0]]; found {
			return strconv.Itoa(least), true
		}
		return "-1", true
	}
	return "", false
}

// wantAboutItems executes the commands of the items and of rounds.
func wantAboutItems(c impl.Console, name string, args []string) (next impl.Console, output string, ok bool) {
	if name != "items 1" && name != "rounds 1" {
		return c, "", false
	}
	n, ok := wantInt(args[0])
	if name == "rounds 1" {
		if !wantPoolsOk(c.Items, c.Pools) || n < 1 || n > 12 {
			return c, "none", ok
		}
		return c, wantRoundsLine(wantGreedy(c.Pools, n)), ok
	}
	if n < 1 || n > 10 {
		return c, "none", ok
	}
	c.Items, c.Pools = n, nil
	return c, "ok", true
}

// wantAboutSets executes the commands that have a set.
func wantAboutSets(c impl.Console, name string, args []string) (next impl.Console, output string, ok bool) {
	if len(args) != 1 {
		return c, "", false
	}
	set, ok := knownSets()[args[0]]
	fine := wantPoolsOk(c.Items, c.Pools)
	inside := wantPoolsOk(c.Items, []int{set})
	switch name {
	case "pool 1":
		if !fine || !inside || len(c.Pools) == 12 {
			return c, "none", ok
		}
		c.Pools = append(slices.Clone(c.Pools), set)
		return c, wantPoolsLine(bench{c.Items, c.Pools}), ok
	case "test 1":
		if !fine || !inside {
			return c, "none", ok
		}
		return c, wantMarked(wantResults(c.Pools, set)), ok
	case "count 1":
		if !fine || !inside || len(c.Pools) == 0 {
			return c, "none", ok
		}
		return c, wantNumbers(wantSums(c.Pools, set)...), ok
	case "halve 1":
		if !inside {
			return c, "none", ok
		}
		return c, wantSetList(wantHalved(c.Items, set).pools), ok
	}
	return c, "", false
}

var resultsText = regexp.MustCompile(`\A(-|[+.]+)\z`)

// wantLine executes a line, each kind of commands by references of its own.
func wantLine(c impl.Console, line string) (impl.Console, string) {
	if line == "" || line[0] == '#' {
		return c, ""
	}
	args := strings.Split(line, " ")[1:]
	name := strings.Split(line, " ")[0] + " " + strconv.Itoa(len(args))
	if next, output, ok := wantAboutCoins(c, name, args); ok {
		return next, output
	}
	if output, ok := wantAboutNumbers(name, args); ok {
		return c, output
	}
	if next, output, ok := wantAboutItems(c, name, args); ok {
		return next, output
	}
	if next, output, ok := wantAboutSets(c, name, args); ok {
		return next, output
	}
	if name == "decode 1" && resultsText.MatchString(args[0]) {
		if !wantPoolsOk(c.Items, c.Pools) {
			return c, "-"
		}
		return c, wantSetList(wantConsistent(c.Items, c.Pools, resultsFrom(strings.TrimPrefix(args[0], "-")), 2))
	}
	return c, noCommand
}

// validConsoles are those that lines can lead to.
func validConsoles() []impl.Console {
	list := []impl.Console{firstConsole()}
	benches := []bench{{1, nil}, {1, []int{1, 0, 1}}, {2, []int{3, 1}}, {3, []int{1, 2, 4}}, {4, []int{3}}, {4, []int{3, 5, 14}}, {4, []int{0, 15}}, {5, mixedPools(5, 7, 3)},
		{7, singles(7)}, {10, nil}, {10, bitPairs(10)}, {10, append(singles(10), 0, 1023)}, {9, lines()[:11]}, {9, lines()}}
	for i, b := range benches {
		p := problem([]int{1, 2, 3, 4, 5, 8, 12, 13}[i%8], []string{"+-0", "+", "-", "+-", "-0", "+0"}[i%6])
		cases := wantCases(p)
		list = append(list, consoleWith(p, cases, b.n, b.pools))
		if i%4 == 0 {
			list = append(list, consoleWith(p, cases[:len(cases)/2], b.n, b.pools), consoleWith(p, nil, b.n, b.pools))
		}
	}
	return list
}

// strangeConsoles are those that no line leads to.
func strangeConsoles() []impl.Console {
	list := []impl.Console{{}, consoleWith(impl.Problem{}, nil, 4, nil), consoleWith(problem(3, "0"), []int{0, 1}, 0, []int{0})}
	for i, coins := range []int{0, -1, 14, 15, -13, 64, 1<<32 + 3, math.MinInt, math.MaxInt} {
		list = append(list, consoleWith(problem(coins, []string{"+-0", "+", "-"}[i%3]), []int{-3, 1, coins}, 4, []int{3, 5}))
	}
	for i, cases := range [][]int{someCases(), {3, 1, 2}, {1, 1, -1, -1, 1}, {4, -5, 0}, {14}, {-14, 14}, {math.MinInt, math.MaxInt}, slices.Repeat([]int{2, -1, 0, 99}, 500)} {
		list = append(list, consoleWith(problem([]int{3, 13}[i%2], []string{"+", "-", "0", "+-0"}[i%4]), cases, 4, []int{3, 5}))
	}
	for _, n := range []int{0, -1, 11, 12, -4, 63, 64, 65, 1<<32 + 4, 1 << 62, math.MinInt, math.MaxInt} {
		list = append(list, consoleWith(problem(4, "+-"), []int{-1, 1}, n, nil), consoleWith(problem(4, "+-"), []int{-1, 1}, n, []int{1, 0}))
	}
	for _, pools := range [][]int{{-1}, {16}, {3, 16}, {1, -1, 2}, {1024}, {math.MinInt}, {1, math.MaxInt}, {1 << 32}, make([]int, 13), make([]int, 3000), append(make([]int, 12), 16)} {
		list = append(list, consoleWith(problem(4, "+-0"), wantCases(problem(4, "+-0")), 4, pools))
	}
	return list
}

// validLines are lines of each command whose arguments are not malformed, at least where there are 13 coins.
func validLines() []string {
	lines := []string{"cases"}
	numbers := []string{"-9223372036854775808", "-4294967295", "-2", "-1", "0", "1", "2", "3", "4", "5", "7", "8", "9", "10", "11", "12", "13", "14", "64", "256", "4294967297", "9223372036854775807"}
	for i, n := range numbers {
		lines = append(lines, "vector "+n, "items "+n, "rounds "+n, "asks "+n, "state "+n+" 1 1 1", "state 0 "+n+" 0 2", "state 1 0 "+n+" 0", "state 0 0 1 "+n, "pick "+n+" 0 0 0 2", "pick 0 3 1 "+n+" 2", "pick 0 3 "+n+" 0 3", "pick 2 0 0 1 "+n)
		for _, kinds := range []string{"+", "-0", "+-0", []string{"0", "", "x", "++", "a+", "\xff-", "00", "0+", "---"}[i%9]} {
			lines = append(lines, "coins "+n+" "+kinds)
		}
	}
	lines = append(lines, "state 0 0 0 0", "state 4 0 0 1", "state 12 0 0 0", "state 13 0 0 0", "state 0 5 4 0", "state 0 13 1 0", "state 9223372036854775807 9223372036854775807 1 1", "pick 12 0 0 0 3", "pick 4 0 0 1 2", "pick 0 5 4 0 2", "pick 0 0 0 0 1", "pick 0 0 0 13 1", "pick 0 1 0 1 1")
	for _, text := range []string{"1:2", "2:1", "1:3", "3:2", "1,2:3,4", "1,4:2,3", "4:5", "1,2,3,4:5,6,7,8", "12:13", "1,10:2,13", "1,3,5,7,9,11:2,4,6,8,10,12"} {
		lines = append(lines, "weigh "+text, "hear "+text+" <", "hear "+text+" =", "hear "+text+" >")
	}
	for _, set := range []string{"-", "0", "1", "01", "02", "12", "3", "013", "0123", "4", "34", "8", "9", "09", "345678", "0123456789"} {
		lines = append(lines, "pool "+set, "test "+set, "count "+set, "halve "+set)
	}
	for _, results := range []string{"-", "+", ".", "+.", ".+", "++", "..", "+.+", "...", "+..", "++++", "..++.+", strings.Repeat(".", 12), strings.Repeat("+", 12), strings.Repeat("+.", 6), strings.Repeat(".", 13), strings.Repeat("+", 300)} {
		lines = append(lines, "decode "+results)
	}
	return lines
}

// otherLines have no output, or that of an unknown command, in each console.
func otherLines() []string {
	return []string{"", "#", "##", "# note", "#cases", "# items 3", "#\xff", "#\n", " ", "  ", "   ", " #", " # note", " cases", "cases ", "  cases", "cases  ", " cases ", "cases cases", "what", "what 1", "case", "casess", "cases\n", "cases\r", "cases\t", "\tcases", "cases#", "cases 1", "coins", "weigh", "hear", "vector", "state", "pick", "items", "pool", "test", "count", "decode", "rounds", "halve", "asks",
		"Cases", "CASES", "COINS 3 +", "Coins 3 +", "coins,3,+", "coins\t3\t+", "coins\u00a03\u00a0+", "3 + coins", "items4", "items=4", "pool01", "unknown command", "unknown", "none", "ok", "-", "<", "0", "4", "1:2", "\n", "\x00", "cases\x00", "\x7f", "\x80", "\xff", "cases\xff", "\xffcases", "é", "ｃases", "\ufffd", "coins 3 + ", " coins 3 +", "coins  3 +", "coins 3  +", "items  4", "items 4 ", " items 4", "items 4 4"}
}

func allConsoles() []impl.Console { return append(validConsoles(), strangeConsoles()...) }

func allLines() []string { return append(validLines(), otherLines()...) }

// checkLine compares a line with the references, in its output and in the new console.
func checkLine(t *testing.T, c impl.Console, line string) {
	t.Helper()
	next, output := impl.RunLine(c, line)
	wantNext, want := wantLine(c, line)
	if output != want {
		t.Fatalf("RunLine(%+v, %.60q) says %.200q, want %.200q", shortConsole(c), line, output, want)
	}
	if !sameConsole(next, wantNext) {
		t.Fatalf("RunLine(%+v, %.60q) = %+v, want %+v", shortConsole(c), line, shortConsole(next), shortConsole(wantNext))
	}
}

// checkUnknown wants a line to be no command, and to leave the console as it was.
func checkUnknown(t *testing.T, c impl.Console, line string) {
	t.Helper()
	next, output := impl.RunLine(c, line)
	if output != noCommand || !sameConsole(next, c) {
		t.Fatalf("RunLine(%+v, %.60q) = %+v, %.60q", shortConsole(c), line, shortConsole(next), output)
	}
}

func TestP9NewConsole(t *testing.T) {
	first := impl.NewConsole()
	if !sameConsole(first, firstConsole()) {
		t.Fatalf("NewConsole() = %+v", first)
	}
	second := impl.NewConsole()
	spoil(first.Cases, first.Pools)
	if !sameConsole(second, firstConsole()) || !sameConsole(impl.NewConsole(), firstConsole()) {
		t.Errorf("new consoles share memory: %+v, %+v", second, impl.NewConsole())
	}
}

// said is a line, the lines before it, and what it says.
type said struct {
	before, line, want string
}

func checkSaid(t *testing.T, list []said) {
	t.Helper()
	for _, c := range list {
		if _, got := impl.RunLine(afterLines(c.before), c.line); got != c.want {
			t.Errorf("after %q, %q says %q, want %q", c.before, c.line, got, c.want)
		}
	}
}

func TestP9CoinsNamed(t *testing.T) {
	checkSaid(t, []said{
		{"", "cases", "3- 2- 1- none 1+ 2+ 3+"}, {"", "coins 4 +-", "4- 3- 2- 1- 1+ 2+ 3+ 4+"}, {"", "coins 1 +", "1+"}, {"", "coins 1 -", "1-"}, {"", "coins 1 -0", "1- none"}, {"", "coins 1 0+", "none 1+"},
		{"", "coins 13 +", "1+ 2+ 3+ 4+ 5+ 6+ 7+ 8+ 9+ 10+ 11+ 12+ 13+"}, {"", "coins 13 -0", "13- 12- 11- 10- 9- 8- 7- 6- 5- 4- 3- 2- 1- none"},
		{"", "coins 0 +", "none"}, {"", "coins 14 +", "none"}, {"", "coins -1 +-0", "none"}, {"", "coins -3 +", "none"}, {"", "coins 9223372036854775807 +-0", "none"}, {"", "coins -9223372036854775808 +-0", "none"}, {"", "coins 4294967299 +", "none"},
		{"", "coins 3 0", "none"}, {"", "coins 3 x", "none"}, {"", "coins 3 00", "none"}, {"", "coins 3 ", "none"}, {"", "coins 3 \u2212", "none"}, {"", "coins 3 \uff0b", "none"}, {"", "coins 3 \xab", "none"}, {"", "coins 3 3", "none"},
		{"", "coins 2 ++", "1+ 2+"}, {"", "coins 2 -+-", "2- 1- 1+ 2+"}, {"", "coins 2 00-", "2- 1- none"}, {"", "coins 2 x+", "1+ 2+"}, {"", "coins 2 +x", "1+ 2+"}, {"", "coins 2 a-b0c", "2- 1- none"}, {"", "coins 2 \xff+", "1+ 2+"}, {"", "coins 2 10", "none"}, {"", "coins 2 -1", "2- 1-"}, {"", "coins 2 +\n", "1+ 2+"},
		{"coins 0 +", "cases", "3- 2- 1- none 1+ 2+ 3+"}, {"coins 14 +-", "cases", "3- 2- 1- none 1+ 2+ 3+"}, {"coins 2 0", "weigh 1:3", "1:3 | 1- 3+ | 2- none 2+ | 3- 1+"}, {"coins 2 -", "cases", "2- 1-"}, {"coins 2 -;coins 3 +", "cases", "1+ 2+ 3+"}, {"coins 2 -;coins 3 0", "cases", "2- 1-"},
		{"hear 1:2 <", "coins 3 +", "1+ 2+ 3+"}, {"hear 1:2 <", "coins 3 0", "none"}, {"hear 1:2 <;coins 3 0", "cases", "1- 2+"},
	})
	if got, want := afterLines("items 3;pool 01;coins 5 -0"), consoleWith(problem(5, "-0"), []int{-5, -4, -3, -2, -1, 0}, 3, []int{3}); !sameConsole(got, want) {
		t.Errorf("coins leads to %+v, want %+v", got, want)
	}
	if got, want := afterLines("items 3;pool 01;hear 1:2 >;coins 14 -0"), consoleWith(problem(3, "+-0"), []int{-2, 1}, 3, []int{3}); !sameConsole(got, want) {
		t.Errorf("coins that are not valid lead to %+v, want %+v", got, want)
	}
}

func TestP9WeighAndHearNamed(t *testing.T) {
	checkSaid(t, []said{
		{"", "weigh 1:2", "1:2 | 1- 2+ | 3- none 3+ | 2- 1+"}, {"", "weigh 2:1", "2:1 | 2- 1+ | 3- none 3+ | 1- 2+"}, {"coins 4 +-", "weigh 1,2:3,4", "1,2:3,4 | 2- 1- 3+ 4+ | - | 4- 3- 1+ 2+"}, {"coins 2 +", "weigh 1:2", "1:2 | 2+ | - | 1+"}, {"coins 13 +", "weigh 12:13", "12:13 | 13+ | 1+ 2+ 3+ 4+ 5+ 6+ 7+ 8+ 9+ 10+ 11+ | 12+"},
		{"", "weigh 1:4", noCommand}, {"", "weigh 1,2:3,4", noCommand}, {"coins 3 +", "weigh 4:1", noCommand}, {"coins 4 +;coins 3 +", "weigh 4:1", noCommand}, {"coins 4 +;coins 0 +", "weigh 4:1", "4:1 | 1+ | 2+ 3+ | 4+"}, {"coins 1 +", "weigh 1:2", noCommand}, {"coins 12 +", "weigh 12:13", noCommand}, {"coins 13 +", "weigh 13:14", noCommand},
		{"", "hear 1:2 <", "1- 2+"}, {"", "hear 1:2 =", "3- none 3+"}, {"", "hear 1:2 >", "2- 1+"}, {"hear 1:2 <", "hear 1:3 <", "1-"}, {"hear 1:2 <", "hear 1:3 =", "2+"}, {"hear 1:2 <", "hear 1:3 >", "-"}, {"hear 1:2 =", "hear 2:3 =", "none"},
		{"hear 1:2 <;hear 1:2 >", "cases", "-"}, {"hear 1:2 <;hear 1:2 >", "weigh 1:2", "1:2 | - | - | -"}, {"hear 1:2 <;hear 1:2 >", "hear 1:3 =", "-"}, {"hear 1:2 <;hear 1:2 >", "weigh 1:4", noCommand}, {"hear 1:2 <;hear 1:2 >;coins 2 +", "cases", "1+ 2+"},
		{"", "hear 1:2 ?", noCommand}, {"", "hear 1:2 ", noCommand}, {"", "hear 1:2 <=", noCommand}, {"", "hear 1:2 <<", noCommand}, {"", "hear 1:2 -", noCommand}, {"", "hear 1:2 -1", noCommand}, {"", "hear 1:2 0", noCommand}, {"", "hear 1:2 ;", noCommand}, {"", "hear 1:2 \uff1d", noCommand}, {"", "hear 1:2", noCommand}, {"", "hear 1:2 = =", noCommand}, {"", "hear = 1:2", noCommand}, {"", "hear 1:4 =", noCommand}, {"", "hear 1 =", noCommand},
		{"hear 1:2 ?", "cases", "3- 2- 1- none 1+ 2+ 3+"}, {"hear 1:4 =", "cases", "3- 2- 1- none 1+ 2+ 3+"}, {"weigh 1:2", "cases", "3- 2- 1- none 1+ 2+ 3+"},
	})
	if got, want := afterLines("items 3;pool 01;coins 5 +-;hear 1,2:3,4 >"), consoleWith(problem(5, "+-"), []int{-4, -3, 1, 2}, 3, []int{3}); !sameConsole(got, want) {
		t.Errorf("hear leads to %+v, want %+v", got, want)
	}
}

func TestP9NumbersNamed(t *testing.T) {
	checkSaid(t, []said{
		{"", "vector 2", "1:3 3:2"}, {"", "vector 3", "1,2,3,4:9,10,11,12 1,9,10,11:6,7,8,12 2,6,9,12:4,5,8,11"}, {"", "vector 1", "none"}, {"", "vector 4", "none"}, {"", "vector 0", "none"}, {"", "vector -2", "none"}, {"", "vector 4294967298", "none"}, {"", "vector x", noCommand}, {"", "vector +2", noCommand}, {"", "vector 02", noCommand},
		{"", "state 0 5 4 0", "0,5,4,0 cases 9 weighings 2"}, {"", "state 4 0 0 1", "4,0,0,1 cases 8 weighings 2"}, {"", "state 13 0 0 0", "13,0,0,0 cases 26 weighings -1"}, {"", "state 0 0 0 1", "0,0,0,1 cases 0 weighings 0"}, {"", "state 0 0 0 0", "none"}, {"", "state -1 2 0 0", "none"}, {"", "state 1 -1 0 0", "none"}, {"", "state 14 0 0 0", "none"}, {"", "state 7 7 0 0", "none"}, {"", "state 9223372036854775807 1 0 0", "none"}, {"", "state 0 0 0 -9223372036854775808", "none"},
		{"", "state 1 1 1", noCommand}, {"", "state 1 1 1 1 1", noCommand}, {"", "state 1 1 1 01", noCommand}, {"", "state 1 1 1 -0", noCommand}, {"", "state 0,5,4,0", noCommand},
		{"", "pick 3 0 0 0 2", "1,1,0,0,0,0,0,0"}, {"", "pick 4 0 0 1 2", "1,2,0,0,0,0,1,0"}, {"", "pick 0 3 0 0 1", "0,0,1,1,0,0,0,0"}, {"", "pick 0 0 0 1 1", "none"}, {"", "pick 3 0 0 0 1", "none"}, {"", "pick 3 0 0 0 0", "none"}, {"", "pick 3 0 0 0 4", "none"}, {"", "pick 3 0 0 0 -1", "none"}, {"", "pick 14 0 0 0 3", "none"}, {"", "pick -3 0 0 0 2", "none"}, {"", "pick 3 0 0 9223372036854775807 2", "none"}, {"", "pick 3 0 0 0 4294967298", "none"},
		{"", "pick 3 0 0 0", noCommand}, {"", "pick 3 0 0 0 2 2", noCommand}, {"", "pick 3 0 0 0 2x", noCommand}, {"", "pick 3 0 0 0 9223372036854775808", noCommand},
		{"", "asks 1", "0"}, {"", "asks 2", "3"}, {"", "asks 4", "5"}, {"", "asks 8", "6"}, {"", "asks 0", "-1"}, {"", "asks 9", "-1"}, {"", "asks -1", "-1"}, {"", "asks 9223372036854775807", "-1"}, {"", "asks -9223372036854775808", "-1"}, {"", "asks 9223372036854775808", noCommand}, {"", "asks -9223372036854775809", noCommand}, {"", "asks", noCommand}, {"", "asks 4 4", noCommand}, {"", "asks ", noCommand},
	})
}

func TestP9PoolsNamed(t *testing.T) {
	twelve := strings.Repeat("pool 01;", 11) + "pool 1"
	checkSaid(t, []said{
		{"", "items 1", "ok"}, {"", "items 10", "ok"}, {"", "items 0", "none"}, {"", "items 11", "none"}, {"", "items -4", "none"}, {"", "items 4294967300", "none"}, {"", "items +4", noCommand}, {"", "items four", noCommand},
		{"", "pool 01", "01 separates 0 sums 3"}, {"pool 01", "pool 02", "01 02 separates 0 sums 7"}, {"pool 01", "pool 01", "01 01 separates 0 sums 3"}, {"", "pool -", "- separates 0 sums 1"}, {"pool -", "pool 0123", "- 0123 separates 0 sums 5"}, {"pool 01;pool 02", "pool 123", "01 02 123 separates 1 sums 16"}, {"items 3;pool 0;pool 1", "pool 2", "0 1 2 separates 3 sums 8"}, {"items 1", "pool 0", "0 separates 3 sums 2"}, {"items 10", "pool 9", "9 separates 0 sums 2"},
		{"", "pool 4", "none"}, {"", "pool 9", "none"}, {"items 10;pool 9;items 9", "pool 9", "none"}, {"items 1", "pool 01", "none"}, {twelve, "pool 0", "none"}, {twelve, "pool -", "none"}, {twelve + ";items 4", "pool 0", "0 separates 0 sums 2"}, {"", "pool 10", noCommand}, {"", "pool", noCommand}, {"", "pool ", noCommand}, {"", "pool 0 1", noCommand}, {"", "pool 3,1", noCommand}, {"", "pool none", noCommand},
		{"pool 01;pool 02", "test 1", "+."}, {"pool 01;pool 02", "test 0", "++"}, {"pool 01;pool 02", "test 3", ".."}, {"pool 01;pool 02", "test -", ".."}, {"", "test 1", "-"}, {"", "test -", "-"}, {"pool 01", "test 4", "none"}, {"", "test 4", "none"}, {"pool 01", "test 10", noCommand}, {"pool 01", "test", noCommand},
		{"pool 01;pool 02", "count 01", "2,1"}, {"pool 01;pool 02", "count -", "0,0"}, {"items 10;pool 0123456789", "count 0123456789", "10"}, {"", "count 01", "none"}, {"", "count -", "none"}, {"pool 01", "count 4", "none"}, {"", "count 4", "none"}, {"", "count 10", noCommand}, {"pool 01", "count 10", noCommand}, {"pool 01", "count 0,1", noCommand},
		{"pool 01;pool 02", "decode +.", "1 13"}, {"pool 01;pool 02", "decode ..", "- 3"}, {"pool 01;pool 02", "decode ++", "0 01 02 12 03"}, {"pool 01;pool 01", "decode +.", "-"}, {"pool 01;pool 02", "decode +", "-"}, {"pool 01;pool 02", "decode +..", "-"}, {"pool 01;pool 02", "decode -", "-"}, {"", "decode -", "- 0 1 01 2 02 12 3 03 13 23"}, {"", "decode +", "-"}, {"items 1", "decode -", "- 0"}, {"items 3;pool 012", "decode .", "-"}, {"pool 01", "decode x", noCommand}, {"pool 01", "decode ", noCommand}, {"pool 01", "decode + .", noCommand}, {"pool 01", "decode -+", noCommand}, {"", "decode", noCommand},
		{"pool 01;pool 02", "rounds 2", "0 1"}, {"pool 01;pool 23;pool -", "rounds 2", "0,1 2"}, {"pool 01;pool 23;pool -", "rounds 12", "0,1,2"}, {"pool 01;pool 23", "rounds 1", "0 1"}, {"", "rounds 1", "-"}, {"", "rounds 12", "-"}, {"", "rounds 0", "none"}, {"pool 01", "rounds 0", "none"}, {"pool 01", "rounds 13", "none"}, {"pool 01", "rounds -1", "none"}, {"pool 01", "rounds 4294967297", "none"}, {"pool 01", "rounds 01", noCommand}, {"pool 01", "rounds two", noCommand},
		{"", "halve 2", "0123 01 23 2 3"}, {"", "halve -", "0123"}, {"", "halve 0123", "0123 01 0 1 23 2 3"}, {"items 1", "halve 0", "0"}, {"items 3", "halve 0", "012 0 12"}, {"items 10", "halve 9", "0123456789 01234 56789 56 789 7 89 8 9"}, {"", "halve 4", "none"}, {"", "halve 9", "none"}, {"", "halve 0123456789", "none"}, {"", "halve 10", noCommand}, {"", "halve", noCommand}, {"pool 01", "halve 3", "0123 01 23 2 3"},
	})
	pools := consoleWith(problem(3, "+-0"), firstConsole().Cases, 4, []int{3, 5, 0})
	for _, after := range []string{"", ";items 11", ";items 0", ";items x", ";pool 4", ";pool 10", ";test 1", ";test 9", ";count 01", ";decode +.+", ";rounds 2", ";halve 1", ";items"} {
		if got := afterLines("pool 01;pool 02;pool -" + after); !sameConsole(got, pools) {
			t.Errorf("pools and then %q lead to %+v, want %+v", after, got, pools)
		}
	}
	pools.Items, pools.Pools = 10, nil
	if got := afterLines("pool 01;pool 02;pool -;items 10"); !sameConsole(got, pools) {
		t.Errorf("items leads to %+v, want %+v", got, pools)
	}
	if got := afterLines("hear 1:2 <;" + twelve + ";pool 0"); len(got.Pools) != 12 || !slices.Equal(got.Cases, []int{-1, 2}) {
		t.Errorf("a pool too many leads to %+v", got)
	}
}

// P9: each line says and changes, in each console, what the functions of the other chapters say of it.
func TestP9RunLine(t *testing.T) {
	for _, c := range allConsoles() {
		for _, line := range allLines() {
			checkLine(t, c, line)
		}
	}
}

// P9: a line names what the functions of the other chapters return, here these functions themselves.
func TestP9LinesNameOthers(t *testing.T) {
	for i, p := range someWeighings() {
		c := consoleWith(problem(13, "+-0"), wantCases(problem(13, "+-0")), 4, nil)
		if i%2 == 0 {
			c.Cases = someCases()
		}
		text := impl.FormatWeighing(p.w)
		less, even, more := impl.SplitBy(p.w, c.Cases)
		if next, output := impl.RunLine(c, "weigh "+text); output != impl.SplitLine(p.w, c.Cases) || !sameConsole(next, c) {
			t.Fatalf("weigh %s says %q", text, output)
		}
		for sign, cases := range map[string][]int{"<": less, "=": even, ">": more} {
			if next, output := impl.RunLine(c, "hear "+text+" "+sign); output != impl.FormatCases(cases) || !slices.Equal(next.Cases, cases) || next.Problem != c.Problem {
				t.Fatalf("hear %s %s says %q, cases %v", text, sign, output, next.Cases)
			}
		}
	}
	for _, s := range allStates(5) {
		words := strings.ReplaceAll(impl.FormatState(s), ",", " ")
		if _, output := impl.RunLine(impl.NewConsole(), "state "+words); output != impl.StateLine(s) {
			t.Fatalf("state %s says %q", words, output)
		}
		for k := 1; k <= 3; k++ {
			p, ok := impl.FirstPick(s, k)
			if _, output := impl.RunLine(impl.NewConsole(), "pick "+words+" "+strconv.Itoa(k)); output != noneOr(impl.FormatPick(p), ok) {
				t.Fatalf("pick %s %d says %q", words, k, output)
			}
		}
	}
	for i, b := range someBenches() {
		set := mixedPools(b.n, 1, i)[0]
		c, text := consoleWith(problem(1, "+"), nil, b.n, b.pools), impl.SetText(set)
		results, _ := impl.TestPools(b.n, b.pools, set)
		sums, _ := impl.SumPools(b.n, b.pools, set)
		rounds, _ := impl.GreedyRounds(b.n, b.pools, 1+i%12)
		halves, _, _ := impl.FindAll(b.n, set)
		for line, want := range map[string]string{"test " + text: impl.FormatResults(results), "count " + text: noneOr(wantNumbers(sums...), len(sums) > 0), "halve " + text: impl.FormatSets(halves), "rounds " + strconv.Itoa(1+i%12): impl.RoundsLine(rounds),
			"decode " + impl.FormatResults(results): impl.FormatSets(impl.ConsistentSets(b.n, b.pools, results, 2))} {
			if next, output := impl.RunLine(c, line); output != want || !sameConsole(next, c) {
				t.Fatalf("%d items, pools %v: %s says %q, want %q", b.n, b.pools, line, output, want)
			}
		}
	}
}

// example is a valid line, and for each of its arguments the kind: n for an integer, x for the kinds of coins, t for a weighing, o for an outcome, s for a set, r for results.
type example struct {
	line, kinds string
}

func examples() []example {
	return []example{{"coins 4 +-", "nx"}, {"weigh 1,2:3,4", "t"}, {"hear 1:2 <", "to"}, {"cases", ""}, {"vector 2", "n"}, {"state 0 5 4 0", "nnnn"}, {"pick 3 0 0 0 2", "nnnnn"}, {"items 4", "n"}, {"pool 01", "s"}, {"test 1", "s"}, {"count 01", "s"}, {"decode +.", "r"}, {"rounds 2", "n"}, {"halve 2", "s"}, {"asks 4", "n"}}
}

// malformedOf are arguments that are not of this kind; there are none for the kinds of coins.
func malformedOf(kind rune) []string {
	weighings := []string{"", ":", "1", "1:", ":2", "1::2", "1:2:3", "1,2:3", "1:2,3", "2,1:3,4", "1,2:4,3", "1,1:2,3", "1:1", "1,2:2,3", "0:1", "1:0", "-1:2", "1:-2", "+1:2", "01:2", "1:02", "1:2,", ",1:2", "1,:2,3", "1;2", "1/2", "1:5", "5:1", "1,2:3,5", "5:6", "12:13", "1:14", "1:2\n", "\t1:2", "1:2\x00", "1:2\xff", "\xff", "a:b", "1:b", "\uff11:2", "1:9223372036854775808", "1:4294967298", "none", "-", "<", "1,2|3,4", "1,2:3,4:", strings.Repeat("1", 1000) + ":2", strings.Repeat("1,", 1000) + "1:2"}
	switch kind {
	case 'n':
		return []string{"", "+1", "+4", "01", "04", "-0", "+0", "00", "-01", "--1", "1-", "-", "+", "x", "four", "1x", "x1", "1.", "1.0", "1e0", "0x1", "0b1", "1_0", "1,1", "1\n", "\t1", "1\x00", "\xff", "1\xff", "\xff1", "\u0661", "\uff11", "1\u00a0", "none", "9223372036854775808", "-9223372036854775809", "18446744073709551617", "10000000000000000000000000", strings.Repeat("9", 1000), strings.Repeat("0", 1000)}
	case 't':
		return weighings
	case 'o':
		return []string{"", "?", "<<", "<=", ">=", "==", "=>", "<>", "<=>", "-", "-1", "0", "1", "+", ".", "less", "<\n", "\t<", "<\x00", "\xff", "<\xff", "\xff<", ";", "@", "!", "\u2264", "\uff1c", "\uff1d", "\uff1e", "\u2260", "none", "x", strings.Repeat("=", 1000)}
	}
	refused := refusedSets()
	if kind == 'r' {
		refused = refusedResults()
	} else if kind == 'x' {
		refused = nil
	}
	return slices.DeleteFunc(refused, func(text string) bool { return strings.Contains(text, " ") })
}

// P9: a line with a malformed argument is no command, whatever the other arguments are, and changes nothing.
func TestP9MalformedArguments(t *testing.T) {
	for _, c := range []impl.Console{afterLines("coins 4 +-;pool 01;pool 02"), consoleWith(impl.Problem{Coins: 4}, []int{1, 1, 20}, 11, []int{-1}), consoleWith(problem(4, "+"), nil, 4, nil)} {
		for _, e := range examples() {
			for i, kind := range e.kinds {
				for _, wrong := range malformedOf(kind) {
					words := strings.Split(e.line, " ")
					words[1+i] = wrong
					checkUnknown(t, c, strings.Join(words, " "))
				}
			}
		}
	}
}

// P9: a line with a missing or an additional word is no command, nor is one whose command is written otherwise.
func TestP9MalformedLines(t *testing.T) {
	for _, c := range []impl.Console{afterLines("coins 4 +-;pool 01;pool 02"), consoleWith(impl.Problem{Coins: 4}, []int{1, 1, 20}, 11, []int{-1})} {
		for _, e := range examples() {
			words := strings.Split(e.line, " ")
			for i := range words {
				if len(words) > 1 {
					checkUnknown(t, c, strings.Join(slices.Delete(slices.Clone(words), i, i+1), " "))
				}
				for _, more := range []string{"", "0", "1", "+", "-", "#", "1:2", words[i], "\xff"} {
					checkUnknown(t, c, strings.Join(slices.Insert(slices.Clone(words), i+1, more), " "))
				}
			}
			for _, first := range []string{" ", "  ", "\t", "\n", "x", ":", "\x00", "\xff", "\ufeff"} {
				checkUnknown(t, c, first+e.line)
			}
			for _, last := range []string{" ", "  ", " #", " # note"} {
				checkUnknown(t, c, e.line+last)
			}
			for _, name := range []string{strings.ToUpper(words[0]), strings.ToUpper(words[0][:1]) + words[0][1:], words[0][1:], words[0] + "s", words[0] + ":", words[0] + "\xff", words[0] + "\n"} {
				checkUnknown(t, c, strings.Join(append([]string{name}, words[1:]...), " "))
			}
			if len(words) > 1 {
				checkUnknown(t, c, " "+strings.Join(words[1:], " "))
				checkUnknown(t, c, strings.Join(words, "\t"))
				checkUnknown(t, c, strings.Join(words, ","))
				checkUnknown(t, c, strings.Join(words, "  "))
				checkUnknown(t, c, strings.Join(words, "\u00a0"))
			}
		}
		for _, line := range otherLines() {
			if line != "" && line[0] != '#' {
				checkUnknown(t, c, line)
			}
		}
	}
}

// P9: the empty line and a line that starts with # say nothing and change nothing.
func TestP9SilentLines(t *testing.T) {
	for _, c := range allConsoles() {
		for _, line := range []string{"", "#", "##", "# note", "#cases", "#items 3", "# ", "#\n", "#\x00", "#\xff", "#" + strings.Repeat(" ", 1000)} {
			if next, output := impl.RunLine(c, line); output != "" || !sameConsole(next, c) {
				t.Fatalf("RunLine(%+v, %.20q) = %+v, %q", shortConsole(c), line, shortConsole(next), output)
			}
		}
	}
}

// P9: every text is a line, however long it is and whatever bytes it has.
func TestP9AnyLine(t *testing.T) {
	consoles := []impl.Console{firstConsole(), afterLines("coins 4 +-;pool 01;pool 02"), {}, consoleWith(impl.Problem{Coins: 14}, []int{math.MinInt}, math.MinInt, []int{math.MaxInt})}
	lines := append(texts([]string{"coins", "cases", "items", "pool", "hear", "1:2", "4", "01", "+", "=", " ", "#", "\xff"}, 4), everyByte()...)
	for b := range 256 {
		c := string([]byte{byte(b)})
		for _, e := range examples() {
			lines = append(lines, e.line+c, c+e.line, strings.Replace(e.line, " ", c, 1), strings.Replace(e.line, " ", " "+c, 1), e.line+" "+c)
		}
		lines = append(lines, "coins 2 "+c, "hear 1:2 "+c, "decode "+c, "pool "+c, "asks "+c)
	}
	long := 100000
	for _, piece := range []string{" ", "#", "0", "9", "+", "-", ".", "<", "1,", "1:", "x", "\xff", "\n", "cases ", "1 "} {
		text := strings.Repeat(piece, long)
		for _, e := range examples() {
			lines = append(lines, strings.Split(e.line, " ")[0]+" "+text, e.line+text)
		}
		lines = append(lines, text, "coins 3 "+text, "coins "+text+" +", "hear 1:2 "+text)
	}
	for i, line := range lines {
		checkLine(t, consoles[i%4], line)
	}
}

// P9: what one line changes is what the next one starts with, in longer and longer sessions.
func TestP9Successions(t *testing.T) {
	lines := slices.DeleteFunc(allLines(), func(line string) bool { return strings.HasPrefix(line, "pick") || strings.HasPrefix(line, "state") })
	seed := 7
	for range 60 {
		c, want := impl.NewConsole(), firstConsole()
		for range 60 {
			seed = (seed*1103 + 12345) % 1000003
			line := lines[seed%len(lines)]
			// Few lines keep what was reached before; so the others are taken less often.
			if seed%5 > 0 {
				line = []string{"hear 1:2 =", "pool 1", "pool 02", "pool 3", "test 1", "cases", "hear 2:3 <", "count 02", "decode ++", "rounds 2", "weigh 1:3"}[seed%11]
			}
			var output, wantOutput string
			c, output = impl.RunLine(c, line)
			want, wantOutput = wantLine(want, line)
			if output != wantOutput || !sameConsole(c, want) {
				t.Fatalf("%q leads to %+v, %q, want %+v, %q", line, c, output, want, wantOutput)
			}
		}
	}
}

func TestP9RunSessionNamed(t *testing.T) {
	all := "3- 2- 1- none 1+ 2+ 3+\n"
	named := []struct {
		text, want string
		lines      int
	}{
		{"", "", 0}, {"\n", "", 1}, {"\n\n", "", 2}, {"cases", all, 1}, {"cases\n", all, 1}, {"cases\n\n", all, 2}, {"\ncases", all, 2}, {"\n\ncases\n", all, 3}, {"#", "", 1}, {"# note\n#", "", 2}, {" ", "unknown command\n", 1}, {" \n", "unknown command\n", 1}, {"x\ny", "unknown command\nunknown command\n", 2}, {"cases\r\ncases", "unknown command\n" + all, 2},
		{"coins 2 +\nhear 1:2 <\ncases", "1+ 2+\n2+\n2+\n", 3}, {"coins 2 +\ncoins 0 +\ncases\n", "1+ 2+\nnone\n1+ 2+\n", 3}, {"items 2\npool 0\n\n# note\npool 2\npool x\ntest 0\n", "ok\n0 separates 0 sums 2\nnone\nunknown command\n+\n", 7}, {"coins 2 +\nhear 1:2 =\ncases\nweigh 1:2", "1+ 2+\n-\n-\n1:2 | - | - | -\n", 4},
		{strings.Repeat("\n", 40), "", 40}, {strings.Repeat("\n", 41), "", -1}, {strings.Repeat("#\n", 40), "", 40}, {strings.Repeat("asks 1\n", 40), strings.Repeat("0\n", 40), 40}, {strings.Repeat("asks 1\n", 39) + "asks 2", strings.Repeat("0\n", 39) + "3\n", 40}, {strings.Repeat("asks 1\n", 40) + "\n", "", -1}, {strings.Repeat("asks 1\n", 40) + "asks 1", "", -1}, {strings.Repeat("asks 1\n", 41), "", -1}, {strings.Repeat("asks 1\n", 40) + "#", "", -1}, {strings.Repeat("\n", 39) + "asks 1", "0\n", 40}, {strings.Repeat("\n", 40) + "asks 1", "", -1}, {strings.Repeat("x\n", 41), "", -1}, {strings.Repeat("asks 1\n", 100000), "", -1}, {strings.Repeat("asks 1 ", 100000), "unknown command\n", 1},
	}
	for _, c := range named {
		if got, lines := impl.RunSession(c.text); got != c.want || lines != c.lines {
			t.Errorf("RunSession(%.60q) = %.60q, %d, want %.60q, %d", c.text, got, lines, c.want, c.lines)
		}
	}
}

// wantSession executes the lines that end with a newline, and then what is left.
func wantSession(text string) (string, int) {
	c, said, count := firstConsole(), "", 0
	for text != "" {
		line, rest, _ := strings.Cut(text, "\n")
		next, output := wantLine(c, line)
		if output != "" {
			said += output + "\n"
		}
		c, text = next, rest
		count++
	}
	if count > 40 {
		return "", -1
	}
	return said, count
}

// someSessions are texts of up to so many lines, with and without a newline at the end, with empty lines among them.
func someSessions(most int) []string {
	lines := allLines()
	var list []string
	seed := 11
	for count := range most + 1 {
		var picked []string
		for range count {
			seed = (seed*1103 + 12345) % 1000003
			picked = append(picked, lines[seed%len(lines)])
			if seed%7 == 0 {
				picked[len(picked)-1] = ""
			}
		}
		text := strings.Join(picked, "\n")
		list = append(list, text, text+"\n", text+"\n\n", "\n"+text)
	}
	return list
}

func TestP9RunSession(t *testing.T) {
	for _, text := range append(someSessions(44), texts([]string{"cases", "coins 2 +", "hear 1:2 <", "x", " ", "#", "\n"}, 4)...) {
		got, lines := impl.RunSession(text)
		want, wantLines := wantSession(text)
		if got != want || lines != wantLines {
			t.Fatalf("RunSession(%q) = %q, %d, want %q, %d", text, got, lines, want, wantLines)
		}
	}
}

// P9: a session says what its lines say one after the other.
func TestP9SessionsOfLines(t *testing.T) {
	for _, text := range someSessions(40) {
		lines := impl.SplitLines(text)
		if len(lines) > 40 {
			continue
		}
		c, want := impl.NewConsole(), ""
		for _, line := range lines {
			next, output := impl.RunLine(c, line)
			if output != "" {
				want += output + "\n"
			}
			c = next
		}
		if got, count := impl.RunSession(text); got != want || count != len(lines) {
			t.Fatalf("RunSession(%q) = %q, %d, want %q", text, got, count, want)
		}
	}
}

// memoryLines has each command once and more, with and without a change.
func memoryLines() []string {
	lines := append(otherLines()[:12], "coins 4 +-", "coins 0 +", "hear 1:2 <", "hear 1:2 =", "hear 1:2 >", "hear 1:2 ?", "items 5", "items 11", "pool 0", "pool -", "pool 9", "pool 10", "test 0", "test x", "decode ++")
	for _, e := range examples() {
		lines = append(lines, e.line)
	}
	return lines
}

// P9: the cases and the pools of a console and the room behind them stay as they are, and the new console shares no memory with it, nor do its lists with each other.
func TestP9ConsoleArguments(t *testing.T) {
	for _, c := range allConsoles() {
		for _, line := range memoryLines() {
			cases, pools := guarded(c.Cases...), guarded(c.Pools...)
			next, _ := impl.RunLine(consoleWith(c.Problem, cases.list, c.Items, pools.list), line)
			again, _ := impl.RunLine(consoleWith(c.Problem, cases.list, c.Items, pools.list), line)
			if !cases.same() || !pools.same() {
				t.Fatalf("%q changes the console: %v, %v", line, cases.whole, pools.whole)
			}
			spoil(next.Cases)
			if !slices.Equal(next.Pools, again.Pools) {
				t.Fatalf("%q: the lists of the new console share memory: %v", line, next.Pools)
			}
			spoil(next.Pools)
			if !cases.same() || !pools.same() {
				t.Fatalf("%q: the new console shares memory with the old one: %v, %v", line, cases.whole, pools.whole)
			}
			if want, _ := wantLine(c, line); !sameConsole(again, want) {
				t.Fatalf("%q: two new consoles share memory: %+v, want %+v", line, shortConsole(again), shortConsole(want))
			}
		}
	}
}

// P9: lists of a console that share memory do not share it in the new one, and no result depends on the room behind them.
func TestP9ConsoleCapacity(t *testing.T) {
	for _, line := range memoryLines() {
		whole := []int{1, 2, 3, 4}
		shared := consoleWith(problem(4, "+-"), whole[:3], 4, whole[1:3])
		want, wantOutput := wantLine(shared, line)
		next, output := impl.RunLine(shared, line)
		if output != wantOutput || !sameConsole(next, want) || !slices.Equal(whole, []int{1, 2, 3, 4}) {
			t.Fatalf("%q leads to %+v, %q, and changes the console to %v", line, next, output, whole)
		}
		pools := slices.Clone(next.Pools)
		spoil(next.Cases)
		if !slices.Equal(next.Pools, pools) || !slices.Equal(whole, []int{1, 2, 3, 4}) {
			t.Fatalf("%q: lists share memory: %v, %v", line, next.Pools, whole)
		}
		short := consoleWith(problem(4, "+-"), slices.Clip([]int{-1, 3}), 4, slices.Clip([]int{3, 5}))
		long := consoleWith(problem(4, "+-"), append(make([]int, 0, 40), -1, 3), 4, append(make([]int, 0, 40), 3, 5))
		one, oneOutput := impl.RunLine(short, line)
		two, twoOutput := impl.RunLine(long, line)
		if !sameConsole(one, two) || oneOutput != twoOutput {
			t.Fatalf("%q depends on a capacity: %+v, %q and %+v, %q", line, one, oneOutput, two, twoOutput)
		}
	}
}

// P9: a nil slice and an empty one are the same.
func TestP9ConsoleNil(t *testing.T) {
	for _, line := range allLines() {
		one, oneOutput := impl.RunLine(consoleWith(problem(13, "+"), nil, 4, nil), line)
		two, twoOutput := impl.RunLine(consoleWith(problem(13, "+"), []int{}, 4, []int{}), line)
		if !sameConsole(one, two) || oneOutput != twoOutput {
			t.Fatalf("%q: %+v, %q and %+v, %q", line, one, oneOutput, two, twoOutput)
		}
	}
}

// P9: a call that is repeated many times, with other calls and malformed lines in between, returns the same.
func TestP9ConsoleRepeated(t *testing.T) {
	c := afterLines("coins 4 +-;pool 01;pool 02")
	first, lines := impl.RunSession("pool 01\nwhat\ntest 1\nhear 1:2 ?\nhear 1:2 <")
	for range 1000 {
		for _, e := range examples() {
			next, output := impl.RunLine(c, e.line)
			want, wantOutput := map[string]impl.Console{}, map[string]string{"cases": "4- 3- 2- 1- 1+ 2+ 3+ 4+", "hear 1:2 <": "1- 2+", "vector 2": "1:3 3:2", "items 4": "ok", "pool 01": "01 02 01 separates 0 sums 7", "test 1": "+.", "count 01": "2,1", "decode +.": "1 13", "rounds 2": "0 1", "halve 2": "0123 01 23 2 3", "asks 4": "5"}[e.line]
			want["hear 1:2 <"] = consoleWith(c.Problem, []int{-1, 2}, 4, c.Pools)
			want["items 4"] = consoleWith(c.Problem, c.Cases, 4, nil)
			want["pool 01"] = consoleWith(c.Problem, c.Cases, 4, []int{3, 5, 3})
			if changed, ok := want[e.line]; ok && !sameConsole(next, changed) || !ok && !sameConsole(next, c) {
				t.Fatalf("%q changes: %+v", e.line, next)
			}
			if wantOutput != "" && output != wantOutput {
				t.Fatalf("%q changes: %q", e.line, output)
			}
			checkUnknown(t, c, e.line+" x")
			spoil(next.Cases, next.Pools)
		}
		if again, count := impl.RunSession("pool 01\nwhat\ntest 1\nhear 1:2 ?\nhear 1:2 <"); again != first || count != lines || count != 5 || again != "01 separates 0 sums 3\nunknown command\n+\nunknown command\n1- 2+\n" {
			t.Fatalf("RunSession changes: %q, %d", again, count)
		}
	}
}

// P9: every goroutine that a call starts has ended when it returns, also after a malformed line.
func TestP9ConsoleGoroutines(t *testing.T) {
	before := runtime.NumGoroutine()
	for _, c := range allConsoles() {
		for _, line := range memoryLines() {
			impl.RunLine(c, line)
		}
		if !endsWith(before) {
			t.Fatalf("%+v: a goroutine does not end", shortConsole(c))
		}
	}
	for _, text := range someSessions(44) {
		impl.RunSession(text)
		if !endsWith(before) {
			t.Fatalf("RunSession(%q): a goroutine does not end", text)
		}
	}
}

// P9: calls at the same time do not disturb each other, also with the same console.
func TestP9ConsoleTogether(t *testing.T) {
	consoles, lines, sessions := allConsoles(), memoryLines(), someSessions(40)
	wantFewest()
	var wanted []string
	for _, text := range sessions {
		output, _ := wantSession(text)
		wanted = append(wanted, output)
	}
	wrong := make([]int, 8)
	var group sync.WaitGroup
	for worker := range wrong {
		group.Go(func() {
			for i := worker; i < len(consoles)*len(lines); i += 3 {
				c, line := consoles[i%len(consoles)], lines[i/len(consoles)]
				next, output := impl.RunLine(c, line)
				if want, wantOutput := wantLine(c, line); output != wantOutput || !sameConsole(next, want) {
					wrong[worker]++
				}
			}
			for i := worker; i < len(sessions); i += 2 {
				if output, _ := impl.RunSession(sessions[i]); output != wanted[i] {
					wrong[worker]++
				}
			}
		})
	}
	group.Wait()
	if slices.Max(wrong) > 0 {
		t.Errorf("wrong answers: %v", wrong)
	}
}

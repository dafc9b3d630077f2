package tests

import (
	"math"
	"regexp"
	"runtime"
	"slices"
	"strconv"
	"strings"
	"sync"
	"testing"

	"loop.example/g01040/impl"
)

// wantList writes what each element is, with by in between, or a minus for no elements.
func wantList[V any](list []V, by string, text func(V) string) string {
	if len(list) == 0 {
		return "-"
	}
	all := text(list[0])
	for _, v := range list[1:] {
		all += by + text(v)
	}
	return all
}

func wantCaseText(c int) string {
	switch {
	case c == 0:
		return "none"
	case c >= 1 && c <= 13:
		return strconv.Itoa(c) + "+"
	case c >= -13 && c <= -1:
		return strings.TrimPrefix(strconv.Itoa(c), "-") + "-"
	}
	return ""
}

func wantSign(n int) string {
	sign, known := map[int]string{-1: "<", 0: "=", 1: ">"}[n]
	if !known {
		return "?"
	}
	return sign
}

func wantCaseList(list []int) string { return wantList(list, " ", wantCaseText) }

func wantSigned(list []int) string { return wantList(list, "", wantSign) }

func wantMarked(list []bool) string {
	if len(list) == 0 {
		return "-"
	}
	return resultText(list)
}

// wantSetList leaves the place of a number that is no set empty.
func wantSetList(list []int) string {
	return wantList(list, " ", func(set int) string {
		if set < 0 || set > 1023 {
			return ""
		}
		return wantDigits(set)
	})
}

func wantNumbers(numbers ...int) string {
	var parts []string
	for _, n := range numbers {
		parts = append(parts, strconv.Itoa(n))
	}
	return strings.Join(parts, ",")
}

// wantSplit asks each case for its outcome.
func wantSplit(w impl.Weighing, cases []int) string {
	if !wantOk(w, 13) {
		return "none"
	}
	line := wantWeighing(w)
	for outcome := -1; outcome <= 1; outcome++ {
		part := slices.DeleteFunc(slices.Clone(cases), func(c int) bool { return c >= -13 && c <= 13 && wantOutcome(w, c) != outcome })
		part = slices.DeleteFunc(part, func(c int) bool { return (c < -13 || c > 13) && outcome != 0 })
		line += " | " + wantCaseList(part)
	}
	return line
}

func wantStateLine(s impl.State) string {
	if !wantStateOk(s) {
		return ""
	}
	fewest, found := wantFewest()[s]
	if !found {
		fewest = -1
	}
	fields := stateFields(s)
	return wantNumbers(fields[:]...) + " cases " + strconv.Itoa(wantCount(s)) + " weighings " + strconv.Itoa(fewest)
}

// wantSeparates looks for two sets with the same results, among those of one item first, then of two and of three.
func wantSeparates(n int, pools []int) int {
	seen := map[string]bool{}
	for count := range 4 {
		for set := range setsUpTo(n) {
			if len(wantItems(set)) != count {
				continue
			}
			results := resultText(wantResults(pools, set))
			if seen[results] {
				return max(count-1, 0)
			}
			seen[results] = true
		}
	}
	return 3
}

// wantPoolsLine takes for granted that the pools are valid.
func wantPoolsLine(b bench) string {
	return wantSetList(b.pools) + " separates " + strconv.Itoa(wantSeparates(b.n, b.pools)) + " sums " + strconv.Itoa(wantTell(b.n, b.pools))
}

func wantRoundsLine(rounds [][]int) string {
	return wantList(rounds, " ", func(indices []int) string { return wantNumbers(indices...) })
}

// signLists are all short lists of signs, and some long ones.
func signLists() [][]int {
	list := allLists([]int{-1, 0, 1}, 7)
	for _, sign := range []int{-1, 0, 1} {
		list = append(list, slices.Repeat([]int{sign}, 64), slices.Repeat([]int{sign, 0, 1, -1, -1}, 20000))
	}
	return list
}

// resultLists are all short lists of results, and some long ones.
func resultLists() [][]bool {
	var list [][]bool
	for count := range 11 {
		list = append(list, allResults(count)...)
	}
	return append(list, make([]bool, 64), slices.Repeat([]bool{true}, 64), slices.Repeat([]bool{true, false, false}, 30000))
}

// setLists are lists of one set and more.
func setLists() [][]int {
	var list [][]int
	for set := range 1024 {
		list = append(list, []int{set}, []int{set, 0}, []int{0, set}, []int{1023 - set, set}, []int{set, 37 * set % 1024, set, 0, 1023})
	}
	list = append(list, allLists([]int{0, 1, 2, 3, 512, 1023}, 4)[1:]...)
	return append(list, itemsUpTo(1024), make([]int, 5000), slices.Repeat([]int{1023, 0}, 5000))
}

// refusedSigns are texts of no list of signs.
func refusedSigns() []string {
	return []string{"", "--", "---", "?", "<?", "?>", "<=>?", "<=?>", "-<", "<-", "-=", "=-", "->", "<->", "<=>-", "-<=>", " ", "< ", " <", "< =", " -", "- ", "  ", "<  >", "\n", "<\n", "-\n", "\t<", ",", "<,>", "x", "X", "0", "1", "-1", "-1,0,1", "+", ".", "+.", "<+", "<.", ">=x", "x<=>", "<=x>", "<=>x",
		";", "<;", "@", "?@", "\x00", "<\x00", "\x00<", "-\x00", "\x7f", "\x80", "<\x80", "\xff", "<\xff", "\xff<", "<\xff>", "-\xff", "\xbc", "\xbd", "\xbe", "<\xbd>", "é", "<é", "\u2264", "\uff1c", "\uff1d", "\uff1e", "<\uff1d>", "\u2212", "\u2013", "\ufffd", "\U0001d7ce", "none", "<=> ", " <=>", "< = >", strings.Repeat("<", 1000) + "?", strings.Repeat("-", 1000), strings.Repeat(" ", 1000)}
}

// refusedResults are texts of no list of results.
func refusedResults() []string {
	return []string{"", "--", "---", "?", "+?", "?.", "-+", "+-", "-.", ".-", "+-.", "+.-", "-+.", " ", "+ ", " +", "+ .", " -", "- ", "  ", "+  .", "\n", "+\n", "-\n", "\t+", ",", "+,.", "x", "X", "+x", "x+", "+x.", "+.x", "0", "1", "10", "+1", ".5", "true", "<", "+<", ".=", ">", "/", "./", "*", "*+", "!",
		"\x00", "+\x00", "\x00.", "-\x00", "\x7f", "\x80", "+\x80", "\xff", "+\xff", "\xff+", "+\xff.", "-\xff", "\xab", "\xae", "\xad", "+\xae", "é", "+é", "\u00b1", "\uff0b", "\uff0e", "+\uff0e", "\u2212", "\u2026", "\ufffd", "\U0001d7ce", "none", "+. ", " +.", "+ .", strings.Repeat("+", 1000) + "?", strings.Repeat("-", 1000), strings.Repeat(" ", 1000)}
}

// refusedSets are texts of no list of sets.
func refusedSets() []string {
	return []string{"", " ", "  ", "- ", " -", "-  -", " - ", "0 ", " 0", "0  1", "  0", "0  ", "01  2", "013 x", "x 013", "013 x 2", "x", "10", "013 10", "10 013", "013 10 2", "90", "00", "0 00", "11 1", "0123456798", "0 0123456798", "01234567890", "01234567899", "0123456789 01234567890", "--", "-- -", "- --", "-0", "0-", "- 0-", "-1", "0 -1",
		"0,1", "0\n1", "0\t1", "0 1\n", "\n", "0 \n", "0\n", "+", "?", "0 ?", "<", ".", "0 .", "a", "0a", "\x00", "0 \x00", "0\x00 1", "\x00 1", "\xff", "0 \xff", "\xff 0", "0\xff1", "0\xff 1", "\xa0", "0\xa01", "0\u00a01", "0\u20031", "\u0660", "0 \u0661", "\uff11", "0 \uff11 2", "é", "\u2212", "- \u2212", "\ufffd", "none", "0 none", "1024", "0 1024", "- - - x", strings.Repeat("0 ", 1000), strings.Repeat(" ", 1000), strings.Repeat("- ", 1000) + "x", strings.Repeat("01", 1000)}
}

// P1: every list of signs is recovered from its text, and no two have one text.
func TestP1SignTexts(t *testing.T) {
	seen := map[string]bool{}
	for _, signs := range signLists() {
		text := impl.FormatSigns(signs)
		if seen[text] {
			t.Fatalf("FormatSigns(%.20v) = %.20q, that of another list", signs, text)
		}
		seen[text] = true
		if got, ok := impl.ReadSigns(text); !ok || !slices.Equal(got, signs) {
			t.Fatalf("ReadSigns(%.20q) = %.20v, %v, want %.20v", text, got, ok, signs)
		}
	}
	for _, text := range append(texts([]string{"<", "=", ">", "-", "?", " ", "\xff"}, 5), everyByte()...) {
		signs, ok := impl.ReadSigns(text)
		if ok && impl.FormatSigns(signs) != text {
			t.Fatalf("%q is read as %v, whose text is %q", text, signs, impl.FormatSigns(signs))
		}
	}
}

// P1: every list of results is recovered from its text, and no two have one text.
func TestP1ResultTexts(t *testing.T) {
	seen := map[string]bool{}
	for _, results := range resultLists() {
		text := impl.FormatResults(results)
		if seen[text] {
			t.Fatalf("FormatResults(%.20v) = %.20q, that of another list", results, text)
		}
		seen[text] = true
		if got, ok := impl.ReadResults(text); !ok || !slices.Equal(got, results) {
			t.Fatalf("ReadResults(%.20q) = %.20v, %v, want %.20v", text, got, ok, results)
		}
	}
	for _, text := range append(texts([]string{"+", ".", "-", "?", " ", "\xff"}, 5), everyByte()...) {
		results, ok := impl.ReadResults(text)
		if ok && impl.FormatResults(results) != text {
			t.Fatalf("%q is read as %v, whose text is %q", text, results, impl.FormatResults(results))
		}
	}
}

// P1: every list of sets with at least one of them is recovered from its text, and no two have one text; that of no sets is read as the empty set alone.
func TestP1SetLists(t *testing.T) {
	seen := map[string][]int{}
	for _, sets := range setLists() {
		text := impl.FormatSets(sets)
		if other, twice := seen[text]; twice && !slices.Equal(other, sets) {
			t.Fatalf("FormatSets(%.20v) = %.20q, that of %.20v", sets, text, other)
		}
		seen[text] = sets
		if got, ok := impl.ReadSets(text); !ok || !slices.Equal(got, sets) {
			t.Fatalf("ReadSets(%.20q) = %.20v, %v, want %.20v", text, got, ok, sets)
		}
	}
	if sets, ok := impl.ReadSets(impl.FormatSets(nil)); !ok || !slices.Equal(sets, []int{0}) {
		t.Errorf("ReadSets(FormatSets(nil)) = %v, %v", sets, ok)
	}
	for _, text := range append(texts([]string{"0", "1", "9", "-", " ", "01", "\xff"}, 5), everyByte()...) {
		sets, ok := impl.ReadSets(text)
		if ok && impl.FormatSets(sets) != text {
			t.Fatalf("%q is read as %v, whose text is %q", text, sets, impl.FormatSets(sets))
		}
	}
}

// P1: the cases of a line are recovered from it, each with its outcome, and the weighing too.
func TestP1SplitLines(t *testing.T) {
	for i, p := range someWeighings() {
		cases := wantCases(problem(13, []string{"+-0", "+", "-", "+-", "-0", "+0"}[i%6]))
		parts := strings.Split(impl.SplitLine(p.w, cases), " | ")
		if w, ok := impl.ParseWeighing(parts[0]); len(parts) != 4 || !ok || !sameWeighing(w, p.w) {
			t.Fatalf("SplitLine(%v, %v) = %q", p.w, cases, parts)
		}
		var read []int
		for outcome, part := range parts[1:] {
			for _, text := range strings.Fields(strings.TrimPrefix(part, "-")) {
				c, ok := impl.ReadCase(text)
				if !ok || impl.OutcomeOf(p.w, c) != outcome-1 {
					t.Fatalf("SplitLine(%v, %v) = %q: %q", p.w, cases, parts, text)
				}
				read = append(read, c)
			}
		}
		slices.Sort(read)
		if !slices.Equal(read, cases) {
			t.Fatalf("SplitLine(%v, %v) = %q, has the cases %v", p.w, cases, parts, read)
		}
	}
}

func TestP9FormatCasesNamed(t *testing.T) {
	named := []struct {
		list []int
		want string
	}{
		{nil, "-"}, {[]int{}, "-"}, {[]int{0}, "none"}, {[]int{0, -2}, "none 2-"}, {[]int{1}, "1+"}, {[]int{-1}, "1-"}, {[]int{13, -13}, "13+ 13-"}, {[]int{-3, -2, -1, 0, 1, 2, 3}, "3- 2- 1- none 1+ 2+ 3+"}, {[]int{3, 1, 3, 3}, "3+ 1+ 3+ 3+"}, {[]int{0, 0}, "none none"},
		{[]int{14}, ""}, {[]int{-14}, ""}, {[]int{14, 14}, " "}, {[]int{14, 1}, " 1+"}, {[]int{1, -14}, "1+ "}, {[]int{1, 14, 2}, "1+  2+"}, {[]int{math.MinInt}, ""}, {[]int{math.MaxInt, 0, math.MinInt}, " none "}, {[]int{1<<32 + 1, -1}, " 1-"},
	}
	for _, c := range named {
		if got := impl.FormatCases(c.list); got != c.want {
			t.Errorf("FormatCases(%v) = %q, want %q", c.list, got, c.want)
		}
	}
}

func TestP9FormatCases(t *testing.T) {
	for _, list := range append(someCaseLists(), someInts(), slices.Repeat([]int{-7, 0, 20}, 10000)) {
		if got := impl.FormatCases(list); got != wantCaseList(list) {
			t.Fatalf("FormatCases(%.20v) = %.50q, want %.50q", list, got, wantCaseList(list))
		}
	}
	for _, p := range allProblems(someCoins()...) {
		if got := impl.FormatCases(impl.CasesOf(p)); got != wantCaseList(wantCases(p)) {
			t.Fatalf("FormatCases(CasesOf(%+v)) = %q", p, got)
		}
	}
}

func TestP9FormatSignsNamed(t *testing.T) {
	named := []struct {
		list []int
		want string
	}{
		{nil, "-"}, {[]int{}, "-"}, {[]int{-1}, "<"}, {[]int{0}, "="}, {[]int{1}, ">"}, {[]int{-2}, "?"}, {[]int{2}, "?"}, {[]int{-2, -1, 0, 1, 2}, "?<=>?"}, {[]int{-1, 0, 1, 5}, "<=>?"}, {[]int{0, 0, 0}, "==="}, {[]int{1, -1, 1}, "><>"},
		{[]int{math.MinInt}, "?"}, {[]int{math.MaxInt}, "?"}, {[]int{math.MinInt, 0, math.MaxInt}, "?=?"}, {[]int{'<', '=', '>', '-', '?'}, "?????"}, {[]int{1 << 32, 1<<32 + 1, 1<<32 - 1, 255, 256, 257}, "??????"}, {[]int{math.MaxInt - 1, math.MinInt + 1, -3, 3}, "????"},
	}
	for _, c := range named {
		if got := impl.FormatSigns(c.list); got != c.want {
			t.Errorf("FormatSigns(%v) = %q, want %q", c.list, got, c.want)
		}
	}
}

func TestP9FormatSigns(t *testing.T) {
	for _, list := range slices.Concat(signLists(), allLists([]int{-2, -1, 0, 1, 2, math.MinInt, math.MaxInt}, 4), [][]int{someInts(), farNumbers()}) {
		if got := impl.FormatSigns(list); got != wantSigned(list) {
			t.Fatalf("FormatSigns(%.20v) = %.50q, want %.50q", list, got, wantSigned(list))
		}
	}
	for i, list := range someDesigns() {
		for c := i%9 - 13; c <= 13; c += 9 {
			signs, _ := impl.SignsOf(list, 13, c)
			if got := impl.FormatSigns(signs); got != wantSigned(signs) || strings.Contains(got, "?") {
				t.Fatalf("FormatSigns(%v) = %q", signs, got)
			}
		}
	}
}

func TestP9ReadSignsNamed(t *testing.T) {
	named := map[string][]int{"-": nil, "<": {-1}, "=": {0}, ">": {1}, "<=>": {-1, 0, 1}, ">=<": {1, 0, -1}, "===": {0, 0, 0}, "<<": {-1, -1}, ">>>>>>": {1, 1, 1, 1, 1, 1}}
	for text, want := range named {
		if got, ok := impl.ReadSigns(text); !ok || !slices.Equal(got, want) {
			t.Errorf("ReadSigns(%q) = %v, %v, want %v", text, got, ok, want)
		}
	}
	for _, text := range refusedSigns() {
		if got, ok := impl.ReadSigns(text); ok || len(got) > 0 {
			t.Errorf("ReadSigns(%.20q) = %.20v, %v", text, got, ok)
		}
	}
}

func TestP9ReadSigns(t *testing.T) {
	pattern := regexp.MustCompile(`\A(-|[<=>]+)\z`)
	check := func(text string) {
		got, ok := impl.ReadSigns(text)
		if ok != pattern.MatchString(text) || !ok && len(got) > 0 || ok && wantSigned(got) != text {
			t.Fatalf("ReadSigns(%q) = %v, %v", text, got, ok)
		}
	}
	for _, text := range texts([]string{"<", "=", ">", "-", "?", " ", "\xff", "é"}, 5) {
		check(text)
	}
	for b := range 256 {
		for _, text := range texts([]string{"<", "=", ">", string([]byte{byte(b)})}, 3) {
			check(text)
		}
	}
}

func TestP9FormatResultsNamed(t *testing.T) {
	named := []struct {
		list []bool
		want string
	}{
		{nil, "-"}, {[]bool{}, "-"}, {[]bool{true}, "+"}, {[]bool{false}, "."}, {[]bool{true, false}, "+."}, {[]bool{false, true}, ".+"}, {[]bool{false, false, false}, "..."}, {[]bool{true, true, true, true}, "++++"},
	}
	for _, c := range named {
		if got := impl.FormatResults(c.list); got != c.want {
			t.Errorf("FormatResults(%v) = %q, want %q", c.list, got, c.want)
		}
	}
}

func TestP9FormatResults(t *testing.T) {
	for _, list := range resultLists() {
		if got := impl.FormatResults(list); got != wantMarked(list) {
			t.Fatalf("FormatResults(%.20v) = %.50q, want %.50q", list, got, wantMarked(list))
		}
	}
	for _, b := range someBenches() {
		for _, bad := range someBad(b.n, 97) {
			if got := impl.FormatResults(tested(t, b, bad)); got != wantMarked(wantResults(b.pools, bad)) {
				t.Fatalf("the results of %d items, pools %v, bad set %d are %q", b.n, b.pools, bad, got)
			}
		}
	}
}

func TestP9ReadResultsNamed(t *testing.T) {
	named := map[string][]bool{"-": nil, "+": {true}, ".": {false}, "+.": {true, false}, ".+": {false, true}, "...": {false, false, false}, "++": {true, true}, "++..++": {true, true, false, false, true, true}}
	for text, want := range named {
		if got, ok := impl.ReadResults(text); !ok || !slices.Equal(got, want) {
			t.Errorf("ReadResults(%q) = %v, %v, want %v", text, got, ok, want)
		}
	}
	for _, text := range refusedResults() {
		if got, ok := impl.ReadResults(text); ok || len(got) > 0 {
			t.Errorf("ReadResults(%.20q) = %.20v, %v", text, got, ok)
		}
	}
}

func TestP9ReadResults(t *testing.T) {
	pattern := regexp.MustCompile(`\A(-|[+.]+)\z`)
	check := func(text string) {
		got, ok := impl.ReadResults(text)
		if ok != pattern.MatchString(text) || !ok && len(got) > 0 || ok && wantMarked(got) != text {
			t.Fatalf("ReadResults(%q) = %v, %v", text, got, ok)
		}
	}
	for _, text := range texts([]string{"+", ".", "-", "?", " ", "\xff", "é"}, 5) {
		check(text)
	}
	for b := range 256 {
		for _, text := range texts([]string{"+", ".", string([]byte{byte(b)})}, 3) {
			check(text)
		}
	}
}

func TestP9FormatState(t *testing.T) {
	named := map[impl.State]string{
		{Both: 1, Heavy: 2, Light: 3, Good: 4}: "1,2,3,4", {}: "0,0,0,0", {Both: 3}: "3,0,0,0", {Heavy: 3}: "0,3,0,0", {Light: 3}: "0,0,3,0", {Good: 3}: "0,0,0,3", {Both: 13}: "13,0,0,0", {Both: 13, Heavy: 1}: "13,1,0,0", {Both: -1, Heavy: -2, Light: 100, Good: -100}: "-1,-2,100,-100",
		{Both: math.MinInt, Heavy: math.MaxInt, Light: math.MinInt + 1, Good: math.MaxInt - 1}: "-9223372036854775808,9223372036854775807,-9223372036854775807,9223372036854775806",
	}
	for s, want := range named {
		if got := impl.FormatState(s); got != want {
			t.Errorf("FormatState(%+v) = %q, want %q", s, got, want)
		}
	}
	check := func(fields [4]int) {
		if got := impl.FormatState(stateFrom(fields)); got != wantNumbers(fields[:]...) {
			t.Fatalf("FormatState(%v) = %q", fields, got)
		}
	}
	for _, s := range append(allStates(13), wrongStates()...) {
		check(stateFields(s))
	}
	for i, n := range someInts() {
		fields := [4]int{5, -6, 17, 8}
		fields[i%4] = n
		check(fields)
		check([4]int{n, n, n, n})
	}
}

func TestP9FormatPick(t *testing.T) {
	named := map[impl.Pick]string{
		{}: "0,0,0,0,0,0,0,0", {BothLeft: 1, GoodRight: 2}: "1,0,0,0,0,0,0,2", {BothLeft: 1, BothRight: 2, HeavyLeft: 3, HeavyRight: 4, LightLeft: 5, LightRight: 6, GoodLeft: 7, GoodRight: 8}: "1,2,3,4,5,6,7,8",
		{BothRight: 1}: "0,1,0,0,0,0,0,0", {HeavyLeft: 1}: "0,0,1,0,0,0,0,0", {HeavyRight: 1}: "0,0,0,1,0,0,0,0", {LightLeft: 1}: "0,0,0,0,1,0,0,0", {LightRight: 1}: "0,0,0,0,0,1,0,0", {GoodLeft: 1}: "0,0,0,0,0,0,1,0",
		{BothLeft: -1, GoodLeft: -13, GoodRight: 1000}: "-1,0,0,0,0,0,-13,1000", {BothLeft: math.MinInt, HeavyRight: math.MaxInt, GoodRight: math.MinInt}: "-9223372036854775808,0,0,9223372036854775807,0,0,0,-9223372036854775808",
	}
	for p, want := range named {
		if got := impl.FormatPick(p); got != want {
			t.Errorf("FormatPick(%+v) = %q, want %q", p, got, want)
		}
	}
	check := func(fields [8]int) {
		if got := impl.FormatPick(pickFrom(fields)); got != wantNumbers(fields[:]...) {
			t.Fatalf("FormatPick(%v) = %q", fields, got)
		}
	}
	for _, wrong := range wrongPicks() {
		check(pickFields(wrong.p))
	}
	for i, n := range someInts() {
		fields := [8]int{5, -6, 17, 8, 0, 9, -11, 3}
		fields[i%8] = n
		check(fields)
		check([8]int{n, n, n, n, n, n, n, n})
	}
	for _, s := range allStates(6) {
		for k := range 5 {
			p, ok := impl.FirstPick(s, k)
			want, found := wantFirst(s, k)
			if fields := pickFields(want); ok != found || impl.FormatPick(p) != wantNumbers(fields[:]...) {
				t.Fatalf("FormatPick(FirstPick(%+v, %d)) = %q", s, k, impl.FormatPick(p))
			}
		}
	}
}

func TestP9SplitLineNamed(t *testing.T) {
	one := weigh([]int{1}, []int{2})
	named := []struct {
		w     impl.Weighing
		cases []int
		want  string
	}{
		{one, []int{1, 0}, "1:2 | - | none | 1+"}, {one, nil, "1:2 | - | - | -"}, {one, []int{}, "1:2 | - | - | -"}, {one, []int{-1}, "1:2 | 1- | - | -"}, {one, []int{1}, "1:2 | - | - | 1+"}, {one, []int{2}, "1:2 | 2+ | - | -"}, {one, []int{-2}, "1:2 | - | - | 2-"}, {one, []int{3, -3, 0}, "1:2 | - | 3+ 3- none | -"},
		{one, []int{-3, -2, -1, 0, 1, 2, 3}, "1:2 | 1- 2+ | 3- none 3+ | 2- 1+"}, {one, []int{3, 2, 1, 0, -1, -2, -3}, "1:2 | 2+ 1- | 3+ none 3- | 1+ 2-"}, {one, []int{1, 1, 2, 1}, "1:2 | 2+ | - | 1+ 1+ 1+"},
		{one, []int{14}, "1:2 | - |  | -"}, {one, []int{14, -14, 0}, "1:2 | - |   none | -"}, {one, []int{math.MinInt, 1, math.MaxInt}, "1:2 | - |   | 1+"}, {one, []int{1 << 32, 1<<32 + 1}, "1:2 | - |   | -"},
		{weigh([]int{1, 2, 3}, []int{11, 12, 13}), []int{-13, -12, 4, 1, 13}, "1,2,3:11,12,13 | 13+ | 4+ | 13- 12- 1+"}, {weigh([]int{12}, []int{13}), []int{12, 13}, "12:13 | 13+ | - | 12+"}, {weigh([]int{2}, []int{1}), []int{1, 0}, "2:1 | 1+ | none | -"},
		{impl.Weighing{}, nil, "none"}, {impl.Weighing{}, []int{1, 2}, "none"}, {weigh([]int{1}, []int{1}), []int{1}, "none"}, {weigh([]int{0}, []int{1}), []int{1}, "none"}, {weigh([]int{1}, []int{14}), []int{1}, "none"}, {weigh([]int{1}, nil), []int{1}, "none"}, {weigh(nil, []int{1}), nil, "none"}, {weigh([]int{2, 1}, []int{3, 4}), []int{1}, "none"}, {weigh([]int{1, 2}, []int{3}), []int{0}, "none"}, {weigh([]int{math.MinInt}, []int{math.MaxInt}), []int{0}, "none"},
	}
	for _, c := range named {
		if got := impl.SplitLine(c.w, c.cases); got != c.want {
			t.Errorf("SplitLine(%v, %v) = %q, want %q", c.w, c.cases, got, c.want)
		}
	}
}

func TestP9SplitLine(t *testing.T) {
	check := func(w impl.Weighing, cases []int) {
		if got := impl.SplitLine(w, cases); got != wantSplit(w, cases) {
			t.Fatalf("SplitLine(%v, %v) = %q, want %q", w, cases, got, wantSplit(w, cases))
		}
	}
	lists := someCaseLists()
	for i, p := range someWeighings() {
		for k := i % 211; k < len(lists); k += 211 {
			check(p.w, lists[k])
		}
		check(p.w, someCases())
	}
	for _, cases := range lists {
		check(weigh([]int{1}, []int{2}), cases)
	}
	for _, w := range wrongWeighings() {
		for k := 0; k < len(lists); k += 50 {
			check(w, lists[k])
		}
	}
}

func TestP9FormatSetsNamed(t *testing.T) {
	named := []struct {
		list []int
		want string
	}{
		{nil, "-"}, {[]int{}, "-"}, {[]int{0}, "-"}, {[]int{0, 0}, "- -"}, {[]int{0, 11}, "- 013"}, {[]int{11, 0}, "013 -"}, {[]int{1}, "0"}, {[]int{512}, "9"}, {[]int{1023}, "0123456789"}, {[]int{1023, 0, 1023}, "0123456789 - 0123456789"}, {[]int{3, 5, 3}, "01 02 01"}, {[]int{2, 1}, "1 0"},
		{[]int{1024}, ""}, {[]int{-1}, ""}, {[]int{1024, -1}, " "}, {[]int{1, 1024}, "0 "}, {[]int{2047, 1}, " 0"}, {[]int{1, -1, 2}, "0  1"}, {[]int{math.MinInt}, ""}, {[]int{math.MaxInt, 0, math.MinInt}, " - "}, {[]int{1 << 32, 1<<32 + 1, 1}, "  0"},
	}
	for _, c := range named {
		if got := impl.FormatSets(c.list); got != c.want {
			t.Errorf("FormatSets(%v) = %q, want %q", c.list, got, c.want)
		}
	}
}

func TestP9FormatSets(t *testing.T) {
	for _, list := range slices.Concat(setLists(), allLists([]int{-1, 0, 5, 1023, 1024, math.MinInt, math.MaxInt}, 4), [][]int{someInts(), wrongSets(10), wrongSets(3)}) {
		if got := impl.FormatSets(list); got != wantSetList(list) {
			t.Fatalf("FormatSets(%.20v) = %.50q, want %.50q", list, got, wantSetList(list))
		}
	}
}

func TestP9ReadSetsNamed(t *testing.T) {
	named := map[string][]int{"-": {0}, "- -": {0, 0}, "- 013": {0, 11}, "013 -": {11, 0}, "0": {1}, "9": {512}, "0123456789": {1023}, "0123456789 - 0123456789": {1023, 0, 1023}, "01 02 01": {3, 5, 3}, "1 0": {2, 1}, "9 8 7": {512, 256, 128}, "0 - 1": {1, 0, 2}}
	for text, want := range named {
		if got, ok := impl.ReadSets(text); !ok || !slices.Equal(got, want) {
			t.Errorf("ReadSets(%q) = %v, %v, want %v", text, got, ok, want)
		}
	}
	for _, text := range refusedSets() {
		if got, ok := impl.ReadSets(text); ok || len(got) > 0 {
			t.Errorf("ReadSets(%.20q) = %.20v, %v", text, got, ok)
		}
	}
}

// P9: a text is read exactly if each part between two spaces is the text of a set, and the sets are those of the parts.
func TestP9ReadSets(t *testing.T) {
	known := textsOfSets()
	check := func(text string) {
		var want []int
		for _, part := range strings.Split(text, " ") {
			set, ok := known[part]
			if !ok {
				want = nil
				break
			}
			want = append(want, set)
		}
		if got, ok := impl.ReadSets(text); ok != (want != nil) || !slices.Equal(got, want) {
			t.Fatalf("ReadSets(%q) = %v, %v, want %v", text, got, ok, want)
		}
	}
	for _, text := range texts([]string{"-", " ", "0", "1", "10", "29", "\xff", "é"}, 5) {
		check(text)
	}
	for b := range 256 {
		for _, text := range texts([]string{"-", " ", "03", string([]byte{byte(b)})}, 4) {
			check(text)
		}
	}
	for text := range known {
		for _, other := range []string{"-", "0", " ", "10", "x", ""} {
			check(text + " " + other)
			check(other + " " + text)
			check("5 " + text + " " + other + " 6")
		}
	}
}

func TestP9StateLineNamed(t *testing.T) {
	named := map[impl.State]string{
		{Both: 3}: "3,0,0,0 cases 6 weighings 2", {}: "", {Good: 1}: "0,0,0,1 cases 0 weighings 0", {Good: 13}: "0,0,0,13 cases 0 weighings 0", {Heavy: 1}: "0,1,0,0 cases 1 weighings 0", {Light: 1}: "0,0,1,0 cases 1 weighings 0", {Both: 1}: "1,0,0,0 cases 2 weighings -1", {Both: 1, Good: 1}: "1,0,0,1 cases 2 weighings 1", {Both: 2}: "2,0,0,0 cases 4 weighings -1",
		{Both: 12}: "12,0,0,0 cases 24 weighings 3", {Both: 13}: "13,0,0,0 cases 26 weighings -1", {Both: 12, Good: 1}: "12,0,0,1 cases 24 weighings 3", {Heavy: 13}: "0,13,0,0 cases 13 weighings 3", {Light: 13}: "0,0,13,0 cases 13 weighings 3", {Heavy: 9}: "0,9,0,0 cases 9 weighings 2", {Heavy: 10}: "0,10,0,0 cases 10 weighings 3", {Light: 3}: "0,0,3,0 cases 3 weighings 1",
		{Heavy: 1, Light: 1}: "0,1,1,0 cases 2 weighings -1", {Heavy: 1, Light: 1, Good: 1}: "0,1,1,1 cases 2 weighings 1", {Both: 2, Heavy: 3, Light: 4, Good: 4}: "2,3,4,4 cases 11 weighings 3",
		{Both: 14}: "", {Both: 13, Good: 1}: "", {Both: 4, Heavy: 4, Light: 3, Good: 3}: "", {Both: -1, Heavy: 5}: "", {Heavy: -1, Good: 5}: "", {Both: 3, Light: -1}: "", {Both: 3, Good: -1}: "", {Both: math.MinInt}: "", {Good: math.MaxInt}: "", {Both: math.MaxInt, Heavy: math.MaxInt, Light: 3}: "",
	}
	for s, want := range named {
		if got := impl.StateLine(s); got != want {
			t.Errorf("StateLine(%+v) = %q, want %q", s, got, want)
		}
	}
}

func TestP9StateLine(t *testing.T) {
	for _, s := range append(allStates(13), wrongStates()...) {
		if got := impl.StateLine(s); got != wantStateLine(s) {
			t.Fatalf("StateLine(%+v) = %q, want %q", s, got, wantStateLine(s))
		}
	}
}

func TestP9PoolsLineNamed(t *testing.T) {
	ones := slices.Repeat([]int{1}, 13)
	named := []struct {
		bench
		want string
	}{
		{bench{4, []int{3}}, "01 separates 0 sums 3"}, {bench{3, []int{1, 2, 4}}, "0 1 2 separates 3 sums 8"}, {bench{3, []int{4, 1, 2}}, "2 0 1 separates 3 sums 8"}, {bench{4, []int{10, 5, 12, 3}}, "13 02 23 01 separates 1 sums 15"}, {bench{3, []int{3, 5, 6}}, "01 02 12 separates 1 sums 8"}, {bench{3, []int{3, 5, 6, 1, 2}}, "01 02 12 0 1 separates 2 sums 8"}, {bench{4, []int{3, 5, 14}}, "01 02 123 separates 1 sums 16"}, {bench{4, []int{3, 5, 14, 0}}, "01 02 123 - separates 1 sums 16"},
		{bench{1, []int{1}}, "0 separates 3 sums 2"}, {bench{1, []int{0}}, "- separates 0 sums 1"}, {bench{1, nil}, "- separates 0 sums 1"}, {bench{1, []int{}}, "- separates 0 sums 1"}, {bench{1, []int{0, 0}}, "- - separates 0 sums 1"}, {bench{2, []int{1}}, "0 separates 0 sums 2"}, {bench{2, []int{1, 3}}, "0 01 separates 1 sums 4"}, {bench{2, []int{1, 2}}, "0 1 separates 3 sums 4"}, {bench{2, []int{3, 0, 3}}, "01 - 01 separates 0 sums 3"},
		{bench{10, nil}, "- separates 0 sums 1"}, {bench{10, []int{1023}}, "0123456789 separates 0 sums 11"}, {bench{10, []int{0, 512}}, "- 9 separates 0 sums 2"}, {bench{10, singles(10)}, "0 1 2 3 4 5 6 7 8 9 separates 3 sums 1024"}, {bench{10, append(singles(10), 0, 1023)}, "0 1 2 3 4 5 6 7 8 9 - 0123456789 separates 3 sums 1024"}, {bench{9, singles(10)}, ""}, {bench{10, append(singles(10), 0, 1023, 0)}, ""},
		{bench{1, ones[:12]}, "0 0 0 0 0 0 0 0 0 0 0 0 separates 3 sums 2"}, {bench{1, ones}, ""}, {bench{10, make([]int, 12)}, "- - - - - - - - - - - - separates 0 sums 1"}, {bench{10, make([]int, 13)}, ""},
		{bench{0, nil}, ""}, {bench{0, []int{0}}, ""}, {bench{11, nil}, ""}, {bench{11, []int{1}}, ""}, {bench{-1, nil}, ""}, {bench{math.MinInt, nil}, ""}, {bench{math.MaxInt, nil}, ""}, {bench{4, []int{16}}, ""}, {bench{4, []int{3, -1}}, ""}, {bench{1, []int{2}}, ""}, {bench{10, []int{1024}}, ""}, {bench{10, []int{1, math.MinInt}}, ""}, {bench{10, []int{math.MaxInt, 1}}, ""},
	}
	for _, c := range named {
		if got := impl.PoolsLine(c.n, c.pools); got != c.want {
			t.Errorf("PoolsLine(%d, %v) = %q, want %q", c.n, c.pools, got, c.want)
		}
	}
}

func TestP9PoolsLine(t *testing.T) {
	counts := map[int]int{}
	for _, b := range append(allBenches(), detectingBenches()...) {
		if got := impl.PoolsLine(b.n, b.pools); got != wantPoolsLine(b) {
			t.Fatalf("PoolsLine(%d, %v) = %q, want %q", b.n, b.pools, got, wantPoolsLine(b))
		}
		counts[wantSeparates(b.n, b.pools)]++
	}
	for d := range 4 {
		if counts[d] < 5 {
			t.Errorf("only %d pools separate %d items", counts[d], d)
		}
	}
	for _, b := range wrongBenches() {
		if got := impl.PoolsLine(b.n, b.pools); got != "" {
			t.Fatalf("PoolsLine(%d, %v) = %q", b.n, b.pools[:min(len(b.pools), 14)], got)
		}
	}
	for _, n := range someInts() {
		want := ""
		if n >= 1 && n <= 10 {
			want = "- separates 0 sums 1"
		}
		if got := impl.PoolsLine(n, nil); got != want {
			t.Fatalf("PoolsLine(%d, nil) = %q", n, got)
		}
	}
}

func TestP9RoundsLineNamed(t *testing.T) {
	named := []struct {
		rounds [][]int
		want   string
	}{
		{nil, "-"}, {[][]int{}, "-"}, {[][]int{{0, 2}, {1}}, "0,2 1"}, {[][]int{{0}}, "0"}, {[][]int{{0}, {1}, {2}}, "0 1 2"}, {[][]int{{2, 1, 0}}, "2,1,0"}, {[][]int{{11, 10}, {3, 3}}, "11,10 3,3"}, {[][]int{{0, 1, 2, 3, 4, 5, 6, 7, 8, 9, 10, 11}}, "0,1,2,3,4,5,6,7,8,9,10,11"},
		{[][]int{{}}, ""}, {[][]int{nil}, ""}, {[][]int{{}, nil}, " "}, {[][]int{{0}, {}}, "0 "}, {[][]int{{}, {0}}, " 0"}, {[][]int{{0}, nil, {1, 2}}, "0  1,2"}, {[][]int{{-1}, {math.MinInt, math.MaxInt}}, "-1 -9223372036854775808,9223372036854775807"}, {[][]int{{0, -5, 100}}, "0,-5,100"},
	}
	for _, c := range named {
		if got := impl.RoundsLine(c.rounds); got != c.want {
			t.Errorf("RoundsLine(%v) = %q, want %q", c.rounds, got, c.want)
		}
	}
}

func TestP9RoundsLine(t *testing.T) {
	check := func(rounds [][]int) {
		if got := impl.RoundsLine(rounds); got != wantRoundsLine(rounds) {
			t.Fatalf("RoundsLine(%.20v) = %.50q, want %.50q", rounds, got, wantRoundsLine(rounds))
		}
	}
	lists := allLists([]int{-1, 0, 7, 12}, 2)
	for _, first := range lists {
		check([][]int{first})
		for _, second := range lists {
			check([][]int{first, second})
			check([][]int{second, nil, first})
		}
	}
	for _, divided := range allDivisions()[:7] {
		for _, rounds := range divided {
			check(rounds)
		}
	}
	check([][]int{someInts(), nil, someInts()})
	check(make([][]int, 5000))
	check(slices.Repeat([][]int{{1, 2}, {3}}, 5000))
	for i, b := range roundBenches() {
		machines := 1 + i%12
		if got := impl.RoundsLine(greedy(t, b, machines)); got != wantRoundsLine(wantGreedy(b.pools, machines)) {
			t.Fatalf("the rounds of %d items, pools %v, %d machines are %q", b.n, b.pools, machines, got)
		}
	}
}

// P9: a report names what the functions of the earlier chapters return.
func TestP9ReportsNameOthers(t *testing.T) {
	for _, s := range allStates(7) {
		words := strings.Split(impl.StateLine(s), " ")
		if len(words) != 5 || words[0] != impl.FormatState(s) || words[1] != "cases" || words[2] != strconv.Itoa(impl.CountCases(s)) || words[3] != "weighings" || words[4] != strconv.Itoa(impl.FewestFor(s)) {
			t.Fatalf("StateLine(%+v) = %q", s, words)
		}
	}
	for _, b := range someBenches() {
		line := impl.PoolsLine(b.n, b.pools)
		rest, ok := strings.CutPrefix(line, impl.FormatSets(b.pools)+" separates ")
		words := strings.Split(rest, " ")
		if !ok || len(words) != 3 || words[1] != "sums" || words[2] != strconv.Itoa(impl.SumsTell(b.n, b.pools)) {
			t.Fatalf("PoolsLine(%d, %v) = %q", b.n, b.pools, line)
		}
		for d := 1; d <= 3; d++ {
			if impl.IsSeparable(b.n, b.pools, d) != (words[0] >= strconv.Itoa(d)) {
				t.Fatalf("PoolsLine(%d, %v) = %q, IsSeparable for %d is %v", b.n, b.pools, line, d, impl.IsSeparable(b.n, b.pools, d))
			}
		}
	}
	for _, p := range someWeighings() {
		cases := wantCases(problem(13, "+-0"))
		less, even, more := impl.SplitBy(p.w, cases)
		want := strings.Join([]string{impl.FormatWeighing(p.w), impl.FormatCases(less), impl.FormatCases(even), impl.FormatCases(more)}, " | ")
		if got := impl.SplitLine(p.w, cases); got != want {
			t.Fatalf("SplitLine(%v, %v) = %q, want %q", p.w, cases, got, want)
		}
	}
	for _, list := range [][]int{wantCases(problem(13, "+-0")), {5, -5, 0}, {13}} {
		var parts []string
		for _, c := range list {
			parts = append(parts, impl.CaseText(c))
		}
		if got := impl.FormatCases(list); got != strings.Join(parts, " ") {
			t.Fatalf("FormatCases(%v) = %q", list, got)
		}
	}
}

// P9: arguments and the room behind them stay as they are.
func TestP9ReportArguments(t *testing.T) {
	for _, list := range append(allLists([]int{-2, -1, 0, 1, 3, 14, 1024}, 3), []int{math.MinInt, math.MaxInt}, singles(10), make([]int, 13)) {
		numbers := guarded(list...)
		impl.FormatCases(numbers.list)
		impl.FormatSigns(numbers.list)
		impl.FormatSets(numbers.list)
		impl.PoolsLine(2, numbers.list)
		impl.PoolsLine(10, numbers.list)
		impl.PoolsLine(0, numbers.list)
		impl.SplitLine(weigh([]int{1}, []int{3}), numbers.list)
		if !numbers.same() {
			t.Fatalf("an argument was changed: %v", numbers.whole)
		}
	}
	for _, sides := range [][2][]int{{{1, 2}, {3, 4}}, {{2, 1}, {3, 4}}, {{1}, {2, 3}}, {{}, {}}, {{0, 14}, {1, 1}}} {
		left, right, cases := guarded(sides[0]...), guarded(sides[1]...), guarded(-4, 0, 3, 1, 1, -1, 20)
		impl.SplitLine(weigh(left.list, right.list), cases.list)
		if !left.same() || !right.same() || !cases.same() {
			t.Fatalf("an argument was changed: %v, %v, %v", left.whole, right.whole, cases.whole)
		}
	}
	for _, results := range allResults(4) {
		marks := guardedResults(results)
		impl.FormatResults(marks.list)
		if !marks.same() {
			t.Fatalf("the results were changed: %v", marks.whole)
		}
	}
	for _, list := range append(allDivisions()[4], nil, [][]int{{}}, [][]int{{-1, 20}, nil, {3, 3}}) {
		rounds, whole := guardedRounds(list)
		before := roundsInFull(whole)
		impl.RoundsLine(rounds)
		if !sameRounds(roundsInFull(whole), before) {
			t.Fatalf("the rounds were changed: %v", whole)
		}
	}
}

// P9: no result depends on the room behind an argument.
func TestP9ReportCapacity(t *testing.T) {
	for _, list := range allLists([]int{-1, 0, 1, 3}, 3) {
		short, long := slices.Clip(slices.Clone(list)), append(make([]int, 0, 40), list...)
		w := weigh([]int{1}, []int{3})
		if impl.FormatCases(short) != impl.FormatCases(long) || impl.FormatSigns(short) != impl.FormatSigns(long) || impl.FormatSets(short) != impl.FormatSets(long) || impl.PoolsLine(2, short) != impl.PoolsLine(2, long) || impl.SplitLine(w, short) != impl.SplitLine(w, long) {
			t.Fatalf("%v: a text depends on a capacity", list)
		}
		if impl.RoundsLine([][]int{short, short}) != impl.RoundsLine(append(make([][]int, 0, 9), long, long)) {
			t.Fatalf("%v: RoundsLine depends on a capacity", list)
		}
	}
	for _, results := range allResults(3) {
		if impl.FormatResults(slices.Clip(slices.Clone(results))) != impl.FormatResults(append(make([]bool, 0, 9), results...)) {
			t.Fatalf("%v: FormatResults depends on a capacity", results)
		}
	}
}

// P9: no two results share memory.
func TestP9ReportResults(t *testing.T) {
	for _, signs := range signLists()[:400] {
		text := wantSigned(signs)
		first, _ := impl.ReadSigns(text)
		second, _ := impl.ReadSigns(text)
		spoil(first)
		third, _ := impl.ReadSigns(text)
		if !slices.Equal(second, signs) || !slices.Equal(third, signs) || impl.FormatSigns(signs) != text {
			t.Fatalf("ReadSigns(%q) shares memory: %v, %v", text, second, third)
		}
	}
	for _, results := range resultLists()[:400] {
		text := wantMarked(results)
		first, _ := impl.ReadResults(text)
		second, _ := impl.ReadResults(text)
		turnResults(first)
		third, _ := impl.ReadResults(text)
		if !slices.Equal(second, results) || !slices.Equal(third, results) || impl.FormatResults(results) != text {
			t.Fatalf("ReadResults(%q) shares memory: %v, %v", text, second, third)
		}
	}
	checkApart(t, []func(n int) ([]int, bool){
		func(n int) ([]int, bool) { return impl.ReadSets(wantSetList(singles(n))) },
		func(n int) ([]int, bool) { return impl.ReadSets("-") },
		func(n int) ([]int, bool) { return impl.ReadSigns(strings.Repeat("<=>", n)) },
		func(n int) ([]int, bool) { return impl.ReadSigns("-") }})
}

// P9: a nil slice and an empty one are the same.
func TestP9ReportNil(t *testing.T) {
	for _, list := range [][]int{nil, {}} {
		if impl.FormatCases(list) != "-" || impl.FormatSigns(list) != "-" || impl.FormatSets(list) != "-" || impl.PoolsLine(3, list) != "- separates 0 sums 1" || impl.PoolsLine(0, list) != "" {
			t.Errorf("%#v: %q, %q, %q, %q", list, impl.FormatCases(list), impl.FormatSigns(list), impl.FormatSets(list), impl.PoolsLine(3, list))
		}
		if got := impl.SplitLine(weigh([]int{1}, []int{2}), list); got != "1:2 | - | - | -" {
			t.Errorf("SplitLine(1:2, %#v) = %q", list, got)
		}
		if got := impl.SplitLine(weigh(list, list), []int{1}); got != "none" {
			t.Errorf("SplitLine of %#v on both sides = %q", list, got)
		}
		if got := impl.RoundsLine([][]int{list, {1}, list}); got != " 1 " {
			t.Errorf("RoundsLine with %#v = %q", list, got)
		}
	}
	if impl.FormatResults(nil) != "-" || impl.FormatResults([]bool{}) != "-" || impl.RoundsLine(nil) != "-" || impl.RoundsLine([][]int{}) != "-" {
		t.Errorf("%q, %q, %q, %q", impl.FormatResults(nil), impl.FormatResults([]bool{}), impl.RoundsLine(nil), impl.RoundsLine([][]int{}))
	}
}

// P9: a call that is repeated many times, with other calls in between, returns the same.
func TestP9ReportRepeated(t *testing.T) {
	for range 2000 {
		signs, ok := impl.ReadSigns("<=>")
		none, empty := impl.ReadSigns("-")
		_, wrong := impl.ReadSigns("<?")
		if !ok || !slices.Equal(signs, []int{-1, 0, 1}) || !empty || len(none) > 0 || wrong || impl.FormatSigns(signs) != "<=>" || impl.FormatSigns([]int{2}) != "?" {
			t.Fatalf("ReadSigns changes: %v, %v, %v, %v, %v", signs, ok, none, empty, wrong)
		}
		results, ok := impl.ReadResults("+.")
		noResults, empty := impl.ReadResults("-")
		_, wrong = impl.ReadResults("+x")
		if !ok || !slices.Equal(results, []bool{true, false}) || !empty || len(noResults) > 0 || wrong || impl.FormatResults(results) != "+." {
			t.Fatalf("ReadResults changes: %v, %v, %v, %v, %v", results, ok, noResults, empty, wrong)
		}
		sets, ok := impl.ReadSets("- 013")
		_, wrong = impl.ReadSets("013 x")
		if !ok || !slices.Equal(sets, []int{0, 11}) || wrong || impl.FormatSets(sets) != "- 013" || impl.FormatSets(nil) != "-" {
			t.Fatalf("ReadSets changes: %v, %v, %v", sets, ok, wrong)
		}
		if impl.FormatCases([]int{0, -2}) != "none 2-" || impl.FormatState(impl.State{Heavy: 2}) != "0,2,0,0" || impl.FormatPick(impl.Pick{LightLeft: 2}) != "0,0,0,0,2,0,0,0" || impl.RoundsLine([][]int{{0, 2}, {1}}) != "0,2 1" {
			t.Fatal("a text changes")
		}
		if impl.SplitLine(weigh([]int{1}, []int{2}), []int{1, 0}) != "1:2 | - | none | 1+" || impl.SplitLine(impl.Weighing{}, nil) != "none" || impl.StateLine(impl.State{Both: 3}) != "3,0,0,0 cases 6 weighings 2" || impl.StateLine(impl.State{}) != "" || impl.PoolsLine(3, []int{1, 2, 4}) != "0 1 2 separates 3 sums 8" || impl.PoolsLine(0, nil) != "" {
			t.Fatal("a line changes")
		}
		spoil(signs, sets)
		turnResults(results)
	}
}

// P9: every goroutine that a call starts has ended when it returns, also where the call fails.
func TestP9ReportGoroutines(t *testing.T) {
	before := runtime.NumGoroutine()
	for _, b := range slices.Concat(smallBenches()[:200], someBenches(), wrongBenches()[:100], []bench{{9, lines()}}) {
		impl.PoolsLine(b.n, b.pools)
		impl.FormatSets(b.pools)
		impl.FormatCases(b.pools)
		impl.FormatSigns(b.pools)
		if !endsWith(before) {
			t.Fatalf("%d items, pools %v: a goroutine does not end", b.n, b.pools[:min(len(b.pools), 14)])
		}
	}
	for i, text := range slices.Concat(refusedSigns(), refusedResults(), refusedSets()) {
		impl.ReadSigns(text)
		impl.ReadResults(text)
		impl.ReadSets(text)
		impl.StateLine(impl.State{Both: i % 15})
		impl.SplitLine(weigh([]int{1}, []int{i % 15}), []int{i})
		if !endsWith(before) {
			t.Fatalf("%.20q: a goroutine does not end", text)
		}
	}
}

// P9: calls at the same time do not disturb each other, also with the same pools.
func TestP9ReportTogether(t *testing.T) {
	benches, states, weighings := someBenches(), allStates(5), someWeighings()
	wrong := make([]int, 8)
	wantFewest()
	var group sync.WaitGroup
	for worker := range wrong {
		group.Go(func() {
			for i := worker; i < len(benches); i += 5 {
				b, s, w := benches[i], states[i%len(states)], weighings[i].w
				if impl.PoolsLine(b.n, b.pools) != wantPoolsLine(b) || impl.StateLine(s) != wantStateLine(s) || impl.SplitLine(w, someCases()) != wantSplit(w, someCases()) {
					wrong[worker]++
				}
				sets, ok := impl.ReadSets(wantSetList(b.pools))
				if !ok || len(b.pools) > 0 && !slices.Equal(sets, b.pools) || impl.RoundsLine(wantGreedy(b.pools, 3)) != wantRoundsLine(wantGreedy(b.pools, 3)) {
					wrong[worker]++
				}
				signs, fine := impl.ReadSigns(strings.Repeat("<=>", i+1))
				results, right := impl.ReadResults(strings.Repeat("+.", i+1))
				if _, refused := impl.ReadSigns("<=>?"); refused || !fine || !right || len(signs) != 3*i+3 || len(results) != 2*i+2 {
					wrong[worker]++
				}
			}
		})
	}
	group.Wait()
	if slices.Max(wrong) > 0 {
		t.Errorf("wrong answers: %v", wrong)
	}
}

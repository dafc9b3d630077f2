package tests

import (
	"math"
	"math/big"
	"reflect"
	"regexp"
	"strings"
	"testing"

	"loop.example/g01040/impl"
)

// texts returns all strings of at most most pieces.
func texts(pieces []string, most int) []string {
	all := []string{""}
	last := all
	for range most {
		var next []string
		for _, s := range last {
			for _, p := range pieces {
				next = append(next, s+p)
			}
		}
		all = append(all, next...)
		last = next
	}
	return all
}

// someInts returns ordinary integers, the limits of int, and those around each power of 2 and of 10.
func someInts() []int {
	var list []int
	for n := -1200; n <= 1200; n++ {
		list = append(list, n)
	}
	for k := range 64 {
		for d := -2; d <= 2; d++ {
			list = append(list, 1<<k+d, -(1<<k)+d)
		}
	}
	for p, k := 1, 0; k < 19; p, k = p*10, k+1 {
		list = append(list, p-1, p, p+1, 1-p, -p, -p-1)
	}
	return append(list, math.MaxInt, math.MaxInt-1, math.MinInt, math.MinInt+1)
}

func sameList(a, b []string) bool {
	return len(a) == len(b) && (len(a) == 0 || reflect.DeepEqual(a, b))
}

// P1: an integer is recovered from its text, and a text that is read is the text of its integer.
func TestP1Integers(t *testing.T) {
	for _, n := range someInts() {
		if got, ok := impl.ParseInt(impl.FormatInt(n)); got != n || !ok {
			t.Errorf("ParseInt(FormatInt(%d)) = %d, %v", n, got, ok)
		}
	}
	for _, s := range texts([]string{"0", "1", "9", "-", "+", "_", " ", "a", "\xff"}, 4) {
		if n, ok := impl.ParseInt(s); ok && impl.FormatInt(n) != s {
			t.Errorf("%q is read as %d, which is written %q", s, n, impl.FormatInt(n))
		}
	}
}

// P1: strings are recovered from their parts.
func TestP1Parts(t *testing.T) {
	for _, s := range texts([]string{"a", "b", ",", "\n", "\r", "é", "\xff", "\x00"}, 4) {
		for _, by := range []string{",", "\n", "a", "\xff", "\x00", "\xa9"} {
			if got := impl.Join(impl.SplitAny(s, by), by); got != s {
				t.Errorf("the parts of %q by %q make %q", s, by, got)
			}
		}
		lines := impl.Join(impl.SplitLines(s), "\n")
		if s != "" && s[len(s)-1] == '\n' {
			lines += "\n"
		}
		if lines != s {
			t.Errorf("the lines of %q make %q", s, lines)
		}
	}
	for _, l := range [][]string{{""}, {"", ""}, {"a"}, {"a", "", "b"}, {"é", "\xff", "c d"}} {
		if got := impl.SplitAny(impl.Join(l, ","), ","); !sameList(got, l) {
			t.Errorf("%q joined and split is %q", l, got)
		}
	}
}

// P9: FormatInt writes what the digits of n are, by an independent way.
func TestP9FormatInt(t *testing.T) {
	cases := map[int]string{
		0: "0", 7: "7", -7: "-7", 10: "10", -10: "-10", 1000: "1000",
		math.MaxInt: "9223372036854775807", math.MinInt: "-9223372036854775808",
	}
	for n, want := range cases {
		if got := impl.FormatInt(n); got != want {
			t.Errorf("FormatInt(%d) = %q, want %q", n, got, want)
		}
	}
	for _, n := range someInts() {
		if got, want := impl.FormatInt(n), big.NewInt(int64(n)).String(); got != want {
			t.Errorf("FormatInt(%d) = %q, want %q", n, got, want)
		}
	}
}

var integerText = regexp.MustCompile(`\A(0|-?[1-9][0-9]*)\z`)

// wantInt reads an integer by a pattern and big integers.
func wantInt(s string) (int, bool) {
	if !integerText.MatchString(s) {
		return 0, false
	}
	b, ok := new(big.Int).SetString(s, 10)
	if !ok || !b.IsInt64() {
		return 0, false
	}
	return int(b.Int64()), true
}

func TestP9ParseInt(t *testing.T) {
	list := texts([]string{"0", "1", "9", "-", "+", "_", ".", " ", "\n", "a", "x", "\x00", "\xff", "\u0661"}, 4)
	list = append(list,
		"9223372036854775807", "9223372036854775808", "-9223372036854775808", "-9223372036854775809",
		"09223372036854775807", "-09223372036854775808", "+9223372036854775807",
		"18446744073709551615", "18446744073709551616", "18446744073709551617", "-18446744073709551616",
		"99999999999999999999", "1"+strings.Repeat("0", 500), strings.Repeat("0", 500), "-"+strings.Repeat("9", 500),
		"--1", "-0", "-00", "+0", "00", "0x10", "0b1", "0o7", "1e3", "1_000", "12 ", " 12", "12\n", "12a", "\xff12")
	for _, s := range list {
		n, ok := impl.ParseInt(s)
		want, wantOk := wantInt(s)
		if n != want || ok != wantOk {
			t.Errorf("ParseInt(%q) = %d, %v, want %d, %v", s, n, ok, want, wantOk)
		}
	}
}

func TestP9ParseIntRefused(t *testing.T) {
	for _, s := range []string{"", "-", "+", "+5", "07", "-07", "00", "-0", "+0", "5 ", " 5", "a", "5a", "1_0",
		"9223372036854775808", "-9223372036854775809", "\xff", "5\xff", "\u0665"} {
		if n, ok := impl.ParseInt(s); n != 0 || ok {
			t.Errorf("ParseInt(%q) = %d, %v, want 0, false", s, n, ok)
		}
	}
}

// everyByte returns strings in which each byte stands alone, before, behind and between others.
func everyByte() []string {
	var list []string
	for b := range 256 {
		c := string([]byte{byte(b)})
		list = append(list, c, c+"a", "a"+c, "a"+c+"1", c+"1", "1"+c, "1"+c+"1", "abcdefg"+c, "abcdefgh"+c)
	}
	return list
}

func TestP9DigitsAndNames(t *testing.T) {
	digits := regexp.MustCompile(`\A[0-9]+\z`)
	name := regexp.MustCompile(`\A[a-z][a-z0-9]{0,7}\z`)
	list := append(texts([]string{"a", "z", "0", "9", "A", "-", " ", "é", "\xff"}, 4), everyByte()...)
	list = append(list, "abcdefgh", "abcdefghi", "a1234567", "a12345678", "abcdefg\xff", "abcdefgé", "aéééé",
		"\xe9", "\xc3", "\ufffd", "a\ufffd", "\u0661", "1\u0661", "\uff11", "\uff41", "a\uff41", "ab\n", "12\n",
		strings.Repeat("7", 5000), strings.Repeat("7", 5000)+"x", strings.Repeat("a", 5000))
	for _, s := range list {
		if got, want := impl.IsDigits(s), digits.MatchString(s); got != want {
			t.Errorf("IsDigits(%q) = %v", s, got)
		}
		if got, want := impl.IsName(s), name.MatchString(s); got != want {
			t.Errorf("IsName(%q) = %v", s, got)
		}
	}
}

func TestP9DigitsAndNamesNamed(t *testing.T) {
	for s, want := range map[string]bool{"0": true, "09": true, "007": true, "": false, "-1": false, "+1": false,
		"1 ": false, "1a": false, "\xff": false, "1\xff": false, "\u0661": false, "/": false, ":": false} {
		if got := impl.IsDigits(s); got != want {
			t.Errorf("IsDigits(%q) = %v", s, got)
		}
	}
	for s, want := range map[string]bool{"a": true, "z9": true, "abcdefgh": true, "x1234567": true, "": false,
		"1x": false, "abcdefghi": false, "A": false, "aB": false, "a_b": false, "é": false, "aé": false,
		"a\xff": false, "\xff": false, "a ": false, "`": false, "{": false} {
		if got := impl.IsName(s); got != want {
			t.Errorf("IsName(%q) = %v", s, got)
		}
	}
}

// wantParts splits byte by byte.
func wantParts(s, by string) []string {
	parts := []string{""}
	for _, b := range []byte(s) {
		if strings.Contains(by, string([]byte{b})) {
			parts = append(parts, "")
		} else {
			parts[len(parts)-1] += string([]byte{b})
		}
	}
	return parts
}

func TestP9SplitAny(t *testing.T) {
	named := []struct {
		s, by string
		want  []string
	}{
		{"", "", []string{""}},
		{"", ",", []string{""}},
		{"abc", "", []string{"abc"}},
		{",", ",", []string{"", ""}},
		{"a,b c", ", ", []string{"a", "b", "c"}},
		{"a, b", ", ", []string{"a", "", "b"}},
		{",a,", ",", []string{"", "a", ""}},
		{"aXbXc", "XXX", []string{"a", "b", "c"}},
		{"é", "\xc3", []string{"", "\xa9"}},
		{"é", "\xa9", []string{"\xc3", ""}},
		{"\xc3(\xa9", "é", []string{"", "(", ""}},
		{"a\xffb", "\xfe\xff", []string{"a", "b"}},
		{"a\xffb", "\ufffd", []string{"a\xffb"}},
		{"a\ufffdb", "\xff", []string{"a\ufffdb"}},
	}
	for _, c := range named {
		if got := impl.SplitAny(c.s, c.by); !sameList(got, c.want) {
			t.Errorf("SplitAny(%q, %q) = %q, want %q", c.s, c.by, got, c.want)
		}
	}
	pieces := []string{"a", ",", " ", "é", "\xff", "\xc3", "\ufffd", "\x00"}
	for _, s := range texts(pieces, 4) {
		for _, by := range texts(pieces, 2) {
			if got, want := impl.SplitAny(s, by), wantParts(s, by); !sameList(got, want) {
				t.Errorf("SplitAny(%q, %q) = %q, want %q", s, by, got, want)
			}
		}
	}
}

func TestP9SplitLines(t *testing.T) {
	named := map[string][]string{
		"": nil, "\n": {""}, "\n\n": {"", ""}, "a": {"a"}, "a\n": {"a"}, "a\nb": {"a", "b"}, "a\nb\n": {"a", "b"},
		"a\n\nb": {"a", "", "b"}, "\na": {"", "a"}, "a\n\n": {"a", ""}, "a\r\nb": {"a\r", "b"}, "a\n ": {"a", " "},
		"\xff\n\xfe": {"\xff", "\xfe"}, "a\u2028b": {"a\u2028b"}, "a\n\r": {"a", "\r"},
	}
	for s, want := range named {
		if got := impl.SplitLines(s); !sameList(got, want) {
			t.Errorf("SplitLines(%q) = %q, want %q", s, got, want)
		}
	}
	for _, s := range texts([]string{"a", " ", "\n", "\r", "\xff", "é"}, 5) {
		want := strings.Split(s, "\n")
		if want[len(want)-1] == "" {
			want = want[:len(want)-1]
		}
		if got := impl.SplitLines(s); !sameList(got, want) {
			t.Errorf("SplitLines(%q) = %q, want %q", s, got, want)
		}
	}
}

func TestP9Join(t *testing.T) {
	cases := []struct {
		l    []string
		by   string
		want string
	}{
		{nil, ",", ""},
		{[]string{}, ",", ""},
		{[]string{""}, ",", ""},
		{[]string{"a"}, ",", "a"},
		{[]string{"", ""}, ",", ","},
		{[]string{"a", "b", "c"}, "", "abc"},
		{[]string{"a", "b", "c"}, ", ", "a, b, c"},
		{[]string{"a", "", "c"}, "-", "a--c"},
		{[]string{"\xff", "é"}, "\xfe", "\xff\xfeé"},
		{[]string{"\xc3", "\xa9"}, "", "é"},
	}
	for _, c := range cases {
		if got := impl.Join(c.l, c.by); got != c.want {
			t.Errorf("Join(%q, %q) = %q, want %q", c.l, c.by, got, c.want)
		}
	}
}

func TestP9PadZeros(t *testing.T) {
	long := strings.Repeat("x", 2000)
	cases := []struct {
		s    string
		n    int
		want string
	}{
		{"7", 3, "007"},
		{"", 0, ""},
		{"", 1, "0"},
		{"", 4, "0000"},
		{"123", 3, "123"},
		{"123", 2, "123"},
		{"123", 0, "123"},
		{"123", -5, "123"},
		{"123", math.MinInt, "123"},
		{"123", math.MaxInt, "123"},
		{"-5", 4, "00-5"},
		{"é", 3, "0é"},
		{"\xff\xfe", 3, "0\xff\xfe"},
		{"5", 1999, strings.Repeat("0", 1998) + "5"},
		{"5", 2000, strings.Repeat("0", 1999) + "5"},
		{"5", 2001, "5"},
		{"", 2000, strings.Repeat("0", 2000)},
		{"", 2001, ""},
		{long, 2000, long},
		{long, 2001, long},
		{long + "x", 2000, long + "x"},
	}
	for _, c := range cases {
		if got := impl.PadZeros(c.s, c.n); got != c.want {
			t.Errorf("PadZeros(%q, %d) = %q, want %q", c.s, c.n, got, c.want)
		}
	}
	for n := -3; n <= 2003; n++ {
		want := "42"
		for len(want) < n && n <= 2000 {
			want = "0" + want
		}
		if got := impl.PadZeros("42", n); got != want {
			t.Errorf("PadZeros(42, %d) has %d bytes, want %d", n, len(got), len(want))
		}
	}
}

// P9: the conventions of chapter 1: arguments stay what they are, and results are new.
func TestP9Memory(t *testing.T) {
	room := []string{"a", "b", "spare", "more"}
	if impl.Join(room[:2], "-") != "a-b" || !sameList(room, []string{"a", "b", "spare", "more"}) {
		t.Errorf("Join changed its argument or the room behind it: %q", room)
	}
	split := impl.SplitAny("a,b", ",")
	lines := impl.SplitLines("a\nb\n")
	for _, l := range [][]string{split, lines} {
		for i := range l {
			l[i] = "changed"
		}
		_ = append(l, "behind")
	}
	if !sameList(impl.SplitAny("a,b", ","), []string{"a", "b"}) || !sameList(impl.SplitLines("a\nb\n"), []string{"a", "b"}) {
		t.Error("a later result shares memory with an earlier one")
	}
}

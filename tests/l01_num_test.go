package tests

import (
	"fmt"
	"math"
	"slices"
	"strings"
	"testing"

	"loop.example/g03100/impl"
)

func TestFormatInt(t *testing.T) {
	cases := []struct {
		n    int
		want string
	}{
		{0, "0"},
		{7, "7"},
		{-5, "-5"},
		{10, "10"},
		{-70, "-70"},
		{100200, "100200"},
		{999999, "999999"},
		{1000000, "1000000"},
		{-999999999999, "-999999999999"},
		{1000000000000, "1000000000000"},
		{math.MaxInt32 + 1, "2147483648"},
		{math.MinInt32 - 1, "-2147483649"},
		{math.MaxInt, "9223372036854775807"},
		{math.MinInt + 1, "-9223372036854775807"},
		{math.MinInt, "-9223372036854775808"},
	}
	for _, c := range cases {
		if got := impl.FormatInt(c.n); got != c.want {
			t.Errorf("FormatInt(%d) = %q, want %q", c.n, got, c.want)
		}
	}
}

func TestFormatIntAgreesWithFmt(t *testing.T) {
	for n := math.MaxInt; n != 0; n /= 3 {
		for _, m := range []int{n, -n, -n - 1} {
			if got, want := impl.FormatInt(m), fmt.Sprint(m); got != want {
				t.Errorf("FormatInt(%d) = %q", m, got)
			}
		}
	}
}

// neverIntegers are the texts that are the FormatInt of no integer from -999999999999 to 999999999999.
var neverIntegers = []string{
	"", "-", "+", "--", "+-1", "-+1", "--1", "1-", "1-2", "-1-",
	"-0", "+0", "00", "-00", "01", "007", "-007", "000000000000000000001",
	"+5", "+999999", " ", " 1", "1 ", "- 1", "1 2", "\t1", "1\n", "1\r\n",
	"x", "x1", "1x", "-x", "1_000", "0x10", "0b1", "0o7", "1e3", "1.0", "1,000", "inf", "NaN",
	"/", ":", "1/", "1:", "\x00", "1\x00", "\x001", "\xff", "1\xff", "\xb1",
	"\u0661", "\uff11", "\u22121", "1\u00a0",
	"1000000000000", "-1000000000000", "1000000000001", "-9999999999999",
	"9223372036854775807", "9223372036854775808", "-9223372036854775808", "-9223372036854775809",
	"18446744073709551616", "18446744073709551617", "-18446744073709551617",
	"340282366920938463463374607431768211457", strings.Repeat("9", 1000), strings.Repeat("0", 1000),
}

func TestParseNumber(t *testing.T) {
	for n := range 1000000 {
		if got, ok := impl.ParseNumber(fmt.Sprint(n)); !ok || got != n {
			t.Fatalf("ParseNumber of %d = %d, %v", n, got, ok)
		}
	}
	outside := []string{"1000000", "1000001", "9999999", "999999999999", "-1", "-7", "-999999"}
	for _, s := range append(outside, neverIntegers...) {
		if got, ok := impl.ParseNumber(s); ok || got != 0 {
			t.Errorf("ParseNumber(%q) = %d, %v, want 0, false", s, got, ok)
		}
	}
}

func TestParseInt(t *testing.T) {
	cases := []struct {
		s    string
		want int
	}{
		{"0", 0},
		{"1", 1},
		{"-1", -1},
		{"10", 10},
		{"-10", -10},
		{"909", 909},
		{"999999", 999999},
		{"1000000", 1000000},
		{"-1000000", -1000000},
		{"2147483648", 2147483648},
		{"-2147483649", -2147483649},
		{"999999999998", 999999999998},
		{"999999999999", 999999999999},
		{"-999999999998", -999999999998},
		{"-999999999999", -999999999999},
	}
	for _, c := range cases {
		if got, ok := impl.ParseInt(c.s); !ok || got != c.want {
			t.Errorf("ParseInt(%q) = %d, %v, want %d, true", c.s, got, ok, c.want)
		}
	}
	for _, s := range neverIntegers {
		if got, ok := impl.ParseInt(s); ok || got != 0 {
			t.Errorf("ParseInt(%q) = %d, %v, want 0, false", s, got, ok)
		}
	}
}

func TestParseIntReadsWhatFormatIntWrites(t *testing.T) {
	for n := 999999999999; n != 0; n = n * 7 / 8 {
		for _, m := range []int{n, -n} {
			if got, ok := impl.ParseInt(impl.FormatInt(m)); !ok || got != m {
				t.Errorf("ParseInt of FormatInt(%d) = %d, %v", m, got, ok)
			}
		}
	}
}

// TestParseShortTexts goes through all texts of at most two bytes; the formatted numbers themselves tell which are valid.
func TestParseShortTexts(t *testing.T) {
	valid := map[string]int{}
	for n := -9; n <= 99; n++ {
		valid[fmt.Sprint(n)] = n
	}
	texts := []string{""}
	for a := range 256 {
		texts = append(texts, string([]byte{byte(a)}))
		for b := range 256 {
			texts = append(texts, string([]byte{byte(a), byte(b)}))
		}
	}
	for _, s := range texts {
		n, ok := valid[s]
		if got, gotOk := impl.ParseInt(s); gotOk != ok || got != n {
			t.Errorf("ParseInt(%q) = %d, %v, want %d, %v", s, got, gotOk, n, ok)
		}
		if n < 0 {
			n, ok = 0, false
		}
		if got, gotOk := impl.ParseNumber(s); gotOk != ok || got != n {
			t.Errorf("ParseNumber(%q) = %d, %v, want %d, %v", s, got, gotOk, n, ok)
		}
	}
}

func TestSplitByte(t *testing.T) {
	cases := []struct {
		s    string
		by   byte
		want []string
	}{
		{"", ',', []string{""}},
		{"", 0, []string{""}},
		{"", 0xff, []string{""}},
		{"abc", ',', []string{"abc"}},
		{"a,b", ',', []string{"a", "b"}},
		{"a,bc,def", ',', []string{"a", "bc", "def"}},
		{",", ',', []string{"", ""}},
		{",,", ',', []string{"", "", ""}},
		{",a", ',', []string{"", "a"}},
		{"a,", ',', []string{"a", ""}},
		{"a,,b", ',', []string{"a", "", "b"}},
		{",,a,,b,,", ',', []string{"", "", "a", "", "b", "", ""}},
		{"aaa", 'a', []string{"", "", "", ""}},
		{" a b ", ' ', []string{"", "a", "b", ""}},
		{"one\ntwo\r\n", '\n', []string{"one", "two\r", ""}},
		{"a\x00b", 0, []string{"a", "b"}},
		{"a\xffb\xff\xff", 0xff, []string{"a", "b", "", ""}},
		{"a\x80b", 0x80, []string{"a", "b"}},
		{"\u00e9", 0xe9, []string{"\u00e9"}},
		{"\u00e9", 0xc3, []string{"", "\xa9"}},
		{"\u00e9", 0xa9, []string{"\xc3", ""}},
	}
	for _, c := range cases {
		if got := impl.SplitByte(c.s, c.by); !slices.Equal(got, c.want) {
			t.Errorf("SplitByte(%q, %q) = %q, want %q", c.s, c.by, got, c.want)
		}
	}
}

func TestSplitByteReturnsNewMemory(t *testing.T) {
	first := impl.SplitByte("a,b", ',')
	first[0], first[1] = "x", "y"
	if got := impl.SplitByte("a,b", ','); !slices.Equal(got, []string{"a", "b"}) {
		t.Errorf("the second result is %q", got)
	}
}

func TestJoin(t *testing.T) {
	cases := []struct {
		list []string
		by   string
		want string
	}{
		{nil, ",", ""},
		{[]string{}, ",", ""},
		{[]string{}, "", ""},
		{[]string{""}, ",", ""},
		{[]string{"a"}, ",", "a"},
		{[]string{"a", "b"}, "-", "a-b"},
		{[]string{"a", "b", "c"}, ", ", "a, b, c"},
		{[]string{"a", "b", "c"}, "", "abc"},
		{[]string{"", ""}, ",", ","},
		{[]string{"", "a", ""}, ",", ",a,"},
		{[]string{"a", "", "b"}, ",", "a,,b"},
		{[]string{"", "", ""}, "", ""},
		{[]string{"a,b", ","}, ",", "a,b,,"},
		{[]string{"\xff", "\x00"}, "\x80", "\xff\x80\x00"},
	}
	for _, c := range cases {
		if got := impl.Join(c.list, c.by); got != c.want {
			t.Errorf("Join(%q, %q) = %q, want %q", c.list, c.by, got, c.want)
		}
	}
}

func TestJoinLeavesItsList(t *testing.T) {
	whole := []string{"a", "b", "c", "d"}
	if got := impl.Join(whole[:2], ","); got != "a,b" {
		t.Errorf("Join = %q", got)
	}
	if !slices.Equal(whole, []string{"a", "b", "c", "d"}) {
		t.Errorf("the list has become %q", whole)
	}
}

func TestJoinUndoesSplitByte(t *testing.T) {
	texts := []string{"", ",", ",,", "a", ",a", "a,", "a,,b", "one,two,three", "\xff,\x00\xff", "\u00e9,\u00e9"}
	for _, s := range texts {
		for b := range 256 {
			by := byte(b)
			parts := impl.SplitByte(s, by)
			if got := impl.Join(parts, string([]byte{by})); got != s {
				t.Errorf("Join of SplitByte(%q, %q) = %q", s, by, got)
			}
			if want := strings.Count(s, string([]byte{by})) + 1; len(parts) != want {
				t.Errorf("SplitByte(%q, %q) has %d parts, want %d", s, by, len(parts), want)
			}
		}
	}
}

func TestSplitByteUndoesJoin(t *testing.T) {
	lists := [][]string{
		{""}, {"a"}, {"", ""}, {"a", ""}, {"", "a"}, {"a", "", "b"}, {"ab", "c", "def"}, {"\u00e9", "\x00", "z"},
	}
	for _, list := range lists {
		for _, by := range []byte{',', ' ', '\n', 0x80, 0xff} {
			if got := impl.SplitByte(impl.Join(list, string([]byte{by})), by); !slices.Equal(got, list) {
				t.Errorf("SplitByte of Join(%q) by %q = %q", list, by, got)
			}
		}
	}
}

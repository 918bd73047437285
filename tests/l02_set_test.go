package tests

import (
	"fmt"
	"math"
	"slices"
	"sort"
	"testing"

	"loop.example/g03100/impl"
)

// neverSets are numbers that are no sets of any number of points.
var neverSets = []int{
	-1, -2, -63, -64, -65, 64, 65, 127, 128, 1 << 32, 1<<32 + 1, -1 << 32, math.MaxInt, math.MinInt, math.MinInt + 1,
}

// plainPoints tells the points of a set by division, not by shifts.
func plainPoints(s int) []int {
	var points []int
	for i := 0; s > 0; i++ {
		if s%2 == 1 {
			points = append(points, i)
		}
		s /= 2
	}
	return points
}

func plainSubset(a int, b int) bool {
	for _, p := range plainPoints(a) {
		if !slices.Contains(plainPoints(b), p) {
			return false
		}
	}
	return true
}

// plainOrder has all sets from 0 to 63, in order.
func plainOrder() []int {
	var list []int
	for s := range 64 {
		list = append(list, s)
	}
	sort.SliceStable(list, func(i int, j int) bool { return len(plainPoints(list[i])) < len(plainPoints(list[j])) })
	return list
}

// setLists are lists of sets from 0 to 63, with equal ones and in any order.
func setLists() [][]int {
	lists := [][]int{nil, {}, {0}, {63}, {0, 0}, {63, 0}, {5, 5, 5}, plainOrder(), {63, 62, 61, 0, 1, 2, 1, 63}}
	state := 1
	for length := range 40 {
		for range 25 {
			var list []int
			for range length % 13 {
				state = (state*75 + 74) % 65537
				list = append(list, state%64)
			}
			lists = append(lists, list)
		}
	}
	return lists
}

// withSpareCapacity returns the list as the front of a longer array, and that array.
func withSpareCapacity(list []int) ([]int, []int) {
	whole := append(slices.Clone(list), 41, 42, 43, 44, 45, 46, 47, 48, 49, 50, 51, 52)
	return whole[:len(list)], whole
}

func TestMaxPoints(t *testing.T) {
	if impl.MaxPoints != 6 {
		t.Errorf("MaxPoints is %d", impl.MaxPoints)
	}
}

func TestIsSet(t *testing.T) {
	power := []int{1, 2, 4, 8, 16, 32, 64}
	for n := -3; n <= 9; n++ {
		for s := -70; s <= 600; s++ {
			want := n >= 0 && n <= 6 && s >= 0 && s < power[max(0, min(n, 6))]
			if impl.IsSet(n, s) != want {
				t.Errorf("IsSet(%d, %d) is not %v", n, s, want)
			}
		}
		for _, s := range neverSets {
			if impl.IsSet(n, s) {
				t.Errorf("IsSet(%d, %d)", n, s)
			}
		}
	}
	for _, n := range []int{math.MinInt, math.MinInt32, -64, -1, 7, 63, 64, 65, 128, math.MaxInt32, math.MaxInt} {
		for _, s := range []int{-1, 0, 1, 63} {
			if impl.IsSet(n, s) {
				t.Errorf("IsSet(%d, %d)", n, s)
			}
		}
	}
}

func TestSizeOfAndPointsOf(t *testing.T) {
	for s := range 64 {
		want := plainPoints(s)
		if got := impl.SizeOf(s); got != len(want) {
			t.Errorf("SizeOf(%d) = %d, want %d", s, got, len(want))
		}
		if got := impl.PointsOf(s); !slices.Equal(got, want) {
			t.Errorf("PointsOf(%d) = %v, want %v", s, got, want)
		}
	}
	for _, s := range neverSets {
		if got := impl.SizeOf(s); got != -1 {
			t.Errorf("SizeOf(%d) = %d, want -1", s, got)
		}
		if got := impl.PointsOf(s); len(got) != 0 {
			t.Errorf("PointsOf(%d) = %v, want none", s, got)
		}
	}
}

func TestSetsByHand(t *testing.T) {
	if got := impl.PointsOf(0); len(got) != 0 || impl.SizeOf(0) != 0 {
		t.Errorf("the empty set has the points %v and the size %d", got, impl.SizeOf(0))
	}
	if got := impl.PointsOf(63); !slices.Equal(got, []int{0, 1, 2, 3, 4, 5}) || impl.SizeOf(63) != 6 {
		t.Errorf("the set of all points has the points %v and the size %d", got, impl.SizeOf(63))
	}
	if got := impl.PointsOf(42); !slices.Equal(got, []int{1, 3, 5}) || impl.SizeOf(42) != 3 {
		t.Errorf("bdf has the points %v and the size %d", got, impl.SizeOf(42))
	}
	if got := impl.SubsetsOf(7); !slices.Equal(got, []int{0, 1, 2, 4, 3, 5, 6, 7}) {
		t.Errorf("SubsetsOf(7) = %v", got)
	}
	if got := impl.SubsetsOf(52); !slices.Equal(got, []int{0, 4, 16, 32, 20, 36, 48, 52}) {
		t.Errorf("SubsetsOf(52) = %v", got)
	}
	if got := impl.OrderSets([]int{12, 63, 3, 32, 0, 7, 3, 56, 0}); !slices.Equal(got, []int{0, 32, 3, 12, 7, 56, 63}) {
		t.Errorf("OrderSets = %v", got)
	}
}

func TestBeforeSet(t *testing.T) {
	order := plainOrder()
	for i, a := range order {
		for j, b := range order {
			if got := impl.BeforeSet(a, b); got != (i < j) {
				t.Errorf("BeforeSet(%d, %d) = %v", a, b, got)
			}
		}
	}
	for _, bad := range neverSets {
		for _, s := range append(order, neverSets...) {
			if impl.BeforeSet(bad, s) || impl.BeforeSet(s, bad) {
				t.Errorf("BeforeSet holds for %d and %d", bad, s)
			}
		}
	}
}

func TestBeforeSetByHand(t *testing.T) {
	cases := []struct {
		a, b int
		want bool
	}{
		{0, 0, false}, {0, 1, true}, {1, 0, false}, {0, 63, true}, {63, 0, false}, {63, 63, false},
		{32, 3, true}, {3, 32, false}, {3, 5, true}, {5, 3, false}, {6, 5, false}, {48, 7, true}, {62, 63, true}, {31, 62, true},
	}
	for _, c := range cases {
		if got := impl.BeforeSet(c.a, c.b); got != c.want {
			t.Errorf("BeforeSet(%d, %d) = %v", c.a, c.b, got)
		}
	}
}

func TestSubsetsOf(t *testing.T) {
	for s := range 64 {
		var want []int
		for _, a := range plainOrder() {
			if plainSubset(a, s) {
				want = append(want, a)
			}
		}
		if got := impl.SubsetsOf(s); !slices.Equal(got, want) {
			t.Errorf("SubsetsOf(%d) = %v, want %v", s, got, want)
		}
	}
	for _, s := range neverSets {
		if got := impl.SubsetsOf(s); len(got) != 0 {
			t.Errorf("SubsetsOf(%d) = %v, want none", s, got)
		}
	}
}

// listed returns the sets of the list, in order and each once, that keep accepts.
func listed(list []int, keep func(s int) bool) []int {
	var out []int
	for _, s := range plainOrder() {
		if slices.Contains(list, s) && keep(s) {
			out = append(out, s)
		}
	}
	return out
}

func TestOrderMaximalAndMinimalSets(t *testing.T) {
	for _, list := range setLists() {
		all := listed(list, func(int) bool { return true })
		if got := impl.OrderSets(list); !slices.Equal(got, all) {
			t.Errorf("OrderSets(%v) = %v, want %v", list, got, all)
		}
		most := listed(list, func(s int) bool {
			return !slices.ContainsFunc(list, func(o int) bool { return o != s && plainSubset(s, o) })
		})
		if got := impl.MaximalSets(list); !slices.Equal(got, most) {
			t.Errorf("MaximalSets(%v) = %v, want %v", list, got, most)
		}
		least := listed(list, func(s int) bool {
			return !slices.ContainsFunc(list, func(o int) bool { return o != s && plainSubset(o, s) })
		})
		if got := impl.MinimalSets(list); !slices.Equal(got, least) {
			t.Errorf("MinimalSets(%v) = %v, want %v", list, got, least)
		}
	}
}

func TestMaximalAndMinimalSetsByHand(t *testing.T) {
	cases := []struct {
		list, most, least []int
	}{
		{nil, nil, nil},
		{[]int{0}, []int{0}, []int{0}},
		{[]int{0, 0}, []int{0}, []int{0}},
		{[]int{63, 0}, []int{63}, []int{0}},
		{[]int{7, 7}, []int{7}, []int{7}},
		{[]int{7, 3, 7, 3}, []int{7}, []int{3}},
		{[]int{3, 7}, []int{7}, []int{3}},
		{[]int{6, 5, 3}, []int{3, 5, 6}, []int{3, 5, 6}},
		{[]int{7, 32, 1, 33, 24}, []int{24, 33, 7}, []int{1, 32, 24}},
		{[]int{7, 8, 8}, []int{8, 7}, []int{8, 7}},
		{[]int{1, 3, 7, 15, 31, 63}, []int{63}, []int{1}},
	}
	for _, c := range cases {
		if got := impl.MaximalSets(c.list); !slices.Equal(got, c.most) {
			t.Errorf("MaximalSets(%v) = %v, want %v", c.list, got, c.most)
		}
		if got := impl.MinimalSets(c.list); !slices.Equal(got, c.least) {
			t.Errorf("MinimalSets(%v) = %v, want %v", c.list, got, c.least)
		}
	}
}

func TestListsWithANumberThatIsNoSet(t *testing.T) {
	for _, bad := range neverSets {
		for _, list := range [][]int{{bad}, {bad, bad}, {bad, 3, 5}, {3, bad, 5}, {3, 5, bad}, {0, 63, bad}} {
			if got := impl.OrderSets(list); len(got) != 0 {
				t.Errorf("OrderSets(%v) = %v, want none", list, got)
			}
			if got := impl.MaximalSets(list); len(got) != 0 {
				t.Errorf("MaximalSets(%v) = %v, want none", list, got)
			}
			if got := impl.MinimalSets(list); len(got) != 0 {
				t.Errorf("MinimalSets(%v) = %v, want none", list, got)
			}
		}
	}
}

func TestSetFunctionsLeaveTheirLists(t *testing.T) {
	functions := map[string]func([]int) []int{
		"OrderSets": impl.OrderSets, "MaximalSets": impl.MaximalSets, "MinimalSets": impl.MinimalSets,
		"SetsText": func(list []int) []int { return []int{len(impl.SetsText(list))} },
	}
	for name, f := range functions {
		for _, list := range setLists() {
			front, whole := withSpareCapacity(list)
			before := slices.Clone(whole)
			want := slices.Clone(f(front))
			got := f(front)
			for i := range got {
				got[i] = -9
			}
			got = append(got, -9, -9, -9, -9, -9, -9, -9, -9)
			if !slices.Equal(whole, before) {
				t.Errorf("%s turns %v into %v", name, before, whole)
			}
			if again := f(front); !slices.Equal(again, want) {
				t.Errorf("%s(%v) is %v, then %v", name, list, want, again)
			}
		}
	}
}

func TestSetResultsAreNewMemory(t *testing.T) {
	for _, f := range []func(int) []int{impl.PointsOf, impl.SubsetsOf} {
		for s := range 64 {
			want := slices.Clone(f(s))
			got := f(s)
			for i := range got {
				got[i] = -9
			}
			if again := f(s); !slices.Equal(again, want) {
				t.Errorf("of %d: %v, then %v", s, want, again)
			}
		}
	}
}

func TestSetText(t *testing.T) {
	cases := map[int]string{
		0: "-", 1: "a", 2: "b", 4: "c", 8: "d", 16: "e", 32: "f", 3: "ab", 5: "ac", 33: "af", 42: "bdf", 62: "bcdef", 63: "abcdef",
	}
	for s, want := range cases {
		if got := impl.SetText(s); got != want {
			t.Errorf("SetText(%d) = %q, want %q", s, got, want)
		}
	}
	for _, s := range neverSets {
		if got := impl.SetText(s); got != "" {
			t.Errorf("SetText(%d) = %q, want none", s, got)
		}
	}
}

// plainText has the letters of the points of s, in order.
func plainText(s int) string {
	text := ""
	for _, p := range plainPoints(s) {
		text += "abcdef"[p : p+1]
	}
	if text == "" {
		return "-"
	}
	return text
}

func TestParseSetReadsWhatSetTextWrites(t *testing.T) {
	for s := range 64 {
		text := impl.SetText(s)
		if text != plainText(s) {
			t.Errorf("SetText(%d) = %q, want %q", s, text, plainText(s))
		}
		if got, ok := impl.ParseSet(text); !ok || got != s {
			t.Errorf("ParseSet(%q) = %d, %v, want %d", text, got, ok, s)
		}
	}
}

func TestParseSetRejects(t *testing.T) {
	texts := []string{
		"", "ba", "ca", "fa", "acb", "abcdfe", "fedcba", "aa", "aab", "abb", "aba", "abcdeff", "ff",
		"g", "ag", "z", "abcdefg", "`", "a`", "A", "F", "AB", "aB", "Ab", "ABCDEF",
		"--", "---", "a-", "-a", "a-b", "abcdef-", "-abcdef",
		" ", " a", "a ", "a b", "a,b", ",", "- ", " -", "a\n", "\n", "0", "1", "63", "-1",
		"\x00", "a\x00", "\x00a", "-\x00", "\xff", "a\xff", "\xe1", "\u0430", "\uff41", "\u2212", "a\u0301", "\u00aa",
	}
	for _, text := range texts {
		if got, ok := impl.ParseSet(text); ok || got != 0 {
			t.Errorf("ParseSet(%q) = %d, %v, want 0, false", text, got, ok)
		}
	}
}

// TestParseShortSets goes through all texts of at most two bytes and all texts of three from a few bytes.
func TestParseShortSets(t *testing.T) {
	valid := map[string]int{}
	for s := range 64 {
		valid[plainText(s)] = s
	}
	texts := []string{""}
	for a := range 256 {
		texts = append(texts, string([]byte{byte(a)}))
		for b := range 256 {
			texts = append(texts, string([]byte{byte(a), byte(b)}))
		}
	}
	few := "abcdefg-A"
	for _, a := range few {
		for _, b := range few {
			for _, c := range few {
				texts = append(texts, fmt.Sprintf("%c%c%c", a, b, c))
			}
		}
	}
	for _, text := range texts {
		want, wantOk := valid[text]
		if got, ok := impl.ParseSet(text); ok != wantOk || got != want {
			t.Errorf("ParseSet(%q) = %d, %v, want %d, %v", text, got, ok, want, wantOk)
		}
	}
}

func TestSetsText(t *testing.T) {
	cases := []struct {
		list []int
		want string
	}{
		{nil, ""},
		{[]int{}, ""},
		{[]int{0}, "-"},
		{[]int{63}, "abcdef"},
		{[]int{0, 0}, "-,-"},
		{[]int{0, 5}, "-,ac"},
		{[]int{5, 0}, "ac,-"},
		{[]int{3, 3, 1}, "ab,ab,a"},
		{[]int{7, 24, 32}, "abc,de,f"},
	}
	for _, c := range cases {
		if got := impl.SetsText(c.list); got != c.want {
			t.Errorf("SetsText(%v) = %q, want %q", c.list, got, c.want)
		}
	}
	// The text of a number that is no set is the empty string, in a list as well.
	for _, bad := range neverSets {
		if got := impl.SetsText([]int{bad}); got != "" {
			t.Errorf("SetsText of %d alone = %q", bad, got)
		}
		if got := impl.SetsText([]int{1, bad, 2}); got != "a,,b" {
			t.Errorf("SetsText of a, %d and b = %q", bad, got)
		}
	}
}

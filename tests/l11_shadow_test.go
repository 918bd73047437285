package tests

import (
	"fmt"
	"math"
	"slices"
	"testing"

	"loop.example/g03100/impl"
)

// farNumbers are neither counts nor sizes.
var farNumbers = []int{math.MinInt, math.MinInt + 1, -1 << 32, -1001, -1000, -7, -6, -2, -1, 1001, 1002, 2000, 10000, 1 << 32, 1<<32 + 1, math.MaxInt - 1, math.MaxInt}

// plainWays has the ways to choose k of n things at [n][k], for n up to 1001 and k up to 6, by sums alone.
func plainWays() [][7]int {
	rows := [][7]int{{1}}
	for n := range 1001 {
		next := [7]int{1}
		for k := 1; k <= 6; k++ {
			next[k] = rows[n][k-1] + rows[n][k]
		}
		rows = append(rows, next)
	}
	return rows
}

// nextChosen goes to the list of as many numbers, each greater than the one before it, that follows if the greatest numbers decide first.
func nextChosen(list []int) []int {
	next := slices.Clone(list)
	place := 0
	for place+1 < len(list) && list[place]+1 == list[place+1] {
		next[place] = place
		place++
	}
	next[place]++
	return next
}

// plainShadows has at [k][m] how many lists of k - 1 numbers are parts of one of the first m lists of k numbers.
func plainShadows() [7][]int {
	var shadows [7][]int
	for k := 1; k <= 6; k++ {
		parts := map[string]bool{}
		chosen := upTo(k)
		for range 1001 {
			shadows[k] = append(shadows[k], len(parts))
			for place := range chosen {
				parts[fmt.Sprint(slices.Delete(slices.Clone(chosen), place, place+1))] = true
			}
			chosen = nextChosen(chosen)
		}
	}
	return shadows
}

func TestMaxCount(t *testing.T) {
	if impl.MaxCount != 1000 {
		t.Errorf("MaxCount is %d", impl.MaxCount)
	}
}

func TestCascadeAndShadowByHand(t *testing.T) {
	cases := []struct {
		m, k    int
		cascade []int
		bound   int
	}{
		// Nothing, and one set.
		{0, 1, nil, 0}, {0, 2, nil, 0}, {0, 3, nil, 0}, {0, 6, nil, 0},
		{1, 1, []int{1}, 1}, {1, 2, []int{2}, 2}, {1, 3, []int{3}, 3}, {1, 6, []int{6}, 6},
		// Sets of one point have the empty set below them, once.
		{2, 1, []int{2}, 1}, {7, 1, []int{7}, 1}, {61, 1, []int{61}, 1}, {999, 1, []int{999}, 1}, {1000, 1, []int{1000}, 1},
		{2, 2, []int{2, 1}, 3}, {3, 2, []int{3}, 3}, {9, 2, []int{4, 3}, 5}, {10, 2, []int{5}, 5}, {11, 2, []int{5, 1}, 6}, {15, 2, []int{6}, 6}, {16, 2, []int{6, 1}, 7},
		{2, 3, []int{3, 2}, 5}, {3, 3, []int{3, 2, 1}, 6}, {4, 3, []int{4}, 6}, {11, 3, []int{5, 2}, 12}, {12, 3, []int{5, 2, 1}, 13}, {20, 3, []int{6}, 15}, {27, 3, []int{6, 4, 1}, 20},
		{6, 6, []int{6, 5, 4, 3, 2, 1}, 21}, {7, 6, []int{7}, 21}, {5, 6, []int{6, 5, 4, 3, 2}, 20}, {28, 4, []int{6, 5, 3}, 33}, {70, 4, []int{8}, 56},
		// The greatest counts.
		{990, 2, []int{45}, 45}, {1000, 2, []int{45, 10}, 46}, {1000, 3, []int{19, 8, 3}, 180}, {969, 3, []int{19}, 171}, {1000, 4, []int{13, 12, 11, 10}, 364},
		{1000, 5, []int{12, 9, 8, 7, 5}, 615}, {924, 6, []int{12}, 792}, {1000, 6, []int{12, 8, 6, 4, 2}, 890},
	}
	for _, c := range cases {
		if got := impl.CascadeOf(c.m, c.k); !slices.Equal(got, c.cascade) {
			t.Errorf("CascadeOf(%d, %d) = %v, want %v", c.m, c.k, got, c.cascade)
		}
		if got := impl.ShadowBound(c.m, c.k); got != c.bound {
			t.Errorf("ShadowBound(%d, %d) = %d, want %d", c.m, c.k, got, c.bound)
		}
	}
}

// isPlainCascade asks for what only one list has; the place p of the list stands for choices of k - p.
func isPlainCascade(list []int, m int, k int, ways [][7]int) bool {
	if len(list) > k {
		return false
	}
	sum := 0
	for place, n := range list {
		if n < k-place || n > 1001 || place > 0 && n >= list[place-1] {
			return false
		}
		sum += ways[n][k-place]
	}
	return sum == m
}

func TestCascadeOfEachCount(t *testing.T) {
	ways := plainWays()
	for k := 1; k <= 6; k++ {
		for m := range 1001 {
			if got := impl.CascadeOf(m, k); !isPlainCascade(got, m, k, ways) {
				t.Errorf("CascadeOf(%d, %d) = %v", m, k, got)
			}
		}
	}
}

func TestShadowBoundOfEachCount(t *testing.T) {
	shadows := plainShadows()
	for k := 1; k <= 6; k++ {
		for m, want := range shadows[k] {
			if got := impl.ShadowBound(m, k); got != want {
				t.Errorf("ShadowBound(%d, %d) = %d, want %d", m, k, got, want)
			}
		}
	}
}

// leastShadows goes through all families of sets of 6 points with k points each; at [m] it has the least shadow of m of them.
func leastShadows(k int) []int {
	var below []uint64
	for _, s := range plainOfSize(plainOrder(), k) {
		var parts uint64
		for _, point := range plainPoints(s) {
			parts |= 1 << (s ^ 1<<point)
		}
		below = append(below, parts)
	}
	least := slices.Repeat([]int{64}, len(below)+1)
	var choose func(next int, count int, shadow uint64)
	choose = func(next int, count int, shadow uint64) {
		if next == len(below) {
			least[count] = min(least[count], onesIn(shadow))
			return
		}
		choose(next+1, count, shadow)
		choose(next+1, count+1, shadow|below[next])
	}
	choose(0, 0, 0)
	return least
}

func onesIn(number uint64) int {
	count := 0
	for ; number > 0; number &= number - 1 {
		count++
	}
	return count
}

// TestShadowBoundIsTheLeast holds the first half of the chapter's sentence: no choice of sets has fewer sets below it, and one has as many.
func TestShadowBoundIsTheLeast(t *testing.T) {
	for k := 1; k <= 6; k++ {
		for m, want := range leastShadows(k) {
			if got := impl.ShadowBound(m, k); got != want {
				t.Errorf("ShadowBound(%d, %d) = %d, want %d", m, k, got, want)
			}
		}
	}
}

func rejectsCascade(t *testing.T, m int, k int) {
	t.Helper()
	if got := impl.CascadeOf(m, k); len(got) != 0 {
		t.Errorf("CascadeOf(%d, %d) = %v, want none", m, k, got)
	}
	if got := impl.ShadowBound(m, k); got != -1 {
		t.Errorf("ShadowBound(%d, %d) = %d, want -1", m, k, got)
	}
}

func TestCascadeAndShadowOutOfBounds(t *testing.T) {
	for _, far := range farNumbers {
		for k := -2; k <= 9; k++ {
			rejectsCascade(t, far, k)
		}
		for _, m := range []int{0, 1, 2, 6, 10, 999, 1000} {
			rejectsCascade(t, m, far)
		}
		for _, other := range farNumbers {
			rejectsCascade(t, far, other)
		}
	}
	for _, m := range []int{0, 1, 2, 6, 7, 8, 100, 1000} {
		for _, k := range neverCounts {
			rejectsCascade(t, m, k)
		}
	}
}

func holdsFaceCounts(t *testing.T, list []int, want bool) {
	t.Helper()
	if got := impl.AreFaceCounts(list); got != want {
		t.Errorf("AreFaceCounts(%v) = %v", list, got)
	}
}

func TestFaceCountsByHand(t *testing.T) {
	possible := [][]int{
		{1}, {1, 1}, {1, 6}, {1, 7}, {1, 1000}, {1, 2, 1}, {1, 3, 3}, {1, 3, 3, 1}, {1, 4, 6, 4}, {1, 4, 4}, {1, 4, 4, 1}, {1, 5, 10, 10, 5},
		{1, 6, 15, 20, 15, 6, 1}, {1, 6, 9, 2}, {1, 6, 8, 4}, {1, 6, 15, 10}, {1, 6, 1},
		// More than 6 points: all sets but one, a join of 6 pairs, and graphs of all points.
		{1, 7, 21, 35, 35, 21, 7}, {1, 12, 60, 160, 240, 192, 64}, {1, 45, 990}, {1, 46, 991}, {1, 1000, 1000, 1000, 1000, 1000, 1000}, {1, 46, 1000},
		{1, 1000, 1000, 180, 1}, {1, 1000, 1000, 1000, 1000, 890, 1000},
	}
	impossible := [][]int{
		// The first number, and numbers out of bounds.
		nil, {}, {0}, {2}, {-1}, {1000}, {0, 1}, {2, 1}, {2, 3, 3}, {1, 0}, {1, -1}, {1, 3, 0}, {1, 3, 3, 0}, {1, 0, 0}, {1, 3, 0, 1}, {1, 1001}, {1, 1000, 1001}, {0, 0, 0},
		// One set too many, or one too few below.
		{1, 1, 1}, {1, 2, 2}, {1, 3, 4}, {1, 2, 3}, {1, 3, 3, 2}, {1, 3, 2, 1}, {1, 4, 7}, {1, 4, 6, 5}, {1, 4, 6, 4, 2}, {1, 4, 5, 4, 1}, {1, 4, 4, 2}, {1, 6, 5, 4}, {1, 890, 1, 1}, {1, 6, 15, 20, 15, 6, 2},
		{1, 6, 15, 20, 15, 5, 1}, {1, 6, 15, 20, 14, 6, 1}, {1, 6, 15, 19, 15, 6, 1}, {1, 6, 14, 20, 15, 6, 1}, {1, 5, 15, 20, 15, 6, 1}, {1, 44, 990}, {1, 45, 991}, {1, 45, 1000},
		{1, 1000, 1000, 1000, 1000, 889, 1000},
		// Too many numbers, as of all sets of 7 points.
		{1, 7, 21, 35, 35, 21, 7, 1}, slices.Repeat([]int{1}, 8), slices.Repeat([]int{1000}, 8), append([]int{1}, slices.Repeat([]int{1000}, 7)...),
	}
	for _, list := range possible {
		holdsFaceCounts(t, list, true)
	}
	for _, list := range impossible {
		holdsFaceCounts(t, list, false)
	}
}

// arePlainCounts judges by the shadows of first lists.
func arePlainCounts(list []int, shadows [7][]int) bool {
	if len(list) < 1 || len(list) > 7 || list[0] != 1 {
		return false
	}
	for k, count := range list {
		if count < 1 || count > 1000 || k > 0 && shadows[k][count] > list[k-1] {
			return false
		}
	}
	return true
}

// leastUnder has the least counts that come before a number of the index k, and this number.
func leastUnder(k int, number int, shadows [7][]int) []int {
	list := make([]int, k+1)
	list[k] = number
	for ; k > 0; k-- {
		list[k-1] = shadows[k][list[k]]
	}
	return list
}

func TestFaceCountsAtTheBounds(t *testing.T) {
	shadows := plainShadows()
	for k := 1; k <= 6; k++ {
		for m := 1; m <= 1000; m += 1 + m/50 {
			list := leastUnder(k, m, shadows)
			holdsFaceCounts(t, list, true)
			for place := range list {
				fewer := slices.Clone(list)
				fewer[place]--
				holdsFaceCounts(t, fewer, place == k && m > 1)
				more := slices.Clone(list)
				more[place]++
				holdsFaceCounts(t, more, arePlainCounts(more, shadows))
			}
		}
	}
}

func TestFaceCountsOfAnyNumbers(t *testing.T) {
	shadows := plainShadows()
	numbers := []int{1, 2, 3, 4, 6, 7, 10, 15, 20, 35, 46, 120, 500, 999, 1000, 0, 1001, -1}
	possible, state := 0, 1
	for range 40000 {
		state = (state*75 + 74) % 65537
		list := []int{1}
		for rest := state; len(list) < 2+state%6; rest /= 5 {
			list = append(list, numbers[(rest+3*len(list))%len(numbers)])
		}
		want := arePlainCounts(list, shadows)
		holdsFaceCounts(t, list, want)
		if want {
			possible++
		}
	}
	if possible < 400 {
		t.Errorf("only %d lists are possible", possible)
	}
}

func TestFaceCountsRejects(t *testing.T) {
	for length := 1; length <= 7; length++ {
		list := slices.Repeat([]int{1000}, length)
		list[0] = 1
		holdsFaceCounts(t, list, true)
		for place := range list {
			for _, number := range append([]int{0}, farNumbers...) {
				wrong := slices.Clone(list)
				wrong[place] = number
				holdsFaceCounts(t, wrong, false)
			}
		}
		for _, number := range []int{2, 3, 1000} {
			wrong := slices.Clone(list)
			wrong[0] = number
			holdsFaceCounts(t, wrong, false)
		}
	}
	for _, length := range []int{0, 8, 9, 63, 64, 65, 1000} {
		holdsFaceCounts(t, slices.Repeat([]int{1}, length), false)
		list := slices.Repeat([]int{1000}, length)
		if length > 0 {
			list[0] = 1
		}
		holdsFaceCounts(t, list, false)
	}
}

// allOfFivePoints has all 7581 complexes of 5 points.
func allOfFivePoints() []impl.Complex { return allOfOneMore(allOfOneMore(allComplexes(3))) }

// TestCountsOfComplexesArePossible holds promise 11.
func TestCountsOfComplexesArePossible(t *testing.T) {
	for _, c := range append(someComplexes(), allOfFivePoints()...) {
		counts := impl.FaceCounts(c)
		holdsFaceCounts(t, counts, len(c.Facets) > 0)
		holdsCompressed(t, counts, len(c.Facets) > 0)
	}
}

// TestPossibleCountsAreCountsOfComplexes holds the other direction, for all lists of counts with at most 5 points and some that are too great.
func TestPossibleCountsAreCountsOfComplexes(t *testing.T) {
	list := allOfFivePoints()
	if len(list) != 7581 {
		t.Fatalf("%d complexes of 5 points", len(list))
	}
	found := map[string]bool{}
	for _, c := range list {
		found[fmt.Sprint(impl.FaceCounts(c))] = true
	}
	// One of them is the empty list, of the complex without faces.
	if len(found) != 96 {
		t.Errorf("%d lists of counts, want 96", len(found))
	}
	var extend func(counts []int)
	extend = func(counts []int) {
		holdsFaceCounts(t, counts, found[fmt.Sprint(counts)])
		if len(counts) > 5 {
			return
		}
		for number := range []int{0, 6, 12, 12, 7, 3}[len(counts)] {
			extend(append(slices.Clone(counts), number))
		}
	}
	extend([]int{1})
}

func TestFirstSetsByHand(t *testing.T) {
	cases := []struct {
		k, m int
		want []int
	}{
		{0, 0, nil}, {0, 1, []int{0}}, {0, 2, nil},
		{1, 0, nil}, {1, 1, []int{1}}, {1, 3, []int{1, 2, 4}}, {1, 6, []int{1, 2, 4, 8, 16, 32}}, {1, 7, nil},
		{2, 0, nil}, {2, 1, []int{3}}, {2, 4, []int{3, 5, 6, 9}}, {2, 15, []int{3, 5, 6, 9, 10, 12, 17, 18, 20, 24, 33, 34, 36, 40, 48}}, {2, 16, nil},
		{3, 4, []int{7, 11, 13, 14}}, {3, 5, []int{7, 11, 13, 14, 19}}, {4, 2, []int{15, 23}}, {5, 6, []int{31, 47, 55, 59, 61, 62}}, {5, 7, nil},
		{6, 0, nil}, {6, 1, []int{63}}, {6, 2, nil}, {7, 0, nil}, {7, 1, nil}, {-1, 0, nil}, {-1, 1, nil}, {2, -1, nil},
	}
	for _, c := range cases {
		holdsFirstSets(t, c.k, c.m, c.want)
	}
}

func holdsFirstSets(t *testing.T, k int, m int, want []int) {
	t.Helper()
	if got := impl.FirstSets(k, m); !slices.Equal(got, want) {
		t.Errorf("FirstSets(%d, %d) = %v, want %v", k, m, got, want)
	}
}

func TestFirstSetsOfEachNumber(t *testing.T) {
	for k := -3; k <= 9; k++ {
		var sized []int
		for s := range 64 {
			if len(plainPoints(s)) == k {
				sized = append(sized, s)
			}
		}
		for m := -3; m <= 66; m++ {
			var want []int
			if m >= 0 && m <= len(sized) {
				want = sized[:m]
			}
			holdsFirstSets(t, k, m, want)
		}
	}
}

func TestFirstSetsOutOfBounds(t *testing.T) {
	for _, far := range farNumbers {
		for k := range 7 {
			holdsFirstSets(t, k, far, nil)
		}
		for m := range 21 {
			holdsFirstSets(t, far, m, nil)
		}
		for _, other := range farNumbers {
			holdsFirstSets(t, far, other, nil)
		}
	}
}

// holdsCompressed holds a complex against the sets that the chapter names, face by face.
func holdsCompressed(t *testing.T, list []int, possible bool) {
	t.Helper()
	got, ok := impl.CompressedComplex(list)
	if ok != possible || !ok && !isZeroComplex(got) {
		t.Errorf("CompressedComplex(%v) = %v, %v", list, got, ok)
	}
	if !possible {
		return
	}
	var faces []int
	for k, count := range list {
		faces = append(faces, impl.FirstSets(k, count)...)
	}
	if got.Points != 6 || !impl.IsComplex(got) || !slices.Equal(impl.FacesOf(got), faces) {
		t.Errorf("CompressedComplex(%v) = %v, want the faces %v", list, got, faces)
	}
	if counts := impl.FaceCounts(got); !slices.Equal(counts, list) {
		t.Errorf("CompressedComplex(%v) = %v with the counts %v", list, got, counts)
	}
}

func TestCompressedByHand(t *testing.T) {
	cases := []struct {
		list []int
		want string
	}{
		{[]int{1}, "6:-"}, {[]int{1, 1}, "6:a"}, {[]int{1, 6}, "6:a,b,c,d,e,f"}, {[]int{1, 2, 1}, "6:ab"}, {[]int{1, 3, 1}, "6:c,ab"}, {[]int{1, 3, 3}, "6:ab,ac,bc"},
		{[]int{1, 3, 3, 1}, "6:abc"}, {[]int{1, 4, 4}, "6:ab,ac,bc,ad"}, {[]int{1, 4, 4, 1}, "6:ad,abc"}, {[]int{1, 4, 6, 4}, "6:abc,abd,acd,bcd"}, {[]int{1, 5, 6, 2}, "6:e,cd,abc,abd"},
		{[]int{1, 6, 9, 2}, "6:f,cd,ae,be,ce,abc,abd"}, {[]int{1, 6, 15, 10}, "6:af,bf,cf,df,ef,abc,abd,acd,bcd,abe,ace,bce,ade,bde,cde"},
		{[]int{1, 6, 15, 20, 15, 6}, "6:abcde,abcdf,abcef,abdef,acdef,bcdef"}, {[]int{1, 6, 15, 20, 15, 6, 1}, "6:abcdef"},
	}
	for _, c := range cases {
		want := readComplex(t, c.want)
		if got, ok := impl.CompressedComplex(c.list); !ok || !sameComplex(got, want) {
			t.Errorf("CompressedComplex(%v) = %v, %v, want %v", c.list, got, ok, want)
		}
		holdsCompressed(t, c.list, true)
	}
}

// TestCompressedOfAllPossibleCounts goes through all counts that 6 points have room for, and for each list through the next numbers that are too great.
func TestCompressedOfAllPossibleCounts(t *testing.T) {
	shadows := plainShadows()
	room := []int{1, 6, 15, 20, 15, 6, 1, 0}
	lists := 0
	var extend func(list []int)
	extend = func(list []int) {
		lists++
		holdsCompressed(t, list, true)
		for number := range room[len(list)] + 2 {
			longer := append(slices.Clone(list), number)
			if arePlainCounts(longer, shadows) && number <= room[len(list)] {
				extend(longer)
			} else {
				holdsCompressed(t, longer, false)
			}
		}
	}
	extend([]int{1})
	if lists != 552 {
		t.Errorf("%d lists of counts, want 552", lists)
	}
}

func TestCompressedRejects(t *testing.T) {
	tooGreat := [][]int{
		{1, 7}, {1, 8}, {1, 1000}, {1, 7, 1}, {1, 7, 3, 1}, {1, 7, 15}, {1, 7, 16}, {1, 7, 21}, {1, 7, 15, 20, 15, 6, 1}, {1, 7, 21, 35, 35, 21, 7}, {1, 12, 60, 160, 240, 192, 64},
		{1, 45, 990}, {1, 1000, 1000, 1000, 1000, 1000, 1000},
	}
	for _, list := range tooGreat {
		holdsFaceCounts(t, list, true)
		holdsCompressed(t, list, false)
	}
	impossible := [][]int{
		nil, {}, {0}, {2}, {-1}, {0, 1}, {1, 0}, {1, -1}, {1, 1001}, {1, 3, 0}, {1, 3, 4}, {1, 3, 3, 2}, {1, 6, 16}, {1, 6, 15, 21}, {1, 6, 15, 20, 15, 6, 2}, {1, 6, 15, 20, 15, 5, 1},
		{1, 6, 15, 20, 15, 6, 1, 1}, {1, 7, 21, 35, 35, 21, 7, 1}, slices.Repeat([]int{1}, 8), make([]int, 7), make([]int, 1000),
	}
	for _, far := range farNumbers {
		impossible = append(impossible, []int{far}, []int{far, 1}, []int{1, far}, []int{1, 3, far}, []int{1, 6, 15, 20, 15, 6, far}, []int{1, far, 3})
	}
	for _, list := range impossible {
		holdsFaceCounts(t, list, false)
		holdsCompressed(t, list, false)
	}
}

func TestShadowFunctionsLeaveTheirLists(t *testing.T) {
	lists := [][]int{nil, {}, {1}, {1, 3, 3}, {1, 4, 4, 1}, {1, 3, 4}, {2, 1}, {1, 7}, {1, 0}, {1, 6, 15, 20, 15, 6, 1}, slices.Repeat([]int{1}, 9)}
	for _, list := range lists {
		front, whole := withSpareCapacity(list)
		before := slices.Clone(whole)
		impl.AreFaceCounts(front)
		got, _ := impl.CompressedComplex(front)
		for i := range got.Facets {
			got.Facets[i] = -9
		}
		_ = append(got.Facets, -9, -9, -9, -9, -9, -9, -9, -9)
		if !slices.Equal(whole, before) {
			t.Errorf("%v has become %v", before, whole)
		}
	}
}

func TestShadowResultsAreNewMemory(t *testing.T) {
	holdsNewMemory(t, map[string]func() []int{
		"CascadeOf":         func() []int { return impl.CascadeOf(27, 3) },
		"CascadeOf 1000":    func() []int { return impl.CascadeOf(1000, 1) },
		"FirstSets":         func() []int { return impl.FirstSets(2, 4) },
		"FirstSets all":     func() []int { return impl.FirstSets(3, 20) },
		"FirstSets 0":       func() []int { return impl.FirstSets(0, 1) },
		"CompressedComplex": func() []int { c, _ := impl.CompressedComplex([]int{1, 4, 4, 1}); return c.Facets },
	})
}

package tests

import (
	"fmt"
	"math"
	"slices"
	"testing"

	"loop.example/g03100/impl"
)

// plainSums has the number of lists of n exponents with the sum d at [n][d], by the value of the last exponent.
func plainSums() [7][22]int {
	var sums [7][22]int
	sums[0][0] = 1
	for n := 1; n <= 6; n++ {
		for d := range sums[n] {
			for last := 0; last <= d; last++ {
				sums[n][d] += sums[n-1][d-last]
			}
		}
	}
	return sums
}

// plainMonomials counts down with n digits from 0 to d and keeps the numbers whose digits have the sum d.
func plainMonomials(n int, d int) [][]int {
	var kept [][]int
	top := 1
	for range n {
		top *= d + 1
	}
	for number := top - 1; number >= 0; number-- {
		digits := make([]int, n)
		sum := 0
		for place, rest := n-1, number; place >= 0; place-- {
			digits[place] = rest % (d + 1)
			sum += digits[place]
			rest /= d + 1
		}
		if sum == d {
			kept = append(kept, digits)
		}
	}
	return kept
}

// nextVariables goes to the next monomial, written as the list of its variables from the least to the greatest, if the greatest decide first.
func nextVariables(list []int) []int {
	next := slices.Clone(list)
	place := 0
	for place+1 < len(list) && list[place] == list[place+1] {
		next[place] = 0
		place++
	}
	next[place]++
	return next
}

// plainGrowth has at [k][m] how many monomials of degree k + 1 have all their divisors of degree k among the first m of degree k.
// The last of these divisors to come is the one without the least variable.
func plainGrowth() [7][]int {
	var growth [7][]int
	for k := 1; k <= 6; k++ {
		list := make([]int, k)
		sum := 0
		for range 1001 {
			growth[k] = append(growth[k], sum)
			// The variables that can come before the least one are those up to itself.
			sum += list[0] + 1
			list = nextVariables(list)
		}
	}
	return growth
}

func holdsPowerBound(t *testing.T, m int, k int, want int) {
	t.Helper()
	if got := impl.PowerBound(m, k); got != want {
		t.Errorf("PowerBound(%d, %d) = %d, want %d", m, k, got, want)
	}
}

func TestPowerBoundByHand(t *testing.T) {
	cases := []struct{ m, k, want int }{
		// Nothing, and the power of one variable.
		{0, 1, 0}, {0, 2, 0}, {0, 3, 0}, {0, 5, 0}, {0, 6, 0}, {1, 1, 1}, {1, 2, 1}, {1, 3, 1}, {1, 5, 1}, {1, 6, 1},
		// From m variables there are all products of two.
		{2, 1, 3}, {3, 1, 6}, {4, 1, 10}, {5, 1, 15}, {6, 1, 21}, {7, 1, 28}, {59, 1, 1770}, {60, 1, 1830}, {61, 1, 1891}, {100, 1, 5050}, {999, 1, 499500}, {1000, 1, 500500},
		// At most as many as the degree stay as many.
		{2, 2, 2}, {3, 3, 3}, {2, 6, 2}, {5, 5, 5}, {6, 6, 6},
		{3, 2, 4}, {4, 2, 5}, {5, 2, 7}, {6, 2, 10}, {7, 2, 11}, {10, 2, 20}, {11, 2, 21}, {15, 2, 35}, {21, 2, 56},
		{4, 3, 5}, {5, 3, 6}, {7, 3, 9}, {9, 3, 12}, {10, 3, 15}, {11, 3, 16}, {27, 3, 46}, {20, 3, 35}, {28, 4, 40}, {70, 4, 126}, {7, 6, 8}, {8, 6, 9}, {28, 6, 36}, {924, 6, 1716},
		{990, 2, 15180}, {1000, 2, 15235}, {969, 3, 4845}, {1000, 3, 4935}, {1000, 4, 2992}, {1000, 5, 2165}, {1000, 6, 1827},
	}
	for _, c := range cases {
		holdsPowerBound(t, c.m, c.k, c.want)
	}
}

func TestPowerBoundOfEachCount(t *testing.T) {
	for k, bounds := range plainGrowth() {
		for m, want := range bounds {
			holdsPowerBound(t, m, k, want)
		}
	}
}

// TestPowerBoundIsTheChaptersSum takes the ways by sums alone, for numbers far beyond the bound of Choose.
func TestPowerBoundIsTheChaptersSum(t *testing.T) {
	ways := plainTriangle(62)
	for k := 1; k <= 6; k++ {
		for m := range 1001 {
			sum := 0
			for place, n := range impl.CascadeOf(m, k) {
				if i := k - place; i == 1 {
					sum += n * (n + 1) / 2
				} else {
					sum += ways[n+1][i+1]
				}
			}
			holdsPowerBound(t, m, k, sum)
		}
	}
}

// isDivisor tells whether no exponent of a is greater than that of b.
func isDivisor(a []int, b []int) bool {
	for place := range a {
		if a[place] > b[place] {
			return false
		}
	}
	return true
}

// divisorsOf has for each of the monomials the places of its divisors among those of the degree below, as one number.
func divisorsOf(monomials [][]int, below [][]int) []uint64 {
	var places []uint64
	for _, monomial := range monomials {
		var bits uint64
		for place, other := range below {
			if isDivisor(other, monomial) {
				bits |= 1 << place
			}
		}
		places = append(places, bits)
	}
	return places
}

// TestPowerBoundIsTheGreatest holds the chapter's words: no choice of monomials leaves more in the next degree, and one leaves as many.
func TestPowerBoundIsTheGreatest(t *testing.T) {
	cases := []struct{ n, k int }{
		{1, 1}, {1, 6}, {2, 1}, {2, 2}, {2, 3}, {2, 4}, {2, 5}, {2, 6}, {3, 1}, {3, 2}, {3, 3}, {3, 4}, {4, 1}, {4, 2}, {4, 3}, {5, 2}, {6, 1},
	}
	for _, c := range cases {
		below := plainMonomials(c.n, c.k)
		divisors := divisorsOf(plainMonomials(c.n, c.k+1), below)
		greatest := make([]int, len(below)+1)
		for family := range uint64(1) << len(below) {
			left := 0
			for _, bits := range divisors {
				if bits&family == bits {
					left++
				}
			}
			count := onesIn(family)
			greatest[count] = max(greatest[count], left)
		}
		for m, want := range greatest {
			holdsPowerBound(t, m, c.k, want)
		}
	}
}

// TestAllMonomialsGrowToAll goes up to the greatest counts of degree k that a cascade has.
func TestAllMonomialsGrowToAll(t *testing.T) {
	for n := 1; n <= 6; n++ {
		for k := 1; k <= 6; k++ {
			if count := impl.CountMonomials(n, k); count <= 1000 {
				holdsPowerBound(t, count, k, impl.CountMonomials(n, k+1))
			}
		}
	}
}

func TestPowerBoundOutOfBounds(t *testing.T) {
	for _, far := range farNumbers {
		for k := -2; k <= 9; k++ {
			holdsPowerBound(t, far, k, -1)
		}
		for _, m := range []int{0, 1, 2, 6, 10, 999, 1000} {
			holdsPowerBound(t, m, far, -1)
		}
		for _, other := range farNumbers {
			holdsPowerBound(t, far, other, -1)
		}
	}
	for _, m := range []int{0, 1, 2, 6, 7, 8, 100, 1000} {
		for _, k := range neverCounts {
			holdsPowerBound(t, m, k, -1)
		}
	}
}

func holdsMonomialCounts(t *testing.T, list []int, want bool) {
	t.Helper()
	if got := impl.AreMonomialCounts(list); got != want {
		t.Errorf("AreMonomialCounts(%v) = %v", list, got)
	}
}

func TestMonomialCountsByHand(t *testing.T) {
	possible := [][]int{
		{1}, {1, 0}, {1, 1}, {1, 6}, {1, 7}, {1, 999}, {1, 1000},
		// Nothing of a degree, and nothing after it.
		{1, 0, 0}, {1, 2, 0}, {1, 3, 0, 0}, {1, 1000, 0}, {1, 3, 6, 0}, {1, 0, 0, 0, 0, 0, 0}, {1, 3, 3, 3, 0, 0, 0},
		// Just right: all monomials in some variables, and other greatest numbers.
		{1, 1, 1, 1, 1, 1, 1}, {1, 2, 3, 4, 5, 6, 7}, {1, 3, 6, 10, 15, 21, 28}, {1, 4, 10, 20, 35, 56, 84}, {1, 6, 21, 56, 126, 252, 462}, {1, 44, 990}, {1, 45, 1000}, {1, 1000, 1000, 1000, 1000, 1000, 1000},
		{1, 3, 3, 4, 5, 6, 7}, {1, 3, 4, 5, 6, 7, 8}, {1, 3, 5, 7, 9, 11, 13}, {1, 3, 2, 2, 2, 2, 2}, {1, 9, 1, 1, 1, 1, 1}, {1, 4, 7, 11, 16, 22, 29},
		// Fewer than possible.
		{1, 2, 1}, {1, 3, 1, 1}, {1, 3, 6, 2}, {1, 4, 4, 1}, {1, 3, 3, 1}, {1, 6, 15, 20, 15, 6, 1},
	}
	impossible := [][]int{
		// The first number.
		nil, {}, {0}, {2}, {-1}, {3}, {1000}, {0, 0}, {0, 1}, {2, 1}, {2, 3, 3}, {0, 0, 0},
		// Out of bounds.
		{1, -1}, {1, 1001}, {1, 3, -1}, {1, 2, 0, -1}, {1, 45, 1001}, {1, 1000, 1001}, {1, 1000, 1000, 1001}, {1, 1001, 1},
		// Something after nothing, and one too many.
		{1, 0, 1}, {1, 2, 0, 1}, {1, 3, 6, 0, 1}, {1, 0, 0, 0, 0, 0, 1}, {1, 1, 2}, {1, 2, 4}, {1, 3, 7}, {1, 4, 11}, {1, 6, 22}, {1, 44, 991},
		{1, 1, 1, 2}, {1, 1, 1, 1, 1, 1, 2}, {1, 2, 2, 3}, {1, 2, 3, 5}, {1, 3, 3, 5}, {1, 3, 4, 6}, {1, 3, 5, 8}, {1, 3, 6, 11}, {1, 3, 3, 4, 6}, {1, 2, 3, 4, 5, 6, 8}, {1, 4, 7, 12}, {1, 6, 21, 56, 126, 252, 463}, {1, 3, 2, 3},
		// Too many numbers.
		{1, 1, 1, 1, 1, 1, 1, 1}, {1, 2, 3, 4, 5, 6, 7, 8}, {1, 0, 0, 0, 0, 0, 0, 0}, append([]int{1}, slices.Repeat([]int{1000}, 7)...),
	}
	for _, list := range possible {
		holdsMonomialCounts(t, list, true)
	}
	for _, list := range impossible {
		holdsMonomialCounts(t, list, false)
	}
}

func TestAnyNumberOfVariables(t *testing.T) {
	for number := range 1001 {
		holdsMonomialCounts(t, []int{1, number}, true)
		most := min(number*(number+1)/2, 1000)
		holdsMonomialCounts(t, []int{1, number, most}, true)
		holdsMonomialCounts(t, []int{1, number, most + 1}, false)
	}
}

// plainCountsOfFamilies has the counts, up to the degree given, of all families of monomials in n variables that have every divisor of each of their monomials.
func plainCountsOfFamilies(n int, degree int) map[string]bool {
	var divisors [][]uint64
	for d := 1; d <= degree; d++ {
		divisors = append(divisors, divisorsOf(plainMonomials(n, d), plainMonomials(n, d-1)))
	}
	found := map[string]bool{}
	seen := map[string]bool{}
	var extend func(counts []int, family uint64)
	extend = func(counts []int, family uint64) {
		if key := fmt.Sprint(counts, family); seen[key] {
			return
		} else {
			seen[key] = true
		}
		found[fmt.Sprint(counts)] = true
		if len(counts) > degree {
			return
		}
		var room []int
		for place, bits := range divisors[len(counts)-1] {
			if bits&family == bits {
				room = append(room, place)
			}
		}
		if len(counts) == degree {
			// No more is to come, so that only the number matters.
			for number := range len(room) + 1 {
				found[fmt.Sprint(append(slices.Clone(counts), number))] = true
			}
			return
		}
		for choice := range 1 << len(room) {
			var next uint64
			for i, place := range room {
				next |= uint64(choice>>i&1) << place
			}
			extend(append(slices.Clone(counts), onesIn(next)), next)
		}
	}
	extend([]int{1}, 1)
	return found
}

// TestMonomialCountsAreCountsOfFamilies holds the chapter's sentence in both directions, for lists with at most n at the index 1.
func TestMonomialCountsAreCountsOfFamilies(t *testing.T) {
	cases := []struct{ n, degree, most int }{{1, 6, 3}, {2, 6, 9}, {3, 3, 12}, {3, 4, 17}, {4, 3, 22}, {5, 2, 17}, {6, 1, 7}}
	for _, c := range cases {
		found := plainCountsOfFamilies(c.n, c.degree)
		possible := 0
		var extend func(counts []int)
		extend = func(counts []int) {
			want := found[fmt.Sprint(counts)]
			holdsMonomialCounts(t, counts, want)
			if want {
				possible++
			}
			if !want || len(counts) > c.degree {
				return
			}
			most := c.most
			if len(counts) == 1 {
				most = c.n
			}
			for number := -1; number <= most; number++ {
				extend(append(slices.Clone(counts), number))
			}
		}
		extend([]int{1})
		if possible != len(found) {
			t.Errorf("%d of %d lists of counts are gone through", possible, len(found))
		}
	}
}

func TestMonomialCountsAtTheBounds(t *testing.T) {
	growth := plainGrowth()
	for k := 1; k <= 5; k++ {
		for m := 0; m <= 1000; m += 1 + m/50 {
			// Before m at the index k stand all monomials in m variables, or as many as a list can have.
			list := []int{1, m}
			for d := 1; d < k; d++ {
				list = append(list, min(growth[d][list[d]], 1000))
			}
			list[k] = min(list[k], m)
			most := min(growth[k][list[k]], 1000)
			holdsMonomialCounts(t, append(slices.Clone(list), most), true)
			holdsMonomialCounts(t, append(slices.Clone(list), most+1), false)
			holdsMonomialCounts(t, append(slices.Clone(list), 0), true)
			holdsMonomialCounts(t, append(slices.Clone(list), -1), false)
		}
	}
}

// arePlainMonomialCounts judges by the growth of first monomials.
func arePlainMonomialCounts(list []int, growth [7][]int) bool {
	if len(list) < 1 || len(list) > 7 || list[0] != 1 {
		return false
	}
	for k, count := range list {
		if count < 0 || count > 1000 || k > 1 && count > growth[k-1][list[k-1]] {
			return false
		}
	}
	return true
}

func TestMonomialCountsOfAnyNumbers(t *testing.T) {
	growth := plainGrowth()
	numbers := []int{0, 1, 2, 3, 4, 5, 6, 8, 10, 12, 15, 21, 28, 35, 50, 120, 500, 999, 1000, 1001, -1}
	possible, state := 0, 1
	for range 40000 {
		state = (state*75 + 74) % 65537
		list := []int{1}
		for rest := state; len(list) < 2+state%6; rest /= 5 {
			list = append(list, numbers[(rest+3*len(list))%len(numbers)])
		}
		want := arePlainMonomialCounts(list, growth)
		holdsMonomialCounts(t, list, want)
		if want {
			possible++
		}
	}
	if possible < 400 {
		t.Errorf("only %d lists are possible", possible)
	}
}

func TestMonomialCountsRejects(t *testing.T) {
	for length := 1; length <= 7; length++ {
		list := slices.Repeat([]int{1000}, length)
		list[0] = 1
		holdsMonomialCounts(t, list, true)
		for place := range list {
			for _, number := range farNumbers {
				wrong := slices.Clone(list)
				wrong[place] = number
				holdsMonomialCounts(t, wrong, false)
			}
		}
		for _, number := range []int{0, 2, 3, 1000} {
			wrong := slices.Clone(list)
			wrong[0] = number
			holdsMonomialCounts(t, wrong, false)
		}
	}
	for _, length := range []int{0, 8, 9, 63, 64, 65, 1000} {
		for _, number := range []int{0, 1, 1000} {
			list := slices.Repeat([]int{number}, length)
			if length > 0 {
				list[0] = 1
			}
			holdsMonomialCounts(t, list, false)
		}
	}
}

func holdsCount(t *testing.T, n int, d int, want int) {
	t.Helper()
	if got := impl.CountMonomials(n, d); got != want {
		t.Errorf("CountMonomials(%d, %d) = %d, want %d", n, d, got, want)
	}
}

func TestCountMonomialsByHand(t *testing.T) {
	cases := []struct{ n, d, want int }{
		{1, 0, 1}, {2, 0, 1}, {6, 0, 1}, {1, 1, 1}, {1, 5, 1}, {1, 20, 1}, {2, 1, 2}, {6, 1, 6}, {2, 2, 3}, {2, 20, 21}, {3, 2, 6}, {3, 3, 10}, {3, 20, 231}, {4, 2, 10}, {4, 5, 56}, {4, 20, 1771},
		{5, 5, 126}, {5, 20, 10626}, {6, 2, 21}, {6, 5, 252}, {6, 6, 462}, {6, 19, 42504}, {6, 20, 53130},
	}
	for _, c := range cases {
		holdsCount(t, c.n, c.d, c.want)
	}
}

func TestCountMonomialsOfEachDegree(t *testing.T) {
	sums := plainSums()
	for n := -3; n <= 9; n++ {
		for d := -3; d <= 24; d++ {
			want := -1
			if n >= 1 && n <= 6 && d >= 0 && d <= 20 {
				want = sums[n][d]
			}
			holdsCount(t, n, d, want)
		}
	}
}

// neverDegrees are degrees of which nothing is counted.
var neverDegrees = []int{-1, -2, -20, 21, 22, 41, 60, 63, 64, 1000, 1 << 32, 1<<32 + 1, -1 << 32, math.MaxInt - 1, math.MaxInt, math.MinInt, math.MinInt + 1}

func TestCountMonomialsOutOfBounds(t *testing.T) {
	for _, far := range neverCounts {
		for d := range 21 {
			holdsCount(t, far, d, -1)
		}
		for _, other := range neverDegrees {
			holdsCount(t, far, other, -1)
		}
	}
	for _, far := range neverDegrees {
		for n := range 8 {
			holdsCount(t, n, far, -1)
		}
	}
}

func sameLists(a [][]int, b [][]int) bool { return slices.EqualFunc(a, b, slices.Equal[[]int]) }

func holdsMonomials(t *testing.T, n int, d int, want [][]int) {
	t.Helper()
	if got := impl.MonomialsOf(n, d); !sameLists(got, want) {
		t.Errorf("MonomialsOf(%d, %d) = %v, want %v", n, d, got, want)
	}
}

func TestMonomialsByHand(t *testing.T) {
	cases := []struct {
		n, d int
		want [][]int
	}{
		{1, 0, [][]int{{0}}}, {2, 0, [][]int{{0, 0}}}, {3, 0, [][]int{{0, 0, 0}}}, {6, 0, [][]int{{0, 0, 0, 0, 0, 0}}},
		{1, 1, [][]int{{1}}}, {1, 4, [][]int{{4}}}, {1, 5, [][]int{{5}}}, {2, 1, [][]int{{1, 0}, {0, 1}}}, {2, 2, [][]int{{2, 0}, {1, 1}, {0, 2}}},
		{2, 5, [][]int{{5, 0}, {4, 1}, {3, 2}, {2, 3}, {1, 4}, {0, 5}}},
		{3, 1, [][]int{{1, 0, 0}, {0, 1, 0}, {0, 0, 1}}}, {3, 2, [][]int{{2, 0, 0}, {1, 1, 0}, {1, 0, 1}, {0, 2, 0}, {0, 1, 1}, {0, 0, 2}}},
		{3, 3, [][]int{{3, 0, 0}, {2, 1, 0}, {2, 0, 1}, {1, 2, 0}, {1, 1, 1}, {1, 0, 2}, {0, 3, 0}, {0, 2, 1}, {0, 1, 2}, {0, 0, 3}}},
		{4, 2, [][]int{{2, 0, 0, 0}, {1, 1, 0, 0}, {1, 0, 1, 0}, {1, 0, 0, 1}, {0, 2, 0, 0}, {0, 1, 1, 0}, {0, 1, 0, 1}, {0, 0, 2, 0}, {0, 0, 1, 1}, {0, 0, 0, 2}}},
		{6, 1, [][]int{{1, 0, 0, 0, 0, 0}, {0, 1, 0, 0, 0, 0}, {0, 0, 1, 0, 0, 0}, {0, 0, 0, 1, 0, 0}, {0, 0, 0, 0, 1, 0}, {0, 0, 0, 0, 0, 1}}},
		{0, 0, nil}, {0, 1, nil}, {7, 0, nil}, {7, 1, nil}, {-1, 2, nil}, {2, -1, nil}, {2, 6, nil}, {1, 6, nil}, {6, 6, nil}, {1, 20, nil},
	}
	for _, c := range cases {
		holdsMonomials(t, c.n, c.d, c.want)
	}
}

func TestMonomialsOfEachDegree(t *testing.T) {
	for n := -3; n <= 9; n++ {
		for d := -3; d <= 22; d++ {
			var want [][]int
			if n >= 1 && n <= 6 && d >= 0 && d <= 5 {
				want = plainMonomials(n, d)
			}
			holdsMonomials(t, n, d, want)
		}
	}
}

// TestMonomialsAreListedAsManyAsThereAre holds promise 12, and that no two are equal and they descend.
func TestMonomialsAreListedAsManyAsThereAre(t *testing.T) {
	for n := 1; n <= 6; n++ {
		for d := range 6 {
			list := impl.MonomialsOf(n, d)
			holdsCount(t, n, d, len(list))
			first := impl.FirstMonomials(n, d, impl.CountMonomials(n, d))
			if !sameLists(first, list) {
				t.Errorf("FirstMonomials(%d, %d, all) = %v, want %v", n, d, first, list)
			}
			for place, exponents := range list {
				sum := 0
				for _, exponent := range exponents {
					sum += exponent
				}
				if len(exponents) != n || slices.Min(exponents) < 0 || sum != d {
					t.Errorf("MonomialsOf(%d, %d) has %v", n, d, exponents)
				}
				if place > 0 && slices.Compare(list[place-1], exponents) != 1 {
					t.Errorf("MonomialsOf(%d, %d) has %v before %v", n, d, list[place-1], exponents)
				}
			}
		}
	}
}

func TestMonomialsOutOfBounds(t *testing.T) {
	for _, far := range append(slices.Clone(neverDegrees), 6, 7, 19, 20) {
		for n := range 8 {
			holdsMonomials(t, n, far, nil)
			holdsFirstMonomials(t, n, far, 0, nil)
			holdsFirstMonomials(t, n, far, 1, nil)
		}
	}
	for _, far := range neverCounts {
		for d := range 6 {
			holdsMonomials(t, far, d, nil)
			holdsFirstMonomials(t, far, d, 0, nil)
			holdsFirstMonomials(t, far, d, 1, nil)
		}
		for _, other := range neverDegrees {
			holdsMonomials(t, far, other, nil)
			holdsFirstMonomials(t, far, other, 0, nil)
		}
	}
}

func holdsFirstMonomials(t *testing.T, n int, d int, m int, want [][]int) {
	t.Helper()
	if got := impl.FirstMonomials(n, d, m); !sameLists(got, want) {
		t.Errorf("FirstMonomials(%d, %d, %d) = %v, want %v", n, d, m, got, want)
	}
}

func TestFirstMonomialsByHand(t *testing.T) {
	cases := []struct {
		n, d, m int
		want    [][]int
	}{
		{2, 2, 0, nil}, {2, 2, 1, [][]int{{2, 0}}}, {2, 2, 2, [][]int{{2, 0}, {1, 1}}}, {2, 2, 3, [][]int{{2, 0}, {1, 1}, {0, 2}}}, {2, 2, 4, nil}, {2, 2, -1, nil},
		{1, 0, 0, nil}, {1, 0, 1, [][]int{{0}}}, {1, 0, 2, nil}, {6, 0, 1, [][]int{{0, 0, 0, 0, 0, 0}}}, {6, 0, 2, nil}, {1, 5, 1, [][]int{{5}}}, {1, 5, 2, nil},
		{3, 5, 4, [][]int{{5, 0, 0}, {4, 1, 0}, {4, 0, 1}, {3, 2, 0}}}, {6, 5, 2, [][]int{{5, 0, 0, 0, 0, 0}, {4, 1, 0, 0, 0, 0}}}, {6, 5, 253, nil}, {6, 6, 1, nil}, {7, 1, 1, nil}, {0, 0, 1, nil}, {0, 0, 0, nil},
	}
	for _, c := range cases {
		holdsFirstMonomials(t, c.n, c.d, c.m, c.want)
	}
}

func TestFirstMonomialsOfEachNumber(t *testing.T) {
	for n := 1; n <= 6; n++ {
		for d := range 6 {
			all := plainMonomials(n, d)
			for m := -3; m <= len(all)+3; m++ {
				var want [][]int
				if m >= 0 && m <= len(all) {
					want = all[:m]
				}
				holdsFirstMonomials(t, n, d, m, want)
			}
			for _, far := range farNumbers {
				holdsFirstMonomials(t, n, d, far, nil)
			}
		}
	}
}

func TestMonomialCountsLeaveTheirLists(t *testing.T) {
	lists := [][]int{nil, {}, {1}, {1, 0}, {1, 3, 6}, {1, 3, 7}, {2, 1}, {1, -1}, {1, 1001}, {1, 2, 3, 4, 5, 6, 7}, slices.Repeat([]int{1}, 9)}
	for _, list := range lists {
		front, whole := withSpareCapacity(list)
		before := slices.Clone(whole)
		want := impl.AreMonomialCounts(front)
		if !slices.Equal(whole, before) {
			t.Errorf("%v has become %v", before, whole)
		}
		if again := impl.AreMonomialCounts(front); again != want {
			t.Errorf("AreMonomialCounts(%v) is %v, then %v", list, want, again)
		}
	}
}

// holdsApart lengthens each list and writes over it: neither the others nor the next result may show it.
func holdsApart(t *testing.T, name string, produce func() [][]int) {
	t.Helper()
	want := produce()
	lists := produce()
	for place, list := range lists {
		longer := append(list, -9, -9, -9, -9, -9, -9, -9, -9)
		for i := range longer {
			longer[i] = -9
		}
		for i := range list {
			list[i] = -9
		}
		for later := place + 1; later < len(lists); later++ {
			if !slices.Equal(lists[later], want[later]) {
				t.Errorf("%s: %v became %v", name, want[later], lists[later])
			}
		}
	}
	_ = append(lists, []int{-9}, []int{-9})
	if again := produce(); !sameLists(again, want) {
		t.Errorf("%s: %v, then %v", name, want, again)
	}
}

func TestMonomialResultsAreNewMemory(t *testing.T) {
	for n := 1; n <= 6; n++ {
		for _, d := range []int{0, 1, 2, 5} {
			holdsApart(t, "MonomialsOf", func() [][]int { return impl.MonomialsOf(n, d) })
			for _, m := range []int{0, 1, 2} {
				holdsApart(t, "FirstMonomials", func() [][]int { return impl.FirstMonomials(n, d, m) })
			}
		}
	}
}

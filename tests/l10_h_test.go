package tests

import (
	"fmt"
	"math"
	"slices"
	"testing"

	"loop.example/g03100/impl"
)

// plainTriangle has the rows 0 to n of Pascal's triangle, by sums alone.
func plainTriangle(n int) [][]int {
	rows := [][]int{{1}}
	for range n {
		row := rows[len(rows)-1]
		next := []int{1}
		for i := range len(row) - 1 {
			next = append(next, row[i]+row[i+1])
		}
		rows = append(rows, append(next, 1))
	}
	return rows
}

// plainTimes multiplies polynomials; a list has the coefficients from the power 0 on.
func plainTimes(a []int, b []int) []int {
	product := make([]int, len(a)+len(b)-1)
	for i, x := range a {
		for j, y := range b {
			product[i+j] += x * y
		}
	}
	return product
}

// plainSpread adds up, for each number with the index i, the number times the power i of x times the power d - i of 1 + sign x.
func plainSpread(list []int, sign int) []int {
	sum := make([]int, len(list))
	for i, number := range list {
		term := []int{number}
		for range i {
			term = plainTimes(term, []int{0, 1})
		}
		for range len(list) - 1 - i {
			term = plainTimes(term, []int{1, sign})
		}
		for k, x := range term {
			sum[k] += x
		}
	}
	return sum
}

func plainH(c impl.Complex) []int { return plainSpread(plainNumbersOf(c).counts, -1) }

func TestChooseIsPascalsTriangle(t *testing.T) {
	for n, row := range plainTriangle(60) {
		for k, want := range row {
			if got := impl.Choose(n, k); got != want {
				t.Errorf("Choose(%d, %d) = %d, want %d", n, k, got, want)
			}
		}
	}
}

func TestChooseByHand(t *testing.T) {
	cases := []struct{ n, k, want int }{
		// None of some things, all of them, and all but one.
		{0, 0, 1}, {1, 0, 1}, {1, 1, 1}, {2, 1, 2}, {5, 0, 1}, {5, 5, 1}, {5, 4, 5}, {60, 0, 1}, {60, 60, 1}, {60, 1, 60}, {60, 59, 60},
		{5, 2, 10}, {6, 3, 20}, {7, 3, 35}, {10, 4, 210}, {20, 10, 184756}, {52, 5, 2598960}, {60, 30, 118264581564861424}, {60, 29, 114449595062769120},
	}
	for _, c := range cases {
		if got := impl.Choose(c.n, c.k); got != c.want {
			t.Errorf("Choose(%d, %d) = %d, want %d", c.n, c.k, got, c.want)
		}
	}
}

func TestChooseOutOfBounds(t *testing.T) {
	far := []int{math.MinInt, math.MinInt + 1, -1 << 32, -61, -60, -7, -2, -1, 61, 62, 63, 64, 100, 1000, 1 << 32, 1<<32 + 1, math.MaxInt - 1, math.MaxInt}
	for _, number := range far {
		for k := -3; k <= 64; k++ {
			if got := impl.Choose(number, k); got != 0 {
				t.Errorf("Choose(%d, %d) = %d, want 0", number, k, got)
			}
		}
		for n := 0; n <= 60; n++ {
			if got := impl.Choose(n, number); got != 0 {
				t.Errorf("Choose(%d, %d) = %d, want 0", n, number, got)
			}
		}
		for _, other := range far {
			if got := impl.Choose(number, other); got != 0 {
				t.Errorf("Choose(%d, %d) = %d, want 0", number, other, got)
			}
		}
	}
	for n := 0; n <= 60; n++ {
		for k := n + 1; k <= 62; k++ {
			if got := impl.Choose(n, k); got != 0 {
				t.Errorf("Choose(%d, %d) = %d, want 0", n, k, got)
			}
		}
	}
}

// wantH is what chapter 10 says of a complex.
type wantH struct {
	h, g      []int
	symmetric bool
	top       int
}

func holdsH(t *testing.T, c impl.Complex, want wantH) {
	t.Helper()
	if got := impl.HNumbers(c); !slices.Equal(got, want.h) {
		t.Errorf("HNumbers(%v) = %v, want %v", c, got, want.h)
	}
	if got := impl.GNumbers(c); !slices.Equal(got, want.g) {
		t.Errorf("GNumbers(%v) = %v, want %v", c, got, want.g)
	}
	if got := impl.IsSymmetricH(c); got != want.symmetric {
		t.Errorf("IsSymmetricH(%v) = %v", c, got)
	}
	if got := impl.TopH(c); got != want.top {
		t.Errorf("TopH(%v) = %d, want %d", c, got, want.top)
	}
}

func TestHByHand(t *testing.T) {
	cases := []struct {
		c    string
		want wantH
	}{
		// No faces at all, the empty set alone, and one point.
		{"1:", wantH{}}, {"3:", wantH{}}, {"6:", wantH{}},
		{"1:-", wantH{[]int{1}, []int{1}, true, 1}}, {"3:-", wantH{[]int{1}, []int{1}, true, 1}}, {"6:-", wantH{[]int{1}, []int{1}, true, 1}},
		{"1:a", wantH{[]int{1, 0}, []int{1}, false, 0}}, {"6:f", wantH{[]int{1, 0}, []int{1}, false, 0}},
		// Points and pairs.
		{"2:a,b", wantH{[]int{1, 1}, []int{1}, true, 1}}, {"6:b,d", wantH{[]int{1, 1}, []int{1}, true, 1}}, {"6:a,b,c,d,e,f", wantH{[]int{1, 5}, []int{1}, false, 5}},
		{"3:ab,ac,bc", wantH{[]int{1, 1, 1}, []int{1, 0}, true, 1}}, {"4:ac,bc,ad,bd", wantH{[]int{1, 2, 1}, []int{1, 1}, true, 1}},
		{"5:ab,bc,cd,ae,de", wantH{[]int{1, 3, 1}, []int{1, 2}, true, 1}}, {"4:ab,bc,cd", wantH{[]int{1, 2, 0}, []int{1, 1}, false, 0}},
		{"4:ab,ac,bc,ad,bd,cd", wantH{[]int{1, 2, 3}, []int{1, 1}, false, 3}}, {"6:ab,cd,ef", wantH{[]int{1, 4, -2}, []int{1, 3}, false, -2}},
		// Larger facets, all of one size.
		{"4:abc,abd,acd,bcd", wantH{[]int{1, 1, 1, 1}, []int{1, 0}, true, 1}}, {"5:abc,cde", wantH{[]int{1, 2, -1, 0}, []int{1, 1}, false, 0}},
		{"6:ace,bce,ade,bde,acf,bcf,adf,bdf", wantH{[]int{1, 3, 3, 1}, []int{1, 2}, true, 1}},
		{"6:acd,bcd,abe,ace,bde,abf,bcf,adf,cef,def", wantH{[]int{1, 3, 6, 0}, []int{1, 2}, false, 0}},
		{"6:abc,def", wantH{[]int{1, 3, -3, 1}, []int{1, 2}, false, 1}}, {"6:abcd,abef", wantH{[]int{1, 2, -1, 0, 0}, []int{1, 1, -3}, false, 0}},
		// Complexes that are not pure.
		{"3:c,ab", wantH{[]int{1, 1, -1}, []int{1, 0}, false, -1}}, {"6:f,de,abc", wantH{[]int{1, 3, -5, 2}, []int{1, 2}, false, 2}},
		{"6:f,abcde", wantH{[]int{1, 1, -4, 6, -4, 1}, []int{1, 0, -5}, false, 1}},
		// All sets, and all but the one of all points.
		{"2:ab", wantH{[]int{1, 0, 0}, []int{1, -1}, false, 0}}, {"6:abcdef", wantH{[]int{1, 0, 0, 0, 0, 0, 0}, []int{1, -1, 0, 0}, false, 0}},
		{"6:abcde,abcdf,abcef,abdef,acdef,bcdef", wantH{[]int{1, 1, 1, 1, 1, 1}, []int{1, 0, 0}, true, 1}},
	}
	for _, c := range cases {
		holdsH(t, readComplex(t, c.c), c.want)
	}
}

// TestHOfFullAndBorderComplexes knows that a full complex has a 1 and zeros, and its border only ones.
func TestHOfFullAndBorderComplexes(t *testing.T) {
	for n := 1; n <= 6; n++ {
		full, _ := impl.FullComplex(n)
		want := wantH{h: append([]int{1}, make([]int, n)...), g: []int{1}}
		if n > 1 {
			want.g = append([]int{1, -1}, make([]int, n/2-1)...)
		}
		holdsH(t, full, want)
		border, _ := impl.BorderComplex(n)
		holdsH(t, border, wantH{slices.Repeat([]int{1}, n), append([]int{1}, make([]int, (n-1)/2)...), true, 1})
	}
}

func plainHOf(c impl.Complex) wantH {
	h := plainH(c)
	want := wantH{h: h, symmetric: len(h) > 0}
	for i := range h {
		want.symmetric = want.symmetric && h[i] == h[len(h)-1-i]
		want.top = h[i]
	}
	// Half of the numbers and the one in the middle; the number before the first one is 0.
	before := 0
	for i := 0; 2*i < len(h); i++ {
		want.g = append(want.g, h[i]-before)
		before = h[i]
	}
	return want
}

func TestHOfSomeComplexes(t *testing.T) {
	symmetric, negative := 0, 0
	for _, c := range someComplexes() {
		want := plainHOf(c)
		holdsH(t, c, want)
		if want.symmetric {
			symmetric++
		}
		if slices.ContainsFunc(want.h, func(number int) bool { return number < 0 }) {
			negative++
		}
	}
	if symmetric < 20 || negative < 20 {
		t.Errorf("%d complexes with symmetric and %d with negative h numbers", symmetric, negative)
	}
}

// TestTopHIsTheEulerNumber holds what the chapter says in brackets, for odd and for even d.
func TestTopHIsTheEulerNumber(t *testing.T) {
	for _, c := range someComplexes() {
		want := impl.EulerOf(c)
		if impl.DimOf(c)%2 != 0 {
			want = -want
		}
		if got := impl.TopH(c); got != want {
			t.Errorf("TopH(%v) = %d, EulerOf is %d", c, got, impl.EulerOf(c))
		}
	}
}

// TestHOfJoins knows that the h numbers of a join are those of the product of polynomials.
func TestHOfJoins(t *testing.T) {
	list := append(allComplexes(1), append(allComplexes(2), allComplexes(3)...)...)
	for _, a := range list {
		for _, b := range list {
			join, ok := impl.JoinOf(a, b)
			if !ok || len(a.Facets) == 0 || len(b.Facets) == 0 {
				continue
			}
			if got, want := impl.HNumbers(join), plainTimes(impl.HNumbers(a), impl.HNumbers(b)); !slices.Equal(got, want) {
				t.Errorf("HNumbers(%v) = %v, want %v, as %v joined with %v", join, got, want, a, b)
			}
		}
	}
}

// TestCountsAndHTellEachOther holds promise 10.
func TestCountsAndHTellEachOther(t *testing.T) {
	hOf, countsOf := map[string]string{}, map[string]string{}
	for _, c := range someComplexes() {
		counts, h := impl.FaceCounts(c), impl.HNumbers(c)
		if got := impl.CountsFromH(h); !slices.Equal(got, counts) {
			t.Errorf("CountsFromH(%v) = %v, want %v, the counts of %v", h, got, counts, c)
		}
		countsText, hText := fmt.Sprint(counts), fmt.Sprint(h)
		if other, found := hOf[countsText]; found && other != hText {
			t.Errorf("%v has the counts %s with the h numbers %s and %s", c, countsText, hText, other)
		}
		if other, found := countsOf[hText]; found && other != countsText {
			t.Errorf("%v has the h numbers %s with the counts %s and %s", c, hText, countsText, other)
		}
		hOf[countsText], countsOf[hText] = hText, countsText
	}
}

func holdsCountsFromH(t *testing.T, h []int, want []int) {
	t.Helper()
	if got := impl.CountsFromH(h); !slices.Equal(got, want) {
		t.Errorf("CountsFromH(%v) = %v, want %v", h, got, want)
	}
}

func TestCountsFromHByHand(t *testing.T) {
	cases := []struct{ h, want []int }{
		{[]int{1}, []int{1}}, {[]int{0}, []int{0}}, {[]int{-3}, []int{-3}}, {[]int{1, 0}, []int{1, 1}}, {[]int{1, 1}, []int{1, 2}}, {[]int{1, -1}, []int{1, 0}},
		{[]int{1, 1, -1}, []int{1, 3, 1}}, {[]int{1, 4, -2}, []int{1, 6, 3}}, {[]int{1, 1, 1, 1}, []int{1, 4, 6, 4}}, {[]int{1, 2, -1, 0}, []int{1, 5, 6, 2}},
		{[]int{1, 3, 6, 0}, []int{1, 6, 15, 10}}, {[]int{1, 1, -4, 6, -4, 1}, []int{1, 6, 10, 10, 5, 1}}, {[]int{1, 0, 0, 0, 0, 0, 0}, []int{1, 6, 15, 20, 15, 6, 1}},
		// Numbers that no complex has.
		{[]int{0, 0, 0}, []int{0, 0, 0}}, {[]int{0, 0, 5}, []int{0, 0, 5}}, {[]int{2, -1}, []int{2, 1}}, {[]int{-1, 3, -3, 1}, []int{-1, 0, 0, 0}},
		// Numbers at the bounds.
		{[]int{1000}, []int{1000}}, {[]int{-1000}, []int{-1000}}, {[]int{1000, -1000}, []int{1000, 0}}, {[]int{-1000, -1000, 1000}, []int{-1000, -3000, -1000}},
		{slices.Repeat([]int{1000}, 7), []int{1000, 7000, 21000, 35000, 35000, 21000, 7000}},
		{slices.Repeat([]int{-1000}, 7), []int{-1000, -7000, -21000, -35000, -35000, -21000, -7000}},
		{[]int{999, -999, 999, -999}, []int{999, 1998, 1998, 0}},
	}
	for _, c := range cases {
		holdsCountsFromH(t, c.h, c.want)
	}
}

// TestCountsFromHOfAnyNumbers also goes back to the numbers with which it began.
func TestCountsFromHOfAnyNumbers(t *testing.T) {
	numbers := []int{1, 0, -1, 7, 1000, -1000, 2, -13, 999, -999, 5, 100, -3}
	for length := 1; length <= 7; length++ {
		for start := range numbers {
			for step := 1; step <= 5; step++ {
				var h []int
				for i := range length {
					h = append(h, numbers[(start+i*step)%len(numbers)])
				}
				holdsCountsFromH(t, h, plainSpread(h, 1))
				if back := plainSpread(impl.CountsFromH(h), -1); !slices.Equal(back, h) {
					t.Errorf("CountsFromH(%v) = %v, from which %v follows", h, impl.CountsFromH(h), back)
				}
			}
		}
	}
}

func TestCountsFromHRejects(t *testing.T) {
	far := []int{1001, -1001, 1002, -1002, 10000, 1 << 32, 1<<32 + 1, -1 << 32, math.MaxInt, math.MaxInt - 1, math.MinInt, math.MinInt + 1}
	for length := 1; length <= 7; length++ {
		for place := range length {
			for _, number := range far {
				h := append([]int{1}, make([]int, length-1)...)
				h[place] = number
				holdsCountsFromH(t, h, nil)
			}
			for _, number := range []int{1000, -1000} {
				h := append([]int{1}, make([]int, length-1)...)
				h[place] = number
				holdsCountsFromH(t, h, plainSpread(h, 1))
			}
		}
	}
	for _, length := range []int{0, 8, 9, 10, 63, 64, 65, 1000} {
		holdsCountsFromH(t, make([]int, length), nil)
		holdsCountsFromH(t, slices.Repeat([]int{1}, length), nil)
	}
	holdsCountsFromH(t, nil, nil)
}

func TestHOfValuesThatAreNoComplex(t *testing.T) {
	for _, c := range append(noComplexes(), impl.Complex{}) {
		holdsH(t, c, wantH{})
	}
}

func TestHFunctionsLeaveTheirLists(t *testing.T) {
	for _, c := range append(someComplexes(), noComplexes()...) {
		front, whole := withSpareCapacity(c.Facets)
		before := slices.Clone(whole)
		taken := complexOf(c.Points, front...)
		h, allH := withSpareCapacity(impl.HNumbers(c))
		hBefore := slices.Clone(allH)
		for _, got := range [][]int{impl.HNumbers(taken), impl.GNumbers(taken), impl.CountsFromH(h)} {
			for i := range got {
				got[i] = -9
			}
			_ = append(got, -9, -9, -9, -9, -9, -9, -9, -9)
		}
		impl.IsSymmetricH(taken)
		impl.TopH(taken)
		if !slices.Equal(whole, before) || !slices.Equal(allH, hBefore) {
			t.Errorf("%v and %v have become %v and %v", before, hBefore, whole, allH)
		}
	}
}

func TestHResultsAreNewMemory(t *testing.T) {
	c, h := complexOf(5, 7, 28), []int{1, 2, -1, 0}
	holdsNewMemory(t, map[string]func() []int{
		"HNumbers":           func() []int { return impl.HNumbers(c) },
		"GNumbers":           func() []int { return impl.GNumbers(c) },
		"CountsFromH":        func() []int { return impl.CountsFromH(h) },
		"CountsFromH of one": func() []int { return impl.CountsFromH([]int{1}) },
	})
}

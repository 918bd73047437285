package tests

import (
	"math"
	"slices"
	"testing"

	"loop.example/g03100/impl"
)

// neverSizes are numbers that no set has as its size.
var neverSizes = []int{-1, -2, -6, -64, 7, 8, 63, 64, 65, 1 << 32, 1<<32 + 1, -1 << 32, math.MaxInt, math.MinInt, math.MinInt + 1}

// plainNumbers is what chapter 4 says of a complex, aside from a size and a set that are asked for.
type plainNumbers struct {
	dim     int
	counts  []int
	euler   int
	pure    bool
	used    int
	simplex bool
}

// plainNumbersOf counts among all faces, facets among them, and takes no size from the order of Facets.
func plainNumbersOf(c impl.Complex) plainNumbers {
	faces := plainFaces(c.Facets)
	want := plainNumbers{dim: -2, pure: true}
	for _, face := range faces {
		size := len(plainPoints(face))
		want.dim = max(want.dim, size-1)
		want.euler -= []int{1, -1}[size%2]
	}
	for size := range want.dim + 2 {
		want.counts = append(want.counts, len(plainOfSize(faces, size)))
	}
	for _, point := range []int{1, 2, 4, 8, 16, 32} {
		if slices.Contains(faces, point) {
			want.used += point
		}
	}
	facets := 0
	for _, face := range faces {
		if plainDegree(faces, face) == 1 {
			facets++
			want.pure = want.pure && len(plainPoints(face)) == want.dim+1
		}
	}
	want.simplex = facets == 1
	return want
}

func plainOfSize(sets []int, size int) []int {
	return listed(sets, func(s int) bool { return len(plainPoints(s)) == size })
}

// plainDegree is the number of sets of the list that contain s.
func plainDegree(sets []int, s int) int {
	return len(listed(sets, func(other int) bool { return plainSubset(s, other) }))
}

func holdsNumbers(t *testing.T, c impl.Complex, want plainNumbers) {
	t.Helper()
	if got := impl.DimOf(c); got != want.dim {
		t.Errorf("DimOf(%v) = %d, want %d", c, got, want.dim)
	}
	if got := impl.FaceCounts(c); !slices.Equal(got, want.counts) {
		t.Errorf("FaceCounts(%v) = %v, want %v", c, got, want.counts)
	}
	if got := impl.EulerOf(c); got != want.euler {
		t.Errorf("EulerOf(%v) = %d, want %d", c, got, want.euler)
	}
	if got := impl.IsPure(c); got != want.pure {
		t.Errorf("IsPure(%v) = %v", c, got)
	}
	if got := impl.UsedPoints(c); got != want.used {
		t.Errorf("UsedPoints(%v) = %d, want %d", c, got, want.used)
	}
	if got := impl.IsSimplex(c); got != want.simplex {
		t.Errorf("IsSimplex(%v) = %v", c, got)
	}
}

func TestCountsByHand(t *testing.T) {
	cases := []struct {
		text string
		want plainNumbers
	}{
		{"1:", plainNumbers{-2, nil, 0, true, 0, false}},
		{"6:", plainNumbers{-2, nil, 0, true, 0, false}},
		{"1:-", plainNumbers{-1, []int{1}, -1, true, 0, true}},
		{"6:-", plainNumbers{-1, []int{1}, -1, true, 0, true}},
		{"1:a", plainNumbers{0, []int{1, 1}, 0, true, 1, true}},
		{"6:a", plainNumbers{0, []int{1, 1}, 0, true, 1, true}},
		{"6:f", plainNumbers{0, []int{1, 1}, 0, true, 32, true}},
		{"6:b,d", plainNumbers{0, []int{1, 2}, 1, true, 10, false}},
		{"6:a,b,c,d,e,f", plainNumbers{0, []int{1, 6}, 5, true, 63, false}},
		{"2:ab", plainNumbers{1, []int{1, 2, 1}, 0, true, 3, true}},
		{"3:c,ab", plainNumbers{1, []int{1, 3, 1}, 1, false, 7, false}},
		{"3:ab,ac,bc", plainNumbers{1, []int{1, 3, 3}, -1, true, 7, false}},
		{"5:ab,ad,bd", plainNumbers{1, []int{1, 3, 3}, -1, true, 11, false}},
		{"5:ab,bc,cd,ae,de", plainNumbers{1, []int{1, 5, 5}, -1, true, 31, false}},
		{"6:ab,cd,ef", plainNumbers{1, []int{1, 6, 3}, 2, true, 63, false}},
		{"4:abc,abd,acd,bcd", plainNumbers{2, []int{1, 4, 6, 4}, 1, true, 15, false}},
		{"5:abc,cde", plainNumbers{2, []int{1, 5, 6, 2}, 0, true, 31, false}},
		{"6:f,de,abc", plainNumbers{2, []int{1, 6, 4, 1}, 2, false, 63, false}},
		{"6:bc,de,acf", plainNumbers{2, []int{1, 6, 5, 1}, 1, false, 63, false}},
		{"6:acd,bcd,abe,ace,bde,abf,bcf,adf,cef,def", plainNumbers{2, []int{1, 6, 15, 10}, 0, true, 63, false}},
		{"6:f,abcde", plainNumbers{4, []int{1, 6, 10, 10, 5, 1}, 1, false, 63, false}},
		{"6:abcde,abcdf,abcef,abdef,acdef,bcdef", plainNumbers{4, []int{1, 6, 15, 20, 15, 6}, 1, true, 63, false}},
		{"6:abcdef", plainNumbers{5, []int{1, 6, 15, 20, 15, 6, 1}, 0, true, 63, true}},
	}
	for _, c := range cases {
		made, ok := impl.ParseComplex(c.text)
		if !ok {
			t.Errorf("ParseComplex(%q) fails", c.text)
			continue
		}
		holdsNumbers(t, made, c.want)
	}
}

func TestCountsOfSomeComplexes(t *testing.T) {
	for _, c := range someComplexes() {
		holdsNumbers(t, c, plainNumbersOf(c))
	}
}

// TestCountsOfFullAndBorderComplexes knows the counts as rows of Pascal's triangle.
func TestCountsOfFullAndBorderComplexes(t *testing.T) {
	row := []int{1}
	for n := 1; n <= 6; n++ {
		next := []int{1}
		for i := range row[1:] {
			next = append(next, row[i]+row[i+1])
		}
		row = append(next, 1)
		full, _ := impl.FullComplex(n)
		holdsNumbers(t, full, plainNumbers{n - 1, row, 0, true, 1<<n - 1, true})
		border, _ := impl.BorderComplex(n)
		euler, used := []int{1, -1}[n%2], 1<<n-1
		if n == 1 {
			used = 0
		}
		holdsNumbers(t, border, plainNumbers{n - 2, row[:n], euler, true, used, n == 1})
	}
}

// TestFacesAreCountedBySize holds promise 4: every face is in the list of one size, which is as long as its count.
func TestFacesAreCountedBySize(t *testing.T) {
	for _, c := range someComplexes() {
		counts := impl.FaceCounts(c)
		if len(counts) != impl.DimOf(c)+2 {
			t.Errorf("FaceCounts(%v) has %d numbers, DimOf is %d", c, len(counts), impl.DimOf(c))
		}
		var together []int
		for size := range 7 {
			faces := impl.FacesOfSize(c, size)
			together = append(together, faces...)
			if size < len(counts) && counts[size] != len(faces) || size >= len(counts) && len(faces) != 0 {
				t.Errorf("%v has the counts %v and the faces %v of size %d", c, counts, faces, size)
			}
		}
		if faces := impl.FacesOf(c); !slices.Equal(together, faces) {
			t.Errorf("%v has the faces %v, by size %v", c, faces, together)
		}
	}
}

func TestFacesOfSize(t *testing.T) {
	for _, c := range someComplexes() {
		faces := plainFaces(c.Facets)
		for size := range 7 {
			want := plainOfSize(faces, size)
			if got := impl.FacesOfSize(c, size); !slices.Equal(got, want) {
				t.Errorf("FacesOfSize(%v, %d) = %v, want %v", c, size, got, want)
			}
		}
		for _, size := range neverSizes {
			if got := impl.FacesOfSize(c, size); len(got) != 0 {
				t.Errorf("FacesOfSize(%v, %d) = %v, want none", c, size, got)
			}
		}
	}
}

func TestFacesOfSizeByHand(t *testing.T) {
	cases := []struct {
		c    impl.Complex
		size int
		want []int
	}{
		{complexOf(1), 0, nil}, {complexOf(6), 0, nil}, {complexOf(6), 1, nil},
		{complexOf(1, 0), 0, []int{0}}, {complexOf(1, 0), 1, nil}, {complexOf(6, 0), 0, []int{0}}, {complexOf(6, 0), 6, nil},
		{complexOf(3, 4, 3), 0, []int{0}}, {complexOf(3, 4, 3), 1, []int{1, 2, 4}}, {complexOf(3, 4, 3), 2, []int{3}}, {complexOf(3, 4, 3), 3, nil},
		{complexOf(5, 7, 28), 2, []int{3, 5, 6, 12, 20, 24}}, {complexOf(5, 7, 28), 3, []int{7, 28}}, {complexOf(5, 7, 28), 4, nil},
		{complexOf(6, 63), 1, []int{1, 2, 4, 8, 16, 32}}, {complexOf(6, 63), 5, []int{31, 47, 55, 59, 61, 62}}, {complexOf(6, 63), 6, []int{63}},
	}
	for _, c := range cases {
		if got := impl.FacesOfSize(c.c, c.size); !slices.Equal(got, c.want) {
			t.Errorf("FacesOfSize(%v, %d) = %v, want %v", c.c, c.size, got, c.want)
		}
	}
}

func TestDegreeOf(t *testing.T) {
	for _, c := range someComplexes() {
		for s := range 64 {
			if got, want := impl.DegreeOf(c, s), plainDegree(c.Facets, s); got != want {
				t.Errorf("DegreeOf(%v, %d) = %d, want %d", c, s, got, want)
			}
		}
		for _, bad := range neverSets {
			if got := impl.DegreeOf(c, bad); got != -1 {
				t.Errorf("DegreeOf(%v, %d) = %d, want -1", c, bad, got)
			}
		}
	}
}

func TestDegreeOfByHand(t *testing.T) {
	cases := []struct {
		c    impl.Complex
		s    int
		want int
	}{
		{complexOf(1), 0, 0}, {complexOf(6), 0, 0}, {complexOf(6), 63, 0},
		{complexOf(1, 0), 0, 1}, {complexOf(1, 0), 1, 0}, {complexOf(6, 0), 0, 1}, {complexOf(6, 0), 32, 0},
		{complexOf(5, 7, 28), 0, 2}, {complexOf(5, 7, 28), 4, 2}, {complexOf(5, 7, 28), 1, 1}, {complexOf(5, 7, 28), 24, 1},
		{complexOf(5, 7, 28), 7, 1}, {complexOf(5, 7, 28), 9, 0}, {complexOf(5, 7, 28), 31, 0}, {complexOf(5, 7, 28), 32, 0},
		{complexOf(5, 7, 28), 63, 0}, {complexOf(5, 7, 28), -1, -1}, {complexOf(5, 7, 28), 64, -1},
		{complexOf(4, 7, 11, 13, 14), 0, 4}, {complexOf(4, 7, 11, 13, 14), 8, 3}, {complexOf(4, 7, 11, 13, 14), 12, 2},
		{complexOf(4, 7, 11, 13, 14), 15, 0}, {complexOf(6, 63), 63, 1},
	}
	for _, c := range cases {
		if got := impl.DegreeOf(c.c, c.s); got != c.want {
			t.Errorf("DegreeOf(%v, %d) = %d, want %d", c.c, c.s, got, c.want)
		}
	}
}

func TestCountsOfValuesThatAreNoComplex(t *testing.T) {
	for _, c := range append(noComplexes(), impl.Complex{}) {
		holdsNumbers(t, c, plainNumbers{dim: -2})
		for _, size := range append([]int{0, 1, 2, 3, 4, 5, 6}, neverSizes...) {
			if got := impl.FacesOfSize(c, size); len(got) != 0 {
				t.Errorf("FacesOfSize(%v, %d) = %v, want none", c, size, got)
			}
		}
		for _, s := range append(plainOrder(), neverSets...) {
			if got := impl.DegreeOf(c, s); got != -1 {
				t.Errorf("DegreeOf(%v, %d) = %d, want -1", c, s, got)
			}
		}
	}
}

func TestCountFunctionsLeaveTheirLists(t *testing.T) {
	for _, c := range append(someComplexes(), noComplexes()...) {
		front, whole := withSpareCapacity(c.Facets)
		before := slices.Clone(whole)
		c.Facets = front
		lists := [][]int{impl.FaceCounts(c)}
		for size := range 7 {
			lists = append(lists, impl.FacesOfSize(c, size))
		}
		for _, got := range lists {
			for i := range got {
				got[i] = -9
			}
			_ = append(got, -9, -9, -9, -9, -9, -9, -9, -9)
		}
		impl.DimOf(c)
		impl.EulerOf(c)
		impl.IsPure(c)
		impl.UsedPoints(c)
		impl.IsSimplex(c)
		impl.DegreeOf(c, 3)
		if !slices.Equal(whole, before) {
			t.Errorf("%v has become %v", before, whole)
		}
	}
}

func TestCountResultsAreNewMemory(t *testing.T) {
	c := complexOf(5, 7, 28)
	lists := map[string]func() []int{
		"FaceCounts":         func() []int { return impl.FaceCounts(c) },
		"FacesOfSize 0":      func() []int { return impl.FacesOfSize(c, 0) },
		"FacesOfSize 2":      func() []int { return impl.FacesOfSize(c, 2) },
		"FacesOfSize facets": func() []int { return impl.FacesOfSize(c, 3) },
	}
	holdsNewMemory(t, lists)
}

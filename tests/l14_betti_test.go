package tests

import (
	"slices"
	"testing"

	"loop.example/g03100/impl"
)

// wantHoles is what chapter 14 says of a complex modulo a prime.
type wantHoles struct {
	holes  []int
	count  int
	none   bool
	sphere bool
}

func holdsHoles(t *testing.T, c impl.Complex, p int, want wantHoles) {
	t.Helper()
	if got := impl.HolesMod(c, p); !slices.Equal(got, want.holes) {
		t.Errorf("HolesMod(%v, %d) = %v, want %v", c, p, got, want.holes)
	}
	if got := impl.CountHoles(c, p); got != want.count {
		t.Errorf("CountHoles(%v, %d) = %d, want %d", c, p, got, want.count)
	}
	if got := impl.HasNoHoles(c, p); got != want.none {
		t.Errorf("HasNoHoles(%v, %d) = %v", c, p, got)
	}
	if got := impl.IsSphereLike(c, p); got != want.sphere {
		t.Errorf("IsSphereLike(%v, %d) = %v", c, p, got)
	}
}

func holdsHolesModEach(t *testing.T, c impl.Complex, want wantHoles) {
	t.Helper()
	for _, p := range fieldPrimes {
		holdsHoles(t, c, p, want)
	}
}

func holdsParts(t *testing.T, c impl.Complex, want int) {
	t.Helper()
	if got := impl.CountParts(c); got != want {
		t.Errorf("CountParts(%v) = %d, want %d", c, got, want)
	}
}

func TestHolesByHand(t *testing.T) {
	none := func(numbers int) wantHoles { return wantHoles{make([]int, numbers), 0, true, false} }
	sphere := func(numbers int) wantHoles {
		return wantHoles{append(make([]int, numbers-1), 1), 1, false, true}
	}
	cases := []struct {
		c     string
		want  wantHoles
		parts int
	}{
		// No faces at all, and the empty set alone, which is a hole of dimension -1.
		{"1:", wantHoles{}, 0}, {"3:", wantHoles{}, 0}, {"6:", wantHoles{}, 0},
		{"1:-", sphere(1), 0}, {"3:-", sphere(1), 0}, {"6:-", sphere(1), 0},
		// One point, and several points without edges.
		{"1:a", none(2), 1}, {"3:b", none(2), 1}, {"6:f", none(2), 1},
		{"2:a,b", sphere(2), 2}, {"6:b,d", sphere(2), 2}, {"3:a,b,c", wantHoles{[]int{0, 2}, 2, false, false}, 3}, {"6:a,b,c,d,e,f", wantHoles{[]int{0, 5}, 5, false, false}, 6},
		// Edges.
		{"2:ab", none(3), 1}, {"6:ce", none(3), 1}, {"4:ab,bc,cd", none(3), 1}, {"6:ab,cd,ef", wantHoles{[]int{0, 2, 0}, 2, false, false}, 3},
		{"3:ab,ac,bc", sphere(3), 1}, {"6:bc,bf,cf", sphere(3), 1}, {"5:ab,bc,cd,ae,de", sphere(3), 1}, {"4:ab,ac,bc,ad,bd,cd", wantHoles{[]int{0, 0, 3}, 3, false, false}, 1},
		{"6:ab,ac,bc,de,df,ef", wantHoles{[]int{0, 1, 2}, 3, false, false}, 2}, {"6:ab,ac,bc,de", wantHoles{[]int{0, 1, 1}, 2, false, false}, 2},
		// Larger facets, all of one size.
		{"3:abc", none(4), 1}, {"5:abc,cde", none(4), 1}, {"6:abc,def", wantHoles{[]int{0, 1, 0, 0}, 1, false, false}, 2}, {"4:abc,abd,acd,bcd", sphere(4), 1},
		{"6:ace,bce,ade,bde,acf,bcf,adf,bdf", sphere(4), 1}, {"5:abc,abe,ade,bcd,cde", wantHoles{[]int{0, 0, 1, 0}, 1, false, false}, 1},
		{"5:abc,abd,acd,bcd,abe,ace,bce", wantHoles{[]int{0, 0, 0, 2}, 2, false, false}, 1}, {"6:abcd,abef", none(5), 1}, {"6:abcdef", none(7), 1},
		// Facets of different sizes, with holes beside, below and in the largest ones.
		{"3:c,ab", wantHoles{[]int{0, 1, 0}, 1, false, false}, 2}, {"6:f,de,abc", wantHoles{[]int{0, 2, 0, 0}, 2, false, false}, 3}, {"6:bc,de,acf", wantHoles{[]int{0, 1, 0, 0}, 1, false, false}, 2},
		{"6:ab,ac,bc,def", wantHoles{[]int{0, 1, 1, 0}, 2, false, false}, 2}, {"6:ae,be,abc,abd,acd,bcd", wantHoles{[]int{0, 0, 1, 1}, 2, false, false}, 1},
		{"6:e,abc,abd,acd,bcd", wantHoles{[]int{0, 1, 0, 1}, 2, false, false}, 2}, {"5:ae,abc,abd,acd,bcd", sphere(4), 1}, {"6:f,abcde", wantHoles{[]int{0, 1, 0, 0, 0, 0}, 1, false, false}, 2},
	}
	for _, c := range cases {
		made := orderedComplex(t, c.c)
		holdsHolesModEach(t, made, c.want)
		holdsParts(t, made, c.parts)
	}
}

// tenTriangles has each pair of its six points in two of its triangles: they close up modulo 2, but modulo no other prime.
const tenTriangles = "6:acd,bcd,abe,ace,bde,abf,bcf,adf,cef,def"

func TestHolesThatDifferFromPrimeToPrime(t *testing.T) {
	c := readComplex(t, tenTriangles)
	for _, names := range append(someNames(6), []int{5, 4, 3, 2, 1, 0}) {
		renamed, _ := impl.RenameComplex(c, names)
		holdsHoles(t, renamed, 2, wantHoles{[]int{0, 0, 1, 1}, 2, false, false})
		holdsHoles(t, renamed, 3, wantHoles{[]int{0, 0, 0, 0}, 0, true, false})
		holdsHoles(t, renamed, 5, wantHoles{[]int{0, 0, 0, 0}, 0, true, false})
		holdsParts(t, renamed, 1)
	}
	// With one triangle less, and with one more, they do not differ.
	holdsHolesModEach(t, readComplex(t, "6:acd,bcd,abe,ace,bde,abf,bcf,adf,cef"), wantHoles{[]int{0, 0, 1, 0}, 1, false, false})
	holdsHolesModEach(t, readComplex(t, "6:abc,acd,bcd,abe,ace,bde,abf,bcf,adf,cef,def"), wantHoles{[]int{0, 0, 0, 1}, 1, false, true})
}

// plainHoles adds one face after the other: it makes a hole if its border is made of those before it, and fills one otherwise.
func plainHoles(c impl.Complex, p int) []int {
	var holes []int
	filled := map[int][64]int{}
	for _, face := range plainFaces(c.Facets) {
		var border [64]int
		points := plainPoints(face)
		for i, point := range points {
			border[face-1<<point] = []int{1, p - 1}[i%2]
		}
		if len(points) == len(holes) {
			holes = append(holes, 0)
		}
		rest, last := lessFilled(border, filled, p)
		if last < 0 {
			holes[len(points)]++
		} else {
			filled[last] = rest
			holes[len(points)-1]--
		}
	}
	return holes
}

// lessFilled adds borders to the one given, each by its last face, and returns what is left, and its last face: -1 if nothing is left.
func lessFilled(border [64]int, filled map[int][64]int, p int) ([64]int, int) {
	for last := 63; last >= 0; last-- {
		other, found := filled[last]
		if border[last] != 0 && !found {
			return border, last
		}
		for border[last] != 0 {
			for s := range border {
				border[s] = (border[s] + other[s]) % p
			}
		}
	}
	return border, -1
}

// plainWantHoles goes through the numbers one by one.
func plainWantHoles(c impl.Complex, p int) wantHoles {
	want := wantHoles{holes: plainHoles(c, p)}
	want.none, want.sphere = len(want.holes) > 0, len(want.holes) > 0
	for i, number := range want.holes {
		want.count += number
		want.none = want.none && number == 0
		if i == len(want.holes)-1 {
			want.sphere = want.sphere && number == 1
		} else {
			want.sphere = want.sphere && number == 0
		}
	}
	return want
}

func TestHolesOfSomeComplexes(t *testing.T) {
	none, spheres, others := 0, 0, 0
	for _, c := range append(partComplexes(), allOfOneMore(allComplexes(3))...) {
		for _, p := range fieldPrimes {
			want := plainWantHoles(c, p)
			holdsHoles(t, c, p, want)
			if want.none {
				none++
			} else if want.sphere {
				spheres++
			} else {
				others++
			}
		}
	}
	if none < 100 || spheres < 100 || others < 100 {
		t.Errorf("%d times no holes, %d times those of a sphere, %d times others", none, spheres, others)
	}
}

func TestHolesOfFullAndBorderComplexes(t *testing.T) {
	for n := 1; n <= 6; n++ {
		full, _ := impl.FullComplex(n)
		holdsHolesModEach(t, full, wantHoles{make([]int, n+1), 0, true, false})
		border, _ := impl.BorderComplex(n)
		holdsHolesModEach(t, border, wantHoles{append(make([]int, n-1), 1), 1, false, true})
	}
}

func TestHolesOfSkeletons(t *testing.T) {
	triangle := plainTriangle(6)
	for n := 1; n <= 6; n++ {
		full, _ := impl.FullComplex(n)
		for size := range n + 1 {
			skeleton, _ := impl.SkeletonOf(full, size)
			want := make([]int, size+1)
			// Each set of this size without the first point tells a hole: the border of the two together.
			if size < n {
				want[size] = triangle[n-1][size]
			}
			for _, p := range fieldPrimes {
				if got := impl.HolesMod(skeleton, p); !slices.Equal(got, want) {
					t.Errorf("HolesMod(%v, %d) = %v, want %v", skeleton, p, got, want)
				}
			}
		}
	}
}

func TestConesHaveNoHoles(t *testing.T) {
	for _, c := range partComplexes() {
		cone, ok := impl.ConeOf(c)
		if !ok || len(c.Facets) == 0 {
			continue
		}
		holdsHolesModEach(t, cone, wantHoles{make([]int, len(impl.HolesMod(c, 2))+1), 0, true, false})
	}
}

// TestHolesOfJoins knows that the holes of a join are those of the product of polynomials.
func TestHolesOfJoins(t *testing.T) {
	for _, pair := range joinPairs() {
		join, _ := impl.JoinOf(pair[0], pair[1])
		if len(join.Facets) == 0 {
			continue
		}
		for _, p := range fieldPrimes {
			want := plainTimes(impl.HolesMod(pair[0], p), impl.HolesMod(pair[1], p))
			if got := impl.HolesMod(join, p); !slices.Equal(got, want) {
				t.Errorf("HolesMod(%v, %d) = %v, want %v, as %v joined with %v", join, p, got, want, pair[0], pair[1])
			}
		}
	}
}

// holesAtSizes has a number for each size from 0 to n - 1, and 0 beyond the list.
func holesAtSizes(c impl.Complex, p int, n int) []int {
	numbers := make([]int, n)
	copy(numbers, impl.HolesMod(c, p))
	return numbers
}

// TestHolesOfTheDual knows that the dual has the same holes in the opposite order.
func TestHolesOfTheDual(t *testing.T) {
	for _, c := range partComplexes() {
		dual, _ := impl.DualOf(c)
		for _, p := range fieldPrimes {
			got, want := holesAtSizes(dual, p, c.Points), holesAtSizes(c, p, c.Points)
			slices.Reverse(want)
			if !slices.Equal(got, want) {
				t.Errorf("%v has the holes %v modulo %d, want %v, as the dual of %v", dual, got, p, want, c)
			}
		}
	}
}

func TestHolesAreCountedForEachSize(t *testing.T) {
	for _, c := range partComplexes() {
		for _, p := range fieldPrimes {
			if got := impl.HolesMod(c, p); len(got) != impl.DimOf(c)+2 {
				t.Errorf("HolesMod(%v, %d) = %v, DimOf is %d", c, p, got, impl.DimOf(c))
			}
		}
	}
}

// TestTheSignedSumOfHolesIsTheEulerNumber holds promise 14.
func TestTheSignedSumOfHolesIsTheEulerNumber(t *testing.T) {
	found := map[int]bool{}
	for i, c := range append(someComplexes(), allOfFivePoints()...) {
		sum := 0
		for size, number := range impl.HolesMod(c, fieldPrimes[i%3]) {
			sum += []int{-number, number}[size%2]
		}
		if sum != impl.EulerOf(c) {
			t.Errorf("the signed sum of HolesMod(%v, %d) is %d, EulerOf is %d", c, fieldPrimes[i%3], sum, impl.EulerOf(c))
		}
		found[sum] = true
	}
	if len(found) < 8 {
		t.Errorf("only %d different sums", len(found))
	}
}

// plainConnected gives each point that is a face the least point that can be reached from it, and counts those that are their own.
func plainConnected(c impl.Complex) int {
	least := map[int]int{}
	for _, facet := range c.Facets {
		for _, point := range plainPoints(facet) {
			least[point] = point
		}
	}
	for range 6 {
		for _, facet := range c.Facets {
			for _, point := range plainPoints(facet) {
				for _, other := range plainPoints(facet) {
					least[point] = min(least[point], least[other])
				}
			}
		}
	}
	parts := 0
	for point, reached := range least {
		if point == reached {
			parts++
		}
	}
	return parts
}

func TestPartsByHand(t *testing.T) {
	cases := []struct {
		c    string
		want int
	}{
		{"1:", 0}, {"6:", 0}, {"1:-", 0}, {"4:-", 0}, {"6:-", 0},
		{"1:a", 1}, {"6:a", 1}, {"6:d", 1}, {"6:ab", 1}, {"6:abcdef", 1}, {"6:ab,bc,cd,de,ef", 1}, {"6:ab,ac,ad,ae,af", 1}, {"6:cd,abe,bcf", 1}, {tenTriangles, 1},
		{"2:a,b", 2}, {"6:a,f", 2}, {"6:f,abcde", 2}, {"6:ab,cf", 2}, {"6:ae,bc,bd,cd", 2}, {"6:acf,bde", 2}, {"6:ad,be,cf,af", 2},
		{"6:ab,cd,ef", 3}, {"6:af,be,cd", 3}, {"6:a,b,c", 3}, {"6:a,c,def", 3}, {"6:b,df", 2}, {"6:a,b,c,d,ef", 5}, {"6:a,b,c,d,e,f", 6}, {"6:a,b,c,d,f", 5},
	}
	for _, c := range cases {
		holdsParts(t, orderedComplex(t, c.c), c.want)
	}
}

func TestPartsOfSomeComplexes(t *testing.T) {
	found := map[int]bool{}
	for _, c := range append(someComplexes(), allOfFivePoints()...) {
		want := plainConnected(c)
		holdsParts(t, c, want)
		found[want] = true
	}
	if len(found) < 7 {
		t.Errorf("only %d different numbers of parts", len(found))
	}
}

// TestPartsOfComplexesSideBySide holds that each side keeps its parts.
func TestPartsOfComplexesSideBySide(t *testing.T) {
	for _, pair := range joinPairs() {
		apart, _ := impl.DisjointOf(pair[0], pair[1])
		holdsParts(t, apart, plainConnected(pair[0])+plainConnected(pair[1]))
	}
}

func TestHolesReject(t *testing.T) {
	for _, c := range append(noComplexes(), impl.Complex{}) {
		for _, p := range append([]int{2, 3, 5}, neverPrimes...) {
			holdsHoles(t, c, p, wantHoles{})
		}
		holdsParts(t, c, 0)
	}
	for _, c := range partComplexes() {
		for _, p := range append(slices.Clone(farNumbers), neverPrimes...) {
			holdsHoles(t, c, p, wantHoles{})
		}
	}
}

func TestHoleFunctionsLeaveTheirLists(t *testing.T) {
	for _, c := range append(partComplexes(), noComplexes()...) {
		front, whole := withSpareCapacity(c.Facets)
		before := slices.Clone(whole)
		taken := complexOf(c.Points, front...)
		for _, p := range []int{2, 3, 5, 4} {
			holes := impl.HolesMod(taken, p)
			for i := range holes {
				holes[i] = -9
			}
			_ = append(holes, -9, -9, -9, -9, -9, -9, -9, -9)
			impl.CountHoles(taken, p)
			impl.HasNoHoles(taken, p)
			impl.IsSphereLike(taken, p)
		}
		impl.CountParts(taken)
		if !slices.Equal(whole, before) {
			t.Errorf("%v has become %v", before, whole)
		}
	}
}

func TestHoleResultsAreNewMemory(t *testing.T) {
	lists := map[string]func() []int{}
	for _, text := range []string{"3:-", "3:a", "6:ab,cd,ef", "5:abc,cde", tenTriangles, "6:abcdef"} {
		c := readComplex(t, text)
		lists["HolesMod 2 of "+text] = func() []int { return impl.HolesMod(c, 2) }
		lists["HolesMod 3 of "+text] = func() []int { return impl.HolesMod(c, 3) }
		lists["HolesMod 5 of "+text] = func() []int { return impl.HolesMod(c, 5) }
	}
	holdsNewMemory(t, lists)
}

package tests

import (
	"math"
	"slices"
	"testing"

	"loop.example/g03100/impl"
)

// plainComplement goes through the points, not through the bits.
func plainComplement(n int, s int) int {
	rest := 0
	for point := range n {
		if !slices.Contains(plainPoints(s), point) {
			rest += []int{1, 2, 4, 8, 16, 32}[point]
		}
	}
	return rest
}

// plainDual asks for each set whether its complement is a face.
func plainDual(c impl.Complex) [64]bool {
	isFace := faceTable(c)
	var dual [64]bool
	for s := range 1 << c.Points {
		dual[s] = !isFace[plainComplement(c.Points, s)]
	}
	return dual
}

func holdsDual(t *testing.T, c impl.Complex, want impl.Complex) {
	t.Helper()
	if got, ok := impl.DualOf(c); !ok || !sameComplex(got, want) {
		t.Errorf("DualOf(%v) = %v, %v, want %v", c, got, ok, want)
	}
	if got := impl.IsSelfDual(c); got != sameComplex(c, want) {
		t.Errorf("IsSelfDual(%v) = %v, and the dual is %v", c, got, want)
	}
}

func TestDualByHand(t *testing.T) {
	cases := []struct{ c, dual string }{
		{"3:c,ab", "3:a,b"},
		{"4:ab,bc,cd", "4:ac,bc,bd"},
		{"4:ac,bc,ad,bd", "4:ab,cd"},
		{"5:ab,bc,cd,ae,de", "5:abd,acd,ace,bce,bde"},
		{"5:abc,cde", "5:acd,bcd,ace,bce"},
		{"6:ace,bce,ade,bde,acf,bcf,adf,bdf", "6:abcd,abef,cdef"},
		// Points that are in no face.
		{"2:b", "2:b"}, {"4:ab", "4:abc,abd"}, {"3:a", "3:ab,ac"}, {"5:ab,bd", "5:bce,abcd,abde"}, {"6:f", "6:abcdf,abcef,abdef,acdef,bcdef"},
		{"6:bcdef", "6:bcdef"}, {"6:abcd", "6:abcde,abcdf"},
		// Complexes that are their own duals.
		{"1:-", "1:-"}, {"2:a", "2:a"}, {"3:a,b,c", "3:a,b,c"}, {"3:ab", "3:ab"}, {"3:bc", "3:bc"}, {"4:abc", "4:abc"}, {"4:d,ab,ac,bc", "4:d,ab,ac,bc"},
		{"5:ab,ac,bc,ad,bd,cd,ae,be,ce,de", "5:ab,ac,bc,ad,bd,cd,ae,be,ce,de"},
		{"6:acd,bcd,abe,ace,bde,abf,bcf,adf,cef,def", "6:acd,bcd,abe,ace,bde,abf,bcf,adf,cef,def"},
		// No faces at all, and all sets.
		{"1:", "1:a"}, {"2:", "2:ab"}, {"3:", "3:abc"}, {"4:", "4:abcd"}, {"5:", "5:abcde"}, {"6:", "6:abcdef"},
		// The empty set alone, and all sets but that of all points.
		{"2:-", "2:a,b"}, {"3:-", "3:ab,ac,bc"}, {"4:-", "4:abc,abd,acd,bcd"}, {"5:-", "5:abcd,abce,abde,acde,bcde"},
		{"6:-", "6:abcde,abcdf,abcef,abdef,acdef,bcdef"},
		// The points alone, and the sets that lack two of them.
		{"2:a,b", "2:-"}, {"4:a,b,c,d", "4:ab,ac,bc,ad,bd,cd"},
	}
	for _, c := range cases {
		first, second := readComplex(t, c.c), readComplex(t, c.dual)
		holdsDual(t, first, second)
		holdsDual(t, second, first)
	}
}

// TestDualHasTheFacesOfTheChapter asks for each set whether its complement is a face.
func TestDualHasTheFacesOfTheChapter(t *testing.T) {
	for _, c := range partComplexes() {
		want := plainDual(c)
		dual, ok := impl.DualOf(c)
		holdsJoined(t, "DualOf "+plainComplexText(c), dual, ok, c.Points, want)
		if got := impl.IsSelfDual(c); got != (want == faceTable(c)) {
			t.Errorf("IsSelfDual(%v) = %v, and the dual has the faces %v", c, got, want)
		}
	}
}

// TestTheDualOfTheDualIsTheComplex holds promise 8.
func TestTheDualOfTheDualIsTheComplex(t *testing.T) {
	for _, c := range partComplexes() {
		dual, _ := impl.DualOf(c)
		if again, ok := impl.DualOf(dual); !ok || !sameComplex(again, c) {
			t.Errorf("the dual %v of %v has the dual %v, %v", dual, c, again, ok)
		}
		// Each set is a face of one or its complement a face of the other.
		if got := len(impl.FacesOf(c)) + len(impl.FacesOf(dual)); got != 1<<c.Points {
			t.Errorf("%v and its dual %v have %d faces together", c, dual, got)
		}
	}
}

// TestFacetsOfTheDual knows them from the missing sets, and the missing sets from the facets.
func TestFacetsOfTheDual(t *testing.T) {
	for _, c := range partComplexes() {
		var facets, missing []int
		for _, s := range impl.MissingSets(c) {
			facets = append(facets, plainComplement(c.Points, s))
		}
		for _, s := range c.Facets {
			missing = append(missing, plainComplement(c.Points, s))
		}
		all := func(int) bool { return true }
		dual, _ := impl.DualOf(c)
		if !slices.Equal(dual.Facets, listed(facets, all)) || !slices.Equal(impl.MissingSets(dual), listed(missing, all)) {
			t.Errorf("the dual of %v is %v, and its missing sets are %v", c, dual, impl.MissingSets(dual))
		}
	}
}

func TestDualOfFullAndBorderComplexes(t *testing.T) {
	for n := 1; n <= 6; n++ {
		full, _ := impl.FullComplex(n)
		border, _ := impl.BorderComplex(n)
		holdsDual(t, full, complexOf(n))
		holdsDual(t, complexOf(n), full)
		holdsDual(t, border, complexOf(n, 0))
		holdsDual(t, complexOf(n, 0), border)
	}
}

// TestCountOfSelfDualComplexes knows how many there are: as many as isotone functions that are their own duals.
func TestCountOfSelfDualComplexes(t *testing.T) {
	for n, want := range []int{0, 1, 2, 4} {
		count := 0
		for _, c := range allComplexes(n) {
			if impl.IsSelfDual(c) {
				count++
			}
		}
		if n > 0 && count != want {
			t.Errorf("%d complexes of %d points are their own duals, want %d", count, n, want)
		}
	}
}

func TestDualsOfValuesThatAreNoComplex(t *testing.T) {
	for _, c := range append(noComplexes(), impl.Complex{}) {
		if got, ok := impl.DualOf(c); ok || !isZeroComplex(got) {
			t.Errorf("DualOf(%v) = %v, %v, want the zero value", c, got, ok)
		}
		if impl.IsSelfDual(c) {
			t.Errorf("IsSelfDual(%v) = true", c)
		}
	}
}

func TestComplementByHand(t *testing.T) {
	cases := []struct{ n, s, want int }{
		{3, 5, 2}, {3, 2, 5}, {4, 5, 10}, {5, 18, 13}, {6, 33, 30}, {6, 5, 58},
		// The empty set, and the set of all points.
		{1, 0, 1}, {1, 1, 0}, {2, 0, 3}, {2, 3, 0}, {3, 0, 7}, {3, 7, 0}, {6, 0, 63}, {6, 63, 0},
		// No points.
		{0, 0, 0},
		// One point more than there are, and others.
		{0, 1, -1}, {0, -1, -1}, {1, 2, -1}, {3, 8, -1}, {3, 15, -1}, {5, 32, -1}, {5, 63, -1}, {6, 64, -1}, {3, -1, -1}, {6, -64, -1},
		{-1, 0, -1}, {7, 0, -1}, {7, 64, -1}, {63, 0, -1}, {64, 0, -1},
	}
	for _, c := range cases {
		if got := impl.ComplementOf(c.n, c.s); got != c.want {
			t.Errorf("ComplementOf(%d, %d) = %d, want %d", c.n, c.s, got, c.want)
		}
	}
}

func TestComplementOfEachSet(t *testing.T) {
	for n := range 7 {
		for s := range 1 << n {
			if got := impl.ComplementOf(n, s); got != plainComplement(n, s) {
				t.Errorf("ComplementOf(%d, %d) = %d, want %d", n, s, got, plainComplement(n, s))
			}
		}
	}
}

func TestComplementRejects(t *testing.T) {
	rejects := func(n int, s int) {
		if got := impl.ComplementOf(n, s); got != -1 {
			t.Errorf("ComplementOf(%d, %d) = %d, want -1", n, s, got)
		}
	}
	for n := range 7 {
		for s := 1 << n; s <= 200; s++ {
			rejects(n, s)
		}
		for _, s := range append([]int{math.MaxInt - 1, 1 << 62, 1<<n - 1<<32}, neverSets...) {
			rejects(n, s)
		}
	}
	for _, n := range neverSizes {
		for s := -1; s <= 64; s++ {
			rejects(n, s)
		}
		for _, s := range neverSets {
			rejects(n, s)
		}
	}
}

// plainCovers looks for points in common, not for bits.
func plainCovers(n int, sets []int) []int {
	covers := func(s int) bool {
		return s < 1<<n && !slices.ContainsFunc(sets, func(other int) bool {
			return !slices.ContainsFunc(plainPoints(s), func(point int) bool { return slices.Contains(plainPoints(other), point) })
		})
	}
	return plainLeast(listed(plainOrder(), covers))
}

func TestCoversByHand(t *testing.T) {
	cases := []struct {
		n            int
		sets, covers string
	}{
		{3, "ab,bc", "b,ac"}, {3, "bc,ab", "b,ac"}, {3, "ab,ac,bc", "ab,ac,bc"}, {4, "ab,cd", "ac,bc,ad,bd"}, {3, "abc", "a,b,c"}, {4, "b", "b"},
		{4, "ab,bc,cd", "bc,ac,bd"}, {5, "ab,bc,cd,ae,de", "abd,acd,ace,bce,bde"}, {5, "a,bcd", "ab,ac,ad"}, {6, "abc,def", "ad,bd,cd,ae,be,ce,af,bf,cf"},
		{6, "ab,cd,ef", "ace,bce,ade,bde,acf,bcf,adf,bdf"}, {6, "af,bf,cf,df,ef", "f,abcde"},
		// No sets.
		{1, "", "-"}, {2, "", "-"}, {3, "", "-"}, {6, "", "-"},
		// The empty set among the sets.
		{1, "-", ""}, {2, "-", ""}, {3, "ab,-", ""}, {3, "-,ab", ""}, {3, "a,-,bc", ""}, {6, "abcdef,-", ""}, {6, "-,-", ""},
		// The same set twice.
		{3, "ab,ab", "a,b"}, {3, "c,a,c", "ac"}, {6, "abc,def,abc", "ad,bd,cd,ae,be,ce,af,bf,cf"},
		// Sets that contain one another.
		{3, "ab,a", "a"}, {3, "a,abc", "a"}, {4, "abc,bc,d", "bd,cd"}, {6, "abcdef,b,bc", "b"},
		// One point, and MaxPoints of them.
		{1, "a", "a"}, {1, "a,a", "a"}, {6, "a,b,c,d,e,f", "abcdef"}, {6, "abcdef", "a,b,c,d,e,f"}, {6, "f", "f"}, {6, "a,f", "af"},
	}
	for _, c := range cases {
		got := impl.CoversOf(c.n, readSets(t, c.sets))
		want := listed(readSets(t, c.covers), func(int) bool { return true })
		if !slices.Equal(got, want) {
			t.Errorf("CoversOf of %d and %q = %v, want %v", c.n, c.sets, got, want)
		}
	}
}

// holdsCovers also goes back: the covers of the covers are the least of the sets.
func holdsCovers(t *testing.T, n int, sets []int) {
	t.Helper()
	covers := impl.CoversOf(n, sets)
	if want := plainCovers(n, sets); !slices.Equal(covers, want) {
		t.Errorf("CoversOf(%d, %v) = %v, want %v", n, sets, covers, want)
	}
	if again, least := impl.CoversOf(n, covers), plainLeast(sets); !slices.Equal(again, least) {
		t.Errorf("CoversOf(%d, %v) = %v has the covers %v, want %v", n, sets, covers, again, least)
	}
}

func TestCoversOfAllFamiliesOfFewPoints(t *testing.T) { holdsOnAllFamilies(t, holdsCovers) }

func TestCoversOfSomeFamilies(t *testing.T) { holdsOnSomeFamilies(t, holdsCovers) }

// TestCoversAreComplementsOfFacets knows the covers of the missing sets without looking for any.
func TestCoversAreComplementsOfFacets(t *testing.T) {
	for _, c := range partComplexes() {
		var complements []int
		for _, facet := range c.Facets {
			complements = append(complements, plainComplement(c.Points, facet))
		}
		want := listed(complements, func(int) bool { return true })
		if got := impl.CoversOf(c.Points, impl.MissingSets(c)); !slices.Equal(got, want) {
			t.Errorf("the covers of the missing sets of %v are %v, want %v", c, got, want)
		}
	}
}

func rejectsToCover(t *testing.T, n int, sets []int) {
	t.Helper()
	if got := impl.CoversOf(n, sets); len(got) != 0 {
		t.Errorf("CoversOf(%d, %v) = %v, want none", n, sets, got)
	}
}

func TestCoversRejects(t *testing.T) {
	for _, n := range neverCounts {
		for _, sets := range [][]int{nil, {}, {0}, {1}, {1, 63}, {-1}} {
			rejectsToCover(t, n, sets)
		}
	}
	for n := 1; n <= 6; n++ {
		for _, bad := range append([]int{1 << n, 1<<n + 1}, neverSets...) {
			for _, sets := range [][]int{{bad}, {bad, bad}, {bad, 1}, {1, bad}, {1, bad, 1}, {1<<n - 1, bad}} {
				rejectsToCover(t, n, sets)
			}
		}
	}
}

func TestCoversOf64Sets(t *testing.T) {
	for n := 1; n <= 6; n++ {
		for _, s := range []int{1, 1<<n - 1} {
			same := slices.Repeat([]int{s}, 65)
			holdsCovers(t, n, same[:64])
			rejectsToCover(t, n, same)
			rejectsToCover(t, n, slices.Repeat(same, 3))
			rejectsToCover(t, n, append(same[:63:63], 1<<n))
		}
	}
	// Without the empty set there are 63 sets.
	some := plainOrder()[1:]
	holdsCovers(t, 6, some)
	holdsCovers(t, 6, append(some, 63))
	rejectsToCover(t, 6, append(some, 63, 63))
}

func TestDualFunctionsLeaveTheirLists(t *testing.T) {
	for _, c := range append(partComplexes(), noComplexes()...) {
		front, whole := withSpareCapacity(c.Facets)
		before := slices.Clone(whole)
		taken := complexOf(c.Points, front...)
		dual, _ := impl.DualOf(taken)
		for _, got := range [][]int{dual.Facets, impl.CoversOf(c.Points, front)} {
			for i := range got {
				got[i] = -9
			}
			_ = append(got, -9, -9, -9, -9, -9, -9, -9, -9)
		}
		impl.IsSelfDual(taken)
		if !slices.Equal(whole, before) {
			t.Errorf("%v has become %v", before, whole)
		}
	}
}

func TestDualResultsAreNewMemory(t *testing.T) {
	lists := map[string]func() []int{
		"DualOf":          func() []int { c, _ := impl.DualOf(complexOf(3, 4, 3)); return c.Facets },
		"DualOf no faces": func() []int { c, _ := impl.DualOf(complexOf(3)); return c.Facets },
		"DualOf its own":  func() []int { c, _ := impl.DualOf(complexOf(3, 1, 2, 4)); return c.Facets },
		"CoversOf":        func() []int { return impl.CoversOf(3, []int{3, 6}) },
		"CoversOf itself": func() []int { return impl.CoversOf(3, []int{3, 5, 6}) },
		"CoversOf none":   func() []int { return impl.CoversOf(3, nil) },
	}
	holdsNewMemory(t, lists)
}

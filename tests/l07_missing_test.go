package tests

import (
	"slices"
	"strings"
	"testing"

	"loop.example/g03100/impl"
)

func readSets(t *testing.T, text string) []int {
	t.Helper()
	if text == "" {
		return nil
	}
	var sets []int
	for _, part := range strings.Split(text, ",") {
		sets = append(sets, readSet(t, part))
	}
	return sets
}

// plainMissing is what chapter 7 says of a complex.
type plainMissing struct {
	missing  []int
	isFlag   bool
	greatest int
	complete int
}

// plainMissingOf takes no number from the list of the missing sets: it counts faces and asks for flags by pairs.
func plainMissingOf(c impl.Complex) plainMissing {
	isFace := faceTable(c)
	want := plainMissing{isFlag: true, greatest: -1, complete: -1}
	full, counts := [7]int{}, [7]int{}
	for _, s := range plainOrder() {
		if s >= 1<<c.Points {
			continue
		}
		size := len(plainPoints(s))
		full[size]++
		if isFace[s] {
			counts[size]++
			continue
		}
		want.isFlag = want.isFlag && !hasSmallFaces(isFace, s)
		if hasProperFaces(isFace, s) {
			want.missing = append(want.missing, s)
			want.greatest = max(want.greatest, size)
		}
	}
	for k := 0; k <= c.Points && counts[k] == full[k]; k++ {
		want.complete = k
	}
	return want
}

func hasProperFaces(isFace [64]bool, s int) bool {
	for other := range 64 {
		if other != s && plainSubset(other, s) && !isFace[other] {
			return false
		}
	}
	return true
}

// hasSmallFaces asks for the subsets of s with at most 2 points.
func hasSmallFaces(isFace [64]bool, s int) bool {
	for other := range 64 {
		if len(plainPoints(other)) <= 2 && plainSubset(other, s) && !isFace[other] {
			return false
		}
	}
	return true
}

func holdsMissing(t *testing.T, c impl.Complex, want plainMissing) {
	t.Helper()
	if got := impl.MissingSets(c); !slices.Equal(got, want.missing) {
		t.Errorf("MissingSets(%v) = %v, want %v", c, got, want.missing)
	}
	if got := impl.IsFlag(c); got != want.isFlag {
		t.Errorf("IsFlag(%v) = %v", c, got)
	}
	if got := impl.GreatestMissing(c); got != want.greatest {
		t.Errorf("GreatestMissing(%v) = %d, want %d", c, got, want.greatest)
	}
	if got := impl.CompleteUpTo(c); got != want.complete {
		t.Errorf("CompleteUpTo(%v) = %d, want %d", c, got, want.complete)
	}
}

func TestMissingByHand(t *testing.T) {
	cases := []struct {
		c, missing string
		isFlag     bool
		greatest   int
		complete   int
		flag       string
	}{
		{"3:c,ab", "ac,bc", true, 2, 1, "3:c,ab"},
		{"5:ab,bc,cd,ae,de", "ac,ad,bd,be,ce", true, 2, 1, "5:ab,bc,cd,ae,de"},
		{"5:abc,cde", "ad,bd,ae,be", true, 2, 1, "5:abc,cde"},
		{"6:f,de,abc", "ad,bd,cd,ae,be,ce,af,bf,cf,df,ef", true, 2, 1, "6:f,de,abc"},
		{"6:f,abcde", "af,bf,cf,df,ef", true, 2, 1, "6:f,abcde"},
		{"4:a,b,c,d", "ab,ac,bc,ad,bd,cd", true, 2, 1, "4:a,b,c,d"},
		{"6:ace,bce,ade,bde,acf,bcf,adf,bdf", "ab,cd,ef", true, 2, 1, "6:ace,bce,ade,bde,acf,bcf,adf,bdf"},
		{"5:ab,ac,bc,cd,ce,de", "ad,bd,ae,be,abc,cde", false, 3, 1, "5:abc,cde"},
		// All pairs are faces.
		{"3:ab,ac,bc", "abc", false, 3, 2, "3:abc"},
		{"4:ab,ac,bc,ad,bd,cd", "abc,abd,acd,bcd", false, 3, 2, "4:abcd"},
		{"4:ad,bd,cd,abc", "abd,acd,bcd", false, 3, 2, "4:abcd"},
		{"4:abc,abd,acd,bcd", "abcd", false, 4, 3, "4:abcd"},
		{"5:abd,acd,bcd,abe,ace,bce,ade,bde,cde", "abc,abde,acde,bcde", false, 4, 2, "5:abcde"},
		{
			"6:acd,bcd,abe,ace,bde,abf,bcf,adf,cef,def", "abc,abd,bce,ade,cde,acf,bdf,cdf,aef,bef",
			false, 3, 2, "6:abcdef",
		},
		{"6:abcde,abcdf,abcef,abdef,acdef,bcdef", "abcdef", false, 6, 5, "6:abcdef"},
		// Some pair is missing, and others with all of their pairs are no faces.
		{"4:ab,ac,bc,ad,bd", "cd,abc,abd", false, 3, 1, "4:abc,abd"},
		{"6:ef,abc,abd,acd,bcd", "ae,be,ce,de,af,bf,cf,df,abcd", false, 4, 1, "6:ef,abcd"},
		// Points that are in no face.
		{"5:ab,bd", "c,e,ad", true, 2, 0, "5:ab,bd"}, {"5:ab,ad,bd", "c,e,abd", false, 3, 0, "5:abd"},
		{"6:b,d", "a,c,e,f,bd", true, 2, 0, "6:b,d"}, {"6:a", "b,c,d,e,f", true, 1, 0, "6:a"}, {"6:bcdef", "a", true, 1, 0, "6:bcdef"},
		// The full complex.
		{"1:a", "", true, -1, 1, "1:a"}, {"2:ab", "", true, -1, 2, "2:ab"}, {"3:abc", "", true, -1, 3, "3:abc"},
		{"5:abcde", "", true, -1, 5, "5:abcde"}, {"6:abcdef", "", true, -1, 6, "6:abcdef"},
		// No faces at all, and the empty set alone.
		{"1:", "-", true, 0, -1, "1:"}, {"3:", "-", true, 0, -1, "3:"}, {"6:", "-", true, 0, -1, "6:"},
		{"1:-", "a", true, 1, 0, "1:-"}, {"3:-", "a,b,c", true, 1, 0, "3:-"}, {"6:-", "a,b,c,d,e,f", true, 1, 0, "6:-"},
	}
	for _, c := range cases {
		made := readComplex(t, c.c)
		holdsMissing(t, made, plainMissing{readSets(t, c.missing), c.isFlag, c.greatest, c.complete})
		if got, ok := impl.FlagOf(made); !ok || !sameComplex(got, readComplex(t, c.flag)) {
			t.Errorf("FlagOf of %s = %v, %v, want %s", c.c, got, ok, c.flag)
		}
	}
}

func TestMissingOfSomeComplexes(t *testing.T) {
	for _, c := range partComplexes() {
		holdsMissing(t, c, plainMissingOf(c))
	}
}

// TestMissingOfFullAndBorderComplexes knows the answers for each number of points.
func TestMissingOfFullAndBorderComplexes(t *testing.T) {
	for n := 1; n <= 6; n++ {
		full, _ := impl.FullComplex(n)
		holdsMissing(t, full, plainMissing{nil, true, -1, n})
		border, _ := impl.BorderComplex(n)
		holdsMissing(t, border, plainMissing{[]int{1<<n - 1}, n <= 2, n, n - 1})
		want := full
		if n <= 2 {
			want = border
		}
		if got, ok := impl.FlagOf(border); !ok || !sameComplex(got, want) {
			t.Errorf("FlagOf(%v) = %v, %v, want %v", border, got, ok, want)
		}
	}
}

// TestAComplexIsToldByItsMissingSets holds promise 7.
func TestAComplexIsToldByItsMissingSets(t *testing.T) {
	for _, c := range partComplexes() {
		missing := impl.MissingSets(c)
		if got, ok := impl.FromMissing(c.Points, missing); !ok || !sameComplex(got, c) {
			t.Errorf("FromMissing(%d, %v) = %v, %v, want %v", c.Points, missing, got, ok, c)
		}
		// They are the least: each of them is needed, and all sets that are no faces tell no more.
		for i := range missing {
			fewer := slices.Delete(slices.Clone(missing), i, i+1)
			if got, ok := impl.FromMissing(c.Points, fewer); !ok || sameComplex(got, c) {
				t.Errorf("FromMissing(%d, %v) = %v, %v, as with %v", c.Points, fewer, got, ok, missing)
			}
		}
		isFace := faceTable(c)
		noFaces := listed(plainOrder(), func(s int) bool { return s < 1<<c.Points && !isFace[s] })
		if got, ok := impl.FromMissing(c.Points, noFaces); !ok || !sameComplex(got, c) {
			t.Errorf("FromMissing(%d, %v) = %v, %v, want %v", c.Points, noFaces, got, ok, c)
		}
	}
}

// TestNoTwoComplexesHaveTheSameMissingSets holds promise 7 without FromMissing.
func TestNoTwoComplexesHaveTheSameMissingSets(t *testing.T) {
	found := map[string]impl.Complex{}
	for _, c := range partComplexes() {
		text := plainComplexText(complexOf(c.Points, impl.MissingSets(c)...))
		if other, ok := found[text]; ok {
			t.Errorf("%v and %v have the same missing sets %s", c, other, text)
		}
		found[text] = c
	}
}

func TestFromMissingByHand(t *testing.T) {
	cases := []struct {
		n          int
		sets, want string
	}{
		{3, "ac,bc", "3:c,ab"}, {3, "bc,ac", "3:c,ab"}, {4, "cd,abc", "4:ac,bc,abd"}, {6, "f,abc", "6:abde,acde,bcde"},
		{6, "ab,cd,ef", "6:ace,bce,ade,bde,acf,bcf,adf,bdf"}, {5, "e,c,ad", "5:ab,bd"},
		// No sets.
		{1, "", "1:a"}, {2, "", "2:ab"}, {3, "", "3:abc"}, {6, "", "6:abcdef"},
		// The empty set.
		{1, "-", "1:"}, {3, "-", "3:"}, {6, "-", "6:"}, {1, "a,-", "1:"}, {3, "-,-", "3:"}, {6, "a,-,bc", "6:"}, {6, "abcdef,-", "6:"},
		// The same set twice.
		{3, "abc,abc", "3:ab,ac,bc"}, {3, "c,a,c", "3:b"}, {6, "ab,ab,ab", "6:acdef,bcdef"},
		// Sets that contain one another.
		{3, "ab,abc", "3:ac,bc"}, {3, "abc,a", "3:bc"}, {4, "abc,c,abd", "4:ab,ad,bd"}, {6, "abcdef,abc,bc,b", "6:acdef"},
		// One point, and MaxPoints of them.
		{1, "a", "1:-"}, {1, "a,a", "1:-"}, {2, "a,b", "2:-"}, {2, "ab", "2:a,b"}, {2, "b", "2:a"},
		{6, "a,b,c,d,e,f", "6:-"}, {6, "a,b,c,d,e", "6:f"}, {6, "abcdef", "6:abcde,abcdf,abcef,abdef,acdef,bcdef"},
	}
	for _, c := range cases {
		got, ok := impl.FromMissing(c.n, readSets(t, c.sets))
		if !ok || !sameComplex(got, readComplex(t, c.want)) {
			t.Errorf("FromMissing of %d and %q = %v, %v, want %s", c.n, c.sets, got, ok, c.want)
		}
	}
}

// plainLeast has the sets of which no other one of the list is a proper subset, in order.
func plainLeast(sets []int) []int {
	return listed(sets, func(s int) bool {
		return !slices.ContainsFunc(sets, func(o int) bool { return o != s && plainSubset(o, s) })
	})
}

// holdsFromMissing asks for each set whether it contains one of the sets, and whether the least of them are found again.
func holdsFromMissing(t *testing.T, n int, sets []int) {
	t.Helper()
	var want [64]bool
	for s := range 1 << n {
		want[s] = !slices.ContainsFunc(sets, func(missing int) bool { return plainSubset(missing, s) })
	}
	got, ok := impl.FromMissing(n, sets)
	holdsJoined(t, "FromMissing "+plainComplexText(complexOf(n, sets...)), got, ok, n, want)
	least := plainLeast(sets)
	if again := impl.MissingSets(got); !slices.Equal(again, least) {
		t.Errorf("FromMissing(%d, %v) = %v has the missing sets %v, want %v", n, sets, got, again, least)
	}
}

// holdsOnAllFamilies has each family of sets of at most 3 points, also in the other order and with equal sets.
func holdsOnAllFamilies(t *testing.T, holds func(t *testing.T, n int, sets []int)) {
	t.Helper()
	for n := 1; n <= 3; n++ {
		for family := range 1 << (1 << n) {
			var sets []int
			for s := range 1 << n {
				if family>>s&1 == 1 {
					sets = append(sets, s)
				}
			}
			holds(t, n, sets)
			slices.Reverse(sets)
			holds(t, n, append(sets, sets...))
		}
	}
}

// holdsOnSomeFamilies has families of sets of 4 to 6 points.
func holdsOnSomeFamilies(t *testing.T, holds func(t *testing.T, n int, sets []int)) {
	t.Helper()
	for n := 4; n <= 6; n++ {
		for i, list := range setLists() {
			var sets []int
			for _, s := range list {
				sets = append(sets, s%(1<<n))
			}
			if i%5 == n-4 || i < 10 {
				holds(t, n, sets)
			}
		}
		for size := range n + 1 {
			holds(t, n, listed(plainOrder(), func(s int) bool { return s < 1<<n && len(plainPoints(s)) == size }))
		}
	}
}

func TestFromMissingOfAllFamiliesOfFewPoints(t *testing.T) { holdsOnAllFamilies(t, holdsFromMissing) }

func TestFromMissingOfSomeFamilies(t *testing.T) { holdsOnSomeFamilies(t, holdsFromMissing) }

func rejectsMissing(t *testing.T, n int, sets []int) {
	t.Helper()
	if c, ok := impl.FromMissing(n, sets); ok || !isZeroComplex(c) {
		t.Errorf("FromMissing(%d, %v) = %v, %v, want the zero value", n, sets, c, ok)
	}
}

func TestFromMissingRejects(t *testing.T) {
	for _, n := range neverCounts {
		for _, sets := range [][]int{nil, {}, {0}, {1}, {0, 1, 63}, {-1}} {
			rejectsMissing(t, n, sets)
		}
	}
	for n := 1; n <= 6; n++ {
		for _, bad := range append([]int{1 << n, 1<<n + 1}, neverSets...) {
			for _, sets := range [][]int{{bad}, {bad, bad}, {bad, 1}, {0, bad}, {1, bad, 0}, {1<<n - 1, bad}} {
				rejectsMissing(t, n, sets)
			}
		}
	}
}

func TestFromMissingOf64Sets(t *testing.T) {
	for n := 1; n <= 6; n++ {
		for _, s := range []int{0, 1, 1<<n - 1} {
			same := slices.Repeat([]int{s}, 65)
			holdsFromMissing(t, n, same[:64])
			rejectsMissing(t, n, same)
			rejectsMissing(t, n, slices.Repeat(same, 3))
			rejectsMissing(t, n, append(same[:63:63], 1<<n))
		}
	}
	all := plainOrder()
	holdsFromMissing(t, 6, all)
	rejectsMissing(t, 6, append(all, 0))
	rejectsMissing(t, 6, append(all, 63))
}

// TestFlagOfHasTheFacesOfTheChapter asks for each set whether its subsets of at most 2 points are faces.
func TestFlagOfHasTheFacesOfTheChapter(t *testing.T) {
	for _, c := range partComplexes() {
		isFace := faceTable(c)
		var want [64]bool
		for s := range 64 {
			want[s] = hasSmallFaces(isFace, s)
		}
		flag, ok := impl.FlagOf(c)
		holdsJoined(t, "FlagOf "+plainComplexText(c), flag, ok, c.Points, want)
		if !impl.IsFlag(flag) || impl.IsFlag(c) != sameComplex(flag, c) {
			t.Errorf("FlagOf(%v) = %v, and IsFlag is %v and %v", c, flag, impl.IsFlag(c), impl.IsFlag(flag))
		}
		// Only faces of at most 2 points matter.
		small, _ := impl.SkeletonOf(c, 2)
		if again, ok := impl.FlagOf(small); !ok || !sameComplex(again, flag) {
			t.Errorf("FlagOf(%v) = %v, %v, want %v", small, again, ok, flag)
		}
	}
}

func TestMissingOfValuesThatAreNoComplex(t *testing.T) {
	for _, c := range append(noComplexes(), impl.Complex{}) {
		holdsMissing(t, c, plainMissing{nil, false, -1, -1})
		if got, ok := impl.FlagOf(c); ok || !isZeroComplex(got) {
			t.Errorf("FlagOf(%v) = %v, %v, want the zero value", c, got, ok)
		}
	}
}

func TestMissingFunctionsLeaveTheirLists(t *testing.T) {
	for _, c := range append(partComplexes(), noComplexes()...) {
		front, whole := withSpareCapacity(c.Facets)
		before := slices.Clone(whole)
		taken := complexOf(c.Points, front...)
		flag, _ := impl.FlagOf(taken)
		made, _ := impl.FromMissing(c.Points, front)
		for _, got := range [][]int{impl.MissingSets(taken), flag.Facets, made.Facets} {
			for i := range got {
				got[i] = -9
			}
			_ = append(got, -9, -9, -9, -9, -9, -9, -9, -9)
		}
		impl.IsFlag(taken)
		impl.GreatestMissing(taken)
		impl.CompleteUpTo(taken)
		if !slices.Equal(whole, before) {
			t.Errorf("%v has become %v", before, whole)
		}
	}
}

func TestMissingResultsAreNewMemory(t *testing.T) {
	lists := map[string]func() []int{
		"MissingSets":            func() []int { return impl.MissingSets(complexOf(3, 4, 3)) },
		"MissingSets no faces":   func() []int { return impl.MissingSets(complexOf(3)) },
		"FromMissing":            func() []int { c, _ := impl.FromMissing(3, []int{5, 6}); return c.Facets },
		"FromMissing no sets":    func() []int { c, _ := impl.FromMissing(3, nil); return c.Facets },
		"FlagOf":                 func() []int { c, _ := impl.FlagOf(complexOf(3, 3, 5, 6)); return c.Facets },
		"FlagOf the same facets": func() []int { c, _ := impl.FlagOf(complexOf(3, 4, 3)); return c.Facets },
	}
	holdsNewMemory(t, lists)
}

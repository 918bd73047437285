package tests

import (
	"slices"
	"testing"

	"loop.example/g03100/impl"
)

type partFunction func(c impl.Complex, number int) (impl.Complex, bool)

type pairFunction func(a impl.Complex, b impl.Complex) (impl.Complex, bool)

// setParts are the functions of chapter 5 that take a set.
var setParts = map[string]partFunction{
	"LinkOf": impl.LinkOf, "StarOf": impl.StarOf, "DeletionOf": impl.DeletionOf, "InducedOf": impl.InducedOf,
}

var pairParts = map[string]pairFunction{"UnionOf": impl.UnionOf, "MeetOf": impl.MeetOf}

// partComplexes has all complexes of at most 3 points and a few hundred of 4 to 6, each once.
func partComplexes() []impl.Complex {
	var list []impl.Complex
	found := map[string]bool{}
	for i, c := range someComplexes() {
		text := plainComplexText(c)
		if !found[text] && (c.Points <= 4 || i%10 == 0 || len(c.Facets) > 9) {
			found[text] = true
			list = append(list, c)
		}
	}
	return list
}

func readComplex(t *testing.T, text string) impl.Complex {
	t.Helper()
	c, ok := impl.ParseComplex(text)
	if !ok {
		t.Fatalf("ParseComplex(%q) fails", text)
	}
	return c
}

func readSet(t *testing.T, text string) int {
	t.Helper()
	s, ok := impl.ParseSet(text)
	if !ok {
		t.Fatalf("ParseSet(%q) fails", text)
	}
	return s
}

// plainParts has the part that each function of setParts makes, from its facets rather than by asking for each face.
func plainParts(c impl.Complex, s int) map[string]impl.Complex {
	sets := map[string][]int{}
	add := func(name string, set int) { sets[name] = append(sets[name], set) }
	for _, facet := range c.Facets {
		add("InducedOf", facet&s)
		if !plainSubset(s, facet) {
			add("DeletionOf", facet)
			continue
		}
		add("LinkOf", facet-s)
		add("StarOf", facet)
		for _, point := range plainPoints(s) {
			add("DeletionOf", facet-1<<point)
		}
	}
	parts := map[string]impl.Complex{}
	for name := range setParts {
		parts[name] = complexOf(c.Points, plainFacets(sets[name])...)
	}
	return parts
}

func TestPartsAtASetByHand(t *testing.T) {
	cases := []struct{ c, s, link, star, deletion, induced string }{
		{"5:abc,cde", "c", "5:ab,de", "5:abc,cde", "5:ab,de", "5:c"},
		{"5:abc,cde", "a", "5:bc", "5:abc", "5:bc,cde", "5:a"},
		{"5:abc,cde", "ab", "5:c", "5:abc", "5:ac,bc,cde", "5:ab"},
		{"4:abc,abd,acd,bcd", "a", "4:bc,bd,cd", "4:abc,abd,acd", "4:bcd", "4:a"},
		{"4:abc,abd,acd,bcd", "cd", "4:a,b", "4:acd,bcd", "4:abc,abd", "4:cd"},
		{"3:ab,ac,bc", "a", "3:b,c", "3:ab,ac", "3:bc", "3:a"},
		{"6:f,de,abc", "f", "6:-", "6:f", "6:de,abc", "6:f"},
		{"6:f,de,abc", "e", "6:d", "6:de", "6:d,f,abc", "6:e"},
		{"6:abcdef", "bd", "6:acef", "6:abcdef", "6:abcef,acdef", "6:bd"},
		// Facets.
		{"5:abc,cde", "abc", "5:-", "5:abc", "5:ab,ac,bc,cde", "5:abc"},
		{"3:c,ab", "c", "3:-", "3:c", "3:ab", "3:c"},
		{"6:abcdef", "abcdef", "6:-", "6:abcdef", "6:abcde,abcdf,abcef,abdef,acdef,bcdef", "6:abcdef"},
		// Sets that are no faces.
		{"5:abc,cde", "ad", "5:", "5:", "5:abc,cde", "5:a,d"},
		{"5:abc,cde", "bcd", "5:", "5:", "5:abc,cde", "5:bc,cd"},
		{"5:abc,cde", "abcde", "5:", "5:", "5:abc,cde", "5:abc,cde"},
		{"3:ab,ac,bc", "abc", "3:", "3:", "3:ab,ac,bc", "3:ab,ac,bc"},
		{"6:f,de,abc", "af", "6:", "6:", "6:f,de,abc", "6:a,f"},
		// Points that are in no face, alone and with others.
		{"5:ab,bd", "c", "5:", "5:", "5:ab,bd", "5:-"},
		{"5:ab,bd", "ce", "5:", "5:", "5:ab,bd", "5:-"},
		{"5:ab,bd", "bc", "5:", "5:", "5:ab,bd", "5:b"},
		{"5:ab,bd", "abcde", "5:", "5:", "5:ab,bd", "5:ab,bd"},
		{"5:ab,bd", "b", "5:a,d", "5:ab,bd", "5:a,d", "5:b"},
		// The empty set.
		{"5:abc,cde", "-", "5:abc,cde", "5:abc,cde", "5:", "5:-"},
		{"5:ab,bd", "-", "5:ab,bd", "5:ab,bd", "5:", "5:-"},
		{"6:abcdef", "-", "6:abcdef", "6:abcdef", "6:", "6:-"},
		// No faces at all, and the empty set alone.
		{"1:", "-", "1:", "1:", "1:", "1:"}, {"1:", "a", "1:", "1:", "1:", "1:"},
		{"3:", "-", "3:", "3:", "3:", "3:"}, {"3:", "ac", "3:", "3:", "3:", "3:"},
		{"6:", "-", "6:", "6:", "6:", "6:"}, {"6:", "abcdef", "6:", "6:", "6:", "6:"},
		{"1:-", "-", "1:-", "1:-", "1:", "1:-"}, {"1:-", "a", "1:", "1:", "1:-", "1:-"},
		{"3:-", "-", "3:-", "3:-", "3:", "3:-"}, {"3:-", "ac", "3:", "3:", "3:-", "3:-"},
		{"6:-", "-", "6:-", "6:-", "6:", "6:-"}, {"6:-", "abcdef", "6:", "6:", "6:-", "6:-"},
		// One point.
		{"1:a", "-", "1:a", "1:a", "1:", "1:-"}, {"1:a", "a", "1:-", "1:a", "1:-", "1:a"},
	}
	for _, c := range cases {
		wants := map[string]string{"LinkOf": c.link, "StarOf": c.star, "DeletionOf": c.deletion, "InducedOf": c.induced}
		for name, want := range wants {
			got, ok := setParts[name](readComplex(t, c.c), readSet(t, c.s))
			if !ok || !sameComplex(got, readComplex(t, want)) {
				t.Errorf("%s of %s and %s = %v, %v, want %s", name, c.c, c.s, got, ok, want)
			}
		}
	}
}

func TestPartsAtEachSet(t *testing.T) {
	for _, c := range partComplexes() {
		for s := range 1 << c.Points {
			for name, want := range plainParts(c, s) {
				if got, ok := setParts[name](c, s); !ok || !sameComplex(got, want) {
					t.Errorf("%s(%v, %d) = %v, %v, want %v", name, c, s, got, ok, want)
				}
			}
		}
	}
}

// TestPartsAtASetHaveTheFacesOfTheChapter asks for each set whether the chapter makes it a face of each part.
func TestPartsAtASetHaveTheFacesOfTheChapter(t *testing.T) {
	for _, c := range partComplexes() {
		isFace := map[int]bool{}
		for _, face := range plainFaces(c.Facets) {
			isFace[face] = true
		}
		for s := range 1 << c.Points {
			parts := map[string]impl.Complex{}
			for name, f := range setParts {
				parts[name], _ = f(c, s)
			}
			for x := range 64 {
				wants := map[string]bool{
					"LinkOf": x&s == 0 && isFace[x|s], "StarOf": isFace[x|s],
					"DeletionOf": isFace[x] && x&s != s, "InducedOf": isFace[x] && x|s == s,
				}
				for name, want := range wants {
					if impl.HasFace(parts[name], x) != want {
						t.Errorf("%s(%v, %d) = %v: the face %d is not %v", name, c, s, parts[name], x, want)
					}
				}
			}
		}
	}
}

// TestStarAndDeletionMakeUpAComplex holds promise 5.
func TestStarAndDeletionMakeUpAComplex(t *testing.T) {
	for _, c := range partComplexes() {
		for s := range 1 << c.Points {
			star, _ := impl.StarOf(c, s)
			deletion, _ := impl.DeletionOf(c, s)
			if union, ok := impl.UnionOf(star, deletion); !ok || !sameComplex(union, c) {
				t.Errorf("star %v and deletion %v of %v at %d make up %v, %v", star, deletion, c, s, union, ok)
			}
			// No face is left out or counted twice: those that contain s are in the star alone.
			at := listed(impl.FacesOf(star), func(face int) bool { return plainSubset(s, face) })
			together := listed(append(at, impl.FacesOf(deletion)...), func(int) bool { return true })
			if len(at)+len(impl.FacesOf(deletion)) != len(together) || !slices.Equal(together, impl.FacesOf(c)) {
				t.Errorf("star %v and deletion %v of %v at %d share faces or miss some", star, deletion, c, s)
			}
		}
	}
}

func TestStarAndDeletionOfAPointMeetInItsLink(t *testing.T) {
	for _, c := range partComplexes() {
		for point := range c.Points {
			star, _ := impl.StarOf(c, 1<<point)
			deletion, _ := impl.DeletionOf(c, 1<<point)
			link, _ := impl.LinkOf(c, 1<<point)
			if meet, ok := impl.MeetOf(star, deletion); !ok || !sameComplex(meet, link) {
				t.Errorf("star %v and deletion %v of %v meet in %v, %v, want %v", star, deletion, c, meet, ok, link)
			}
		}
	}
}

func TestSkeletonByHand(t *testing.T) {
	cases := []struct {
		c    string
		k    int
		want string
	}{
		{"4:abc,abd,acd,bcd", 0, "4:-"}, {"4:abc,abd,acd,bcd", 1, "4:a,b,c,d"}, {"4:abc,abd,acd,bcd", 2, "4:ab,ac,bc,ad,bd,cd"},
		{"5:abc,cde", 0, "5:-"}, {"5:abc,cde", 1, "5:a,b,c,d,e"}, {"5:abc,cde", 2, "5:ab,ac,bc,cd,ce,de"},
		{"5:abc,cde", 3, "5:abc,cde"}, {"5:abc,cde", 4, "5:abc,cde"}, {"5:abc,cde", 5, "5:abc,cde"}, {"5:abc,cde", 6, "5:abc,cde"},
		{"6:f,de,abc", 1, "6:a,b,c,d,e,f"}, {"6:f,de,abc", 2, "6:f,ab,ac,bc,de"}, {"6:f,de,abc", 3, "6:f,de,abc"}, {"6:f,de,abc", 6, "6:f,de,abc"},
		{"5:ab,bd", 0, "5:-"}, {"5:ab,bd", 1, "5:a,b,d"}, {"5:ab,bd", 2, "5:ab,bd"}, {"5:ab,bd", 6, "5:ab,bd"},
		{"6:abcdef", 0, "6:-"}, {"6:abcdef", 1, "6:a,b,c,d,e,f"}, {"6:abcdef", 5, "6:abcde,abcdf,abcef,abdef,acdef,bcdef"}, {"6:abcdef", 6, "6:abcdef"},
		{"1:a", 0, "1:-"}, {"1:a", 1, "1:a"}, {"1:a", 2, "1:a"}, {"1:a", 6, "1:a"},
		{"1:", 0, "1:"}, {"1:", 6, "1:"}, {"3:", 0, "3:"}, {"3:", 2, "3:"}, {"6:", 0, "6:"}, {"6:", 6, "6:"},
		{"1:-", 0, "1:-"}, {"1:-", 6, "1:-"}, {"3:-", 0, "3:-"}, {"3:-", 2, "3:-"}, {"6:-", 0, "6:-"}, {"6:-", 6, "6:-"},
	}
	for _, c := range cases {
		got, ok := impl.SkeletonOf(readComplex(t, c.c), c.k)
		if !ok || !sameComplex(got, readComplex(t, c.want)) {
			t.Errorf("SkeletonOf(%s, %d) = %v, %v, want %s", c.c, c.k, got, ok, c.want)
		}
	}
}

func TestSkeletonOfEachSize(t *testing.T) {
	for _, c := range partComplexes() {
		faces := plainFaces(c.Facets)
		for k := range 7 {
			want := listed(faces, func(s int) bool { return len(plainPoints(s)) <= k })
			got, ok := impl.SkeletonOf(c, k)
			if !ok || !sameComplex(got, complexOf(c.Points, plainFacets(want)...)) || !slices.Equal(impl.FacesOf(got), want) {
				t.Errorf("SkeletonOf(%v, %d) = %v, %v, want the faces %v", c, k, got, ok, want)
			}
		}
		// From the size of the largest facet on, nothing is left out.
		for k := impl.DimOf(c) + 1; k <= impl.MaxPoints; k++ {
			if got, ok := impl.SkeletonOf(c, max(k, 0)); !ok || !sameComplex(got, c) {
				t.Errorf("SkeletonOf(%v, %d) = %v, %v, want the complex", c, k, got, ok)
			}
		}
	}
}

func holdsPair(t *testing.T, a impl.Complex, b impl.Complex, union impl.Complex, meet impl.Complex) {
	t.Helper()
	for _, side := range [][2]impl.Complex{{a, b}, {b, a}} {
		if got, ok := impl.UnionOf(side[0], side[1]); !ok || !sameComplex(got, union) {
			t.Errorf("UnionOf(%v, %v) = %v, %v, want %v", side[0], side[1], got, ok, union)
		}
		if got, ok := impl.MeetOf(side[0], side[1]); !ok || !sameComplex(got, meet) {
			t.Errorf("MeetOf(%v, %v) = %v, %v, want %v", side[0], side[1], got, ok, meet)
		}
	}
}

func TestUnionAndMeetByHand(t *testing.T) {
	cases := []struct{ a, b, union, meet string }{
		{"3:ab", "3:bc", "3:ab,bc", "3:b"},
		{"3:ab,ac", "3:bc", "3:ab,ac,bc", "3:b,c"},
		{"4:abc,abd", "4:cd,abc", "4:cd,abc,abd", "4:d,abc"},
		{"6:abc,def", "6:abd,cef", "6:abc,abd,cef,def", "6:c,d,ab,ef"},
		// With itself.
		{"3:ab", "3:ab", "3:ab", "3:ab"}, {"6:f,de,abc", "6:f,de,abc", "6:f,de,abc", "6:f,de,abc"},
		{"3:", "3:", "3:", "3:"}, {"3:-", "3:-", "3:-", "3:-"}, {"1:a", "1:a", "1:a", "1:a"},
		// One lies in the other one.
		{"3:abc", "3:a,b", "3:abc", "3:a,b"}, {"5:abc,cde", "5:d,ab,bc", "5:abc,cde", "5:d,ab,bc"},
		{"6:abcdef", "6:f,de,abc", "6:abcdef", "6:f,de,abc"}, {"4:abc,abd,acd,bcd", "4:abc", "4:abc,abd,acd,bcd", "4:abc"},
		// Only the empty set in common.
		{"3:ab", "3:c", "3:c,ab", "3:-"}, {"6:abc", "6:def", "6:abc,def", "6:-"}, {"6:a,b,c", "6:d,e,f", "6:a,b,c,d,e,f", "6:-"},
		{"3:-", "3:ab", "3:ab", "3:-"}, {"1:a", "1:-", "1:a", "1:-"}, {"6:abcdef", "6:-", "6:abcdef", "6:-"},
		// Nothing in common.
		{"3:", "3:-", "3:-", "3:"}, {"3:", "3:c,ab", "3:c,ab", "3:"}, {"1:a", "1:", "1:a", "1:"}, {"6:abcdef", "6:", "6:abcdef", "6:"},
	}
	for _, c := range cases {
		holdsPair(t, readComplex(t, c.a), readComplex(t, c.b), readComplex(t, c.union), readComplex(t, c.meet))
	}
}

func holdsPlainPair(t *testing.T, a impl.Complex, b impl.Complex) {
	t.Helper()
	var common []int
	for _, one := range a.Facets {
		for _, other := range b.Facets {
			common = append(common, one&other)
		}
	}
	all := append(slices.Clone(a.Facets), b.Facets...)
	holdsPair(t, a, b, complexOf(a.Points, plainFacets(all)...), complexOf(a.Points, plainFacets(common)...))
}

func TestUnionAndMeetOfFewPoints(t *testing.T) {
	for n := 1; n <= 3; n++ {
		for _, a := range allComplexes(n) {
			for _, b := range allComplexes(n) {
				holdsPlainPair(t, a, b)
			}
		}
	}
}

func TestUnionAndMeetOfSomeComplexes(t *testing.T) {
	list := partComplexes()
	for i, a := range list {
		holdsPlainPair(t, a, a)
		for _, step := range []int{1, 2, 7, 31} {
			if b := list[(i+step)%len(list)]; a.Points == b.Points {
				holdsPlainPair(t, a, b)
			}
		}
		for k := range impl.MaxPoints {
			inner, _ := impl.SkeletonOf(a, k)
			holdsPair(t, a, inner, a, inner)
		}
	}
}

func rejectsPart(t *testing.T, name string, f partFunction, c impl.Complex, number int) {
	t.Helper()
	if got, ok := f(c, number); ok || !isZeroComplex(got) {
		t.Errorf("%s(%v, %d) = %v, %v, want the zero value", name, c, number, got, ok)
	}
}

func rejectsPair(t *testing.T, a impl.Complex, b impl.Complex) {
	t.Helper()
	for name, f := range pairParts {
		if got, ok := f(a, b); ok || !isZeroComplex(got) {
			t.Errorf("%s(%v, %v) = %v, %v, want the zero value", name, a, b, got, ok)
		}
	}
}

func TestPartsOfValuesThatAreNoComplex(t *testing.T) {
	for _, c := range append(noComplexes(), impl.Complex{}) {
		for name, f := range setParts {
			for _, s := range []int{0, 1, 2, 3, 5, 31, 32, 63, -1, 64} {
				rejectsPart(t, name, f, c, s)
			}
		}
		for _, k := range []int{0, 1, 2, 3, 4, 5, 6, -1, 7} {
			rejectsPart(t, "SkeletonOf", impl.SkeletonOf, c, k)
		}
		rejectsPair(t, c, c)
		for _, facets := range [][]int{nil, {0}, {1}} {
			// As many points as the other one has where there can be so many.
			other := complexOf(min(max(c.Points, 1), 6), facets...)
			rejectsPair(t, c, other)
			rejectsPair(t, other, c)
		}
	}
}

func TestPartsAtNumbersThatAreNoSet(t *testing.T) {
	for _, c := range partComplexes() {
		numbers := slices.Clone(neverSets)
		for s := 1 << c.Points; s < 64; s++ {
			numbers = append(numbers, s)
		}
		for _, s := range numbers {
			for name, f := range setParts {
				rejectsPart(t, name, f, c, s)
			}
		}
		for _, k := range neverSizes {
			rejectsPart(t, "SkeletonOf", impl.SkeletonOf, c, k)
		}
	}
}

func TestUnionAndMeetOfDifferentPoints(t *testing.T) {
	for n := 1; n <= 6; n++ {
		for m := 1; m <= 6; m++ {
			for _, facets := range [][]int{nil, {0}, {1}} {
				a, b := complexOf(n, facets...), complexOf(m, facets...)
				if n == m {
					holdsPair(t, a, b, a, a)
				} else {
					rejectsPair(t, a, b)
				}
			}
		}
	}
}

// overwriteParts calls every function of the chapter with c and spoils what it returns.
func overwriteParts(c impl.Complex) {
	var results []impl.Complex
	for _, f := range setParts {
		for _, s := range []int{0, 1, 3, 6, 63, -1} {
			got, _ := f(c, s)
			results = append(results, got)
		}
	}
	for k := -1; k <= 7; k++ {
		got, _ := impl.SkeletonOf(c, k)
		results = append(results, got)
	}
	for _, f := range pairParts {
		for _, other := range []impl.Complex{c, complexOf(c.Points), complexOf(c.Points, 0), complexOf(c.Points, 1)} {
			got, _ := f(c, other)
			turned, _ := f(other, c)
			results = append(results, got, turned)
		}
	}
	for _, got := range results {
		for i := range got.Facets {
			got.Facets[i] = -9
		}
		_ = append(got.Facets, -9, -9, -9, -9, -9, -9, -9, -9)
	}
}

func TestPartFunctionsLeaveTheirLists(t *testing.T) {
	for _, c := range append(partComplexes(), noComplexes()...) {
		front, whole := withSpareCapacity(c.Facets)
		before := slices.Clone(whole)
		overwriteParts(complexOf(c.Points, front...))
		if !slices.Equal(whole, before) {
			t.Errorf("%v has become %v", before, whole)
		}
	}
}

func TestPartResultsAreNewMemory(t *testing.T) {
	c := complexOf(5, 7, 28)
	lists := map[string]func() []int{
		"SkeletonOf 2": func() []int { got, _ := impl.SkeletonOf(c, 2); return got.Facets },
		"SkeletonOf 3": func() []int { got, _ := impl.SkeletonOf(c, 3); return got.Facets },
	}
	for name, f := range setParts {
		for _, s := range []int{0, 4, 7, 31} {
			lists[name+" "+plainText(s)] = func() []int { got, _ := f(c, s); return got.Facets }
		}
	}
	for name, f := range pairParts {
		lists[name] = func() []int { got, _ := f(c, c); return got.Facets }
	}
	holdsNewMemory(t, lists)
}

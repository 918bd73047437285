package tests

import (
	"slices"
	"testing"

	"loop.example/g03100/impl"
)

var pairJoins = map[string]pairFunction{"JoinOf": impl.JoinOf, "DisjointOf": impl.DisjointOf}

// oneJoins are the functions of chapter 6 that take one complex, with the points that each of them adds.
var oneJoins = map[string]struct {
	f     func(c impl.Complex) (impl.Complex, bool)
	added int
}{
	"ConeOf": {impl.ConeOf, 1}, "SuspensionOf": {impl.SuspensionOf, 2},
}

// neverPairs are numbers that CrossComplex rejects.
var neverPairs = append([]int{0, 4, 5, 6}, neverSizes...)

// joinPairs has all pairs with at most 3 points on each side, and others in which a side has 4 or 5.
func joinPairs() [][2]impl.Complex {
	var pairs [][2]impl.Complex
	small := append(append(allComplexes(1), allComplexes(2)...), allComplexes(3)...)
	for _, a := range partComplexes() {
		for _, b := range small {
			if a.Points+b.Points > 6 {
				continue
			}
			pairs = append(pairs, [2]impl.Complex{a, b})
			if a.Points > 3 {
				pairs = append(pairs, [2]impl.Complex{b, a})
			}
		}
	}
	return pairs
}

// plainMoved gives each point of s a new number.
func plainMoved(s int, by int) int {
	moved := 0
	for _, point := range plainPoints(s) {
		moved += []int{1, 2, 4, 8, 16, 32}[point+by]
	}
	return moved
}

// plainSides divides a set into its points below n and the others, which are counted from 0 again.
func plainSides(s int, n int) (int, int) {
	power := []int{1, 2, 4, 8, 16, 32, 64}[n]
	return s % power, s / power
}

func faceTable(c impl.Complex) [64]bool {
	var table [64]bool
	for _, face := range plainFaces(c.Facets) {
		table[face] = true
	}
	return table
}

func holdsJoined(t *testing.T, name string, got impl.Complex, ok bool, points int, want [64]bool) {
	t.Helper()
	if !ok || !impl.IsComplex(got) || got.Points != points || faceTable(got) != want {
		t.Errorf("%s = %v, %v, want %d points and the faces %v", name, got, ok, points, want)
	}
}

func TestJoinAndDisjointByHand(t *testing.T) {
	cases := []struct{ a, b, join, disjoint string }{
		{"1:a", "1:a", "2:ab", "2:a,b"},
		{"1:a", "2:a,b", "3:ab,ac", "3:a,b,c"},
		{"2:a,b", "1:a", "3:ac,bc", "3:a,b,c"},
		{"2:a,b", "2:a,b", "4:ac,bc,ad,bd", "4:a,b,c,d"},
		{"2:a,b", "2:ab", "4:acd,bcd", "4:a,b,cd"},
		{"2:ab", "2:a,b", "4:abc,abd", "4:c,d,ab"},
		{"3:c,ab", "2:ab", "5:cde,abde", "5:c,ab,de"},
		{"2:ab", "3:c,ab", "5:abe,abcd", "5:e,ab,cd"},
		{"3:ab,ac,bc", "2:a,b", "5:abd,acd,bcd,abe,ace,bce", "5:d,e,ab,ac,bc"},
		// MaxPoints points together.
		{"3:a,b,c", "3:a,b,c", "6:ad,bd,cd,ae,be,ce,af,bf,cf", "6:a,b,c,d,e,f"},
		{"3:ab", "3:bc", "6:abef", "6:ab,ef"},
		{"4:abc,abd,acd,bcd", "2:a,b", "6:abce,abde,acde,bcde,abcf,abdf,acdf,bcdf", "6:e,f,abc,abd,acd,bcd"},
		{"2:a,b", "4:abc,abd,acd,bcd", "6:acde,bcde,acdf,bcdf,acef,bcef,adef,bdef", "6:a,b,cde,cdf,cef,def"},
		{"5:abc,cde", "1:a", "6:abcf,cdef", "6:f,abc,cde"},
		{"1:a", "5:abc,cde", "6:abcd,adef", "6:a,bcd,def"},
		{"5:abcde", "1:a", "6:abcdef", "6:f,abcde"},
		{"1:a", "5:abcde", "6:abcdef", "6:a,bcdef"},
		// Points that are in no face.
		{"3:b", "3:ac", "6:bdf", "6:b,df"},
		{"4:d,ab", "2:b", "6:df,abf", "6:d,f,ab"},
		{"2:b", "4:d,ab", "6:bf,bcd", "6:b,f,cd"},
		// The empty set alone.
		{"1:-", "1:-", "2:-", "2:-"}, {"3:-", "3:-", "6:-", "6:-"},
		{"1:-", "1:a", "2:b", "2:b"}, {"1:a", "1:-", "2:a", "2:a"},
		{"2:-", "3:c,ab", "5:e,cd", "5:e,cd"}, {"3:c,ab", "2:-", "5:c,ab", "5:c,ab"},
		{"1:-", "5:abc,cde", "6:bcd,def", "6:bcd,def"}, {"5:abc,cde", "1:-", "6:abc,cde", "6:abc,cde"},
		// No faces at all.
		{"1:", "1:", "2:", "2:"}, {"3:", "3:", "6:", "6:"},
		{"1:", "1:a", "2:", "2:b"}, {"1:a", "1:", "2:", "2:a"},
		{"2:", "2:a", "4:", "4:c"}, {"2:a", "2:", "4:", "4:a"},
		{"2:", "3:c,ab", "5:", "5:e,cd"}, {"3:c,ab", "2:", "5:", "5:c,ab"},
		{"1:", "5:abc,cde", "6:", "6:bcd,def"}, {"5:abc,cde", "1:", "6:", "6:abc,cde"},
		// One has no faces, the other one the empty set alone.
		{"1:", "1:-", "2:", "2:-"}, {"1:-", "1:", "2:", "2:-"}, {"2:", "4:-", "6:", "6:-"}, {"4:-", "2:", "6:", "6:-"},
	}
	for _, c := range cases {
		for name, want := range map[string]string{"JoinOf": c.join, "DisjointOf": c.disjoint} {
			got, ok := pairJoins[name](readComplex(t, c.a), readComplex(t, c.b))
			if !ok || !sameComplex(got, readComplex(t, want)) {
				t.Errorf("%s of %s and %s = %v, %v, want %s", name, c.a, c.b, got, ok, want)
			}
		}
	}
}

// TestFacesOfAJoinArePairsOfFaces holds promise 6: the faces are counted by pairs, and each one is the union of one pair.
func TestFacesOfAJoinArePairsOfFaces(t *testing.T) {
	for _, pair := range joinPairs() {
		a, b := pair[0], pair[1]
		join, ok := impl.JoinOf(a, b)
		var want [64]bool
		for _, face := range plainFaces(a.Facets) {
			for _, other := range plainFaces(b.Facets) {
				want[face+plainMoved(other, a.Points)] = true
			}
		}
		holdsJoined(t, "JoinOf "+plainComplexText(a)+" "+plainComplexText(b), join, ok, a.Points+b.Points, want)
		if got := len(impl.FacesOf(join)); got != len(impl.FacesOf(a))*len(impl.FacesOf(b)) {
			t.Errorf("the join of %v and %v has %d faces", a, b, got)
		}
	}
}

// TestJoinAndDisjointHaveTheFacesOfTheChapter asks for each set whether the chapter makes it a face.
func TestJoinAndDisjointHaveTheFacesOfTheChapter(t *testing.T) {
	for _, pair := range joinPairs() {
		a, b := pair[0], pair[1]
		first, second := faceTable(a), faceTable(b)
		var joined, apart [64]bool
		for s := range 64 {
			low, high := plainSides(s, a.Points)
			joined[s] = first[low] && second[high]
			apart[s] = high == 0 && first[low] || low == 0 && second[high]
		}
		texts := " " + plainComplexText(a) + " " + plainComplexText(b)
		join, ok := impl.JoinOf(a, b)
		holdsJoined(t, "JoinOf"+texts, join, ok, a.Points+b.Points, joined)
		disjoint, ok := impl.DisjointOf(a, b)
		holdsJoined(t, "DisjointOf"+texts, disjoint, ok, a.Points+b.Points, apart)
	}
}

// TestCountsOfAJoinAreProducts holds promise 6 once more: sizes of pairs add up.
func TestCountsOfAJoinAreProducts(t *testing.T) {
	for _, pair := range joinPairs() {
		var want [7]int
		for size, count := range impl.FaceCounts(pair[0]) {
			for other, more := range impl.FaceCounts(pair[1]) {
				want[size+other] += count * more
			}
		}
		join, _ := impl.JoinOf(pair[0], pair[1])
		var got [7]int
		copy(got[:], impl.FaceCounts(join))
		if got != want {
			t.Errorf("the join of %v and %v has the counts %v, want %v", pair[0], pair[1], got, want)
		}
	}
}

func TestBothSidesAreInTheirPlaces(t *testing.T) {
	for _, pair := range joinPairs() {
		a, b := pair[0], pair[1]
		if len(a.Facets) == 0 || len(b.Facets) == 0 {
			continue
		}
		var moved []int
		for _, facet := range b.Facets {
			moved = append(moved, plainMoved(facet, a.Points))
		}
		low := plainMoved(63>>(6-a.Points), 0)
		high := plainMoved(63>>(6-b.Points), a.Points)
		for name, f := range pairJoins {
			whole, _ := f(a, b)
			first, _ := impl.InducedOf(whole, low)
			second, _ := impl.InducedOf(whole, high)
			if !slices.Equal(first.Facets, a.Facets) || !slices.Equal(second.Facets, moved) {
				t.Errorf("%s(%v, %v) = %v, with the sides %v and %v", name, a, b, whole, first, second)
			}
		}
	}
}

func TestJoinAndDisjointOfEachNumberOfPoints(t *testing.T) {
	for n := 1; n <= 6; n++ {
		for m := 1; m <= 6; m++ {
			for _, facets := range [][]int{nil, {0}, {1}} {
				for _, other := range [][]int{nil, {0}, {1}} {
					holdsPointsTogether(t, complexOf(n, facets...), complexOf(m, other...))
				}
			}
		}
	}
}

func holdsPointsTogether(t *testing.T, a impl.Complex, b impl.Complex) {
	t.Helper()
	if a.Points+b.Points > 6 {
		rejectsJoins(t, a, b)
		return
	}
	for name, f := range pairJoins {
		if got, ok := f(a, b); !ok || !impl.IsComplex(got) || got.Points != a.Points+b.Points {
			t.Errorf("%s(%v, %v) = %v, %v, want %d points", name, a, b, got, ok, a.Points+b.Points)
		}
	}
}

func rejectsJoins(t *testing.T, a impl.Complex, b impl.Complex) {
	t.Helper()
	for name, f := range pairJoins {
		if got, ok := f(a, b); ok || !isZeroComplex(got) {
			t.Errorf("%s(%v, %v) = %v, %v, want the zero value", name, a, b, got, ok)
		}
	}
}

func TestConeAndSuspensionByHand(t *testing.T) {
	cases := []struct{ c, cone, suspension string }{
		{"2:a,b", "3:ac,bc", "4:ac,bc,ad,bd"},
		{"3:ab,ac,bc", "4:abd,acd,bcd", "5:abd,acd,bcd,abe,ace,bce"},
		{"3:c,ab", "4:cd,abd", "5:cd,ce,abd,abe"},
		{"3:abc", "4:abcd", "5:abcd,abce"},
		// Points that are in no face.
		{"3:b", "4:bd", "5:bd,be"}, {"4:a,cd", "5:ae,cde", "6:ae,af,cde,cdf"},
		// One point.
		{"1:a", "2:ab", "3:ab,ac"},
		// The empty set alone, and no faces at all.
		{"1:-", "2:b", "3:b,c"}, {"3:-", "4:d", "5:d,e"}, {"4:-", "5:e", "6:e,f"},
		{"1:", "2:", "3:"}, {"3:", "4:", "5:"}, {"4:", "5:", "6:"},
		// The most points that there can be.
		{"4:abcd", "5:abcde", "6:abcde,abcdf"},
		{"4:ac,bc,ad,bd", "5:ace,bce,ade,bde", "6:ace,bce,ade,bde,acf,bcf,adf,bdf"},
		{"5:abc,cde", "6:abcf,cdef", ""}, {"5:abcde", "6:abcdef", ""}, {"5:a", "6:af", ""}, {"5:-", "6:f", ""}, {"5:", "6:", ""},
		{"6:a", "", ""}, {"6:abcdef", "", ""}, {"6:f,de,abc", "", ""}, {"6:-", "", ""}, {"6:", "", ""},
	}
	for _, c := range cases {
		for name, want := range map[string]string{"ConeOf": c.cone, "SuspensionOf": c.suspension} {
			var wanted impl.Complex
			if want != "" {
				wanted = readComplex(t, want)
			}
			got, ok := oneJoins[name].f(readComplex(t, c.c))
			if ok != (want != "") || !sameComplex(got, wanted) {
				t.Errorf("%s of %s = %v, %v, want %q", name, c.c, got, ok, want)
			}
		}
	}
}

// TestConeAndSuspensionHaveTheFacesOfTheChapter asks for each set: a face has at most one of the new points.
func TestConeAndSuspensionHaveTheFacesOfTheChapter(t *testing.T) {
	for _, c := range partComplexes() {
		first := faceTable(c)
		for name, join := range oneJoins {
			got, ok := join.f(c)
			if c.Points+join.added > 6 {
				if ok || !isZeroComplex(got) {
					t.Errorf("%s(%v) = %v, %v, want the zero value", name, c, got, ok)
				}
				continue
			}
			var want [64]bool
			for s := range 64 {
				low, high := plainSides(s, c.Points)
				want[s] = first[low] && high <= join.added
			}
			holdsJoined(t, name+" "+plainComplexText(c), got, ok, c.Points+join.added, want)
		}
	}
}

func TestConePointsByHand(t *testing.T) {
	cases := []struct{ c, want string }{
		{"3:ac,bc", "c"}, {"5:abc,cde", "c"}, {"4:abc,abd", "ab"}, {"4:abd,acd", "ad"}, {"6:af,bcdef", "f"}, {"6:abcf,cdef", "cf"},
		{"6:af,ef,abcde", "-"},
		// One facet.
		{"1:a", "a"}, {"5:bd", "bd"}, {"6:abcdef", "abcdef"}, {"6:f", "f"},
		// Facets without a point in common.
		{"2:a,b", "-"}, {"3:c,ab", "-"}, {"3:ab,ac,bc", "-"}, {"6:abc,def", "-"}, {"6:f,de,abc", "-"}, {"4:ab,bc,cd", "-"}, {"4:bc,abd,acd", "-"},
		{"6:a,b,c,d,e,f", "-"}, {"6:abcde,abcdf,abcef,abdef,acdef,bcdef", "-"},
		// The empty set alone, and no faces at all.
		{"1:-", "-"}, {"3:-", "-"}, {"6:-", "-"}, {"1:", "-"}, {"3:", "-"}, {"6:", "-"},
	}
	for _, c := range cases {
		if got := impl.ConePoints(readComplex(t, c.c)); got != readSet(t, c.want) {
			t.Errorf("ConePoints of %s = %d, want %s", c.c, got, c.want)
		}
	}
}

func TestConePointsAreInAllFacets(t *testing.T) {
	for _, c := range partComplexes() {
		want := 0
		for point, power := range []int{1, 2, 4, 8, 16, 32} {
			in := func(facet int) bool { return slices.Contains(plainPoints(facet), point) }
			if len(c.Facets) > 0 && len(listed(c.Facets, in)) == len(c.Facets) {
				want += power
			}
		}
		if got := impl.ConePoints(c); got != want {
			t.Errorf("ConePoints(%v) = %d, want %d", c, got, want)
		}
	}
}

func TestConePointsOfConesAndSuspensions(t *testing.T) {
	for _, c := range partComplexes() {
		if len(c.Facets) == 0 {
			continue
		}
		if cone, ok := impl.ConeOf(c); ok && impl.ConePoints(cone) != impl.ConePoints(c)+plainMoved(1, c.Points) {
			t.Errorf("the cone %v of %v has the cone points %d", cone, c, impl.ConePoints(cone))
		}
		if suspension, ok := impl.SuspensionOf(c); ok && impl.ConePoints(suspension) != impl.ConePoints(c) {
			t.Errorf("the suspension %v of %v has the cone points %d", suspension, c, impl.ConePoints(suspension))
		}
	}
}

func TestCrossComplexByHand(t *testing.T) {
	for k, want := range map[int]string{1: "2:a,b", 2: "4:ac,bc,ad,bd", 3: "6:ace,bce,ade,bde,acf,bcf,adf,bdf"} {
		if got, ok := impl.CrossComplex(k); !ok || !sameComplex(got, readComplex(t, want)) {
			t.Errorf("CrossComplex(%d) = %v, %v, want %s", k, got, ok, want)
		}
	}
}

func TestCrossComplexHasTheFacesOfTheChapter(t *testing.T) {
	for k := 1; k <= 3; k++ {
		var want [64]bool
		for s := range 64 {
			points := plainPoints(s)
			want[s] = len(points) == 0 || points[len(points)-1] < 2*k
			for i := range 3 {
				if slices.Contains(points, 2*i) && slices.Contains(points, 2*i+1) {
					want[s] = false
				}
			}
		}
		got, ok := impl.CrossComplex(k)
		holdsJoined(t, "CrossComplex", got, ok, 2*k, want)
	}
}

func TestCrossComplexRejects(t *testing.T) {
	for _, k := range neverPairs {
		if got, ok := impl.CrossComplex(k); ok || !isZeroComplex(got) {
			t.Errorf("CrossComplex(%d) = %v, %v, want the zero value", k, got, ok)
		}
	}
}

func TestJoinsOfValuesThatAreNoComplex(t *testing.T) {
	others := []impl.Complex{
		complexOf(1), complexOf(1, 0), complexOf(1, 1), complexOf(2, 1, 2), complexOf(6), complexOf(6, 63), {}, complexOf(-1), complexOf(2, 4),
	}
	for _, c := range append(noComplexes(), impl.Complex{}) {
		rejectsJoins(t, c, c)
		for _, other := range others {
			rejectsJoins(t, c, other)
			rejectsJoins(t, other, c)
		}
		for name, join := range oneJoins {
			if got, ok := join.f(c); ok || !isZeroComplex(got) {
				t.Errorf("%s(%v) = %v, %v, want the zero value", name, c, got, ok)
			}
		}
		if got := impl.ConePoints(c); got != 0 {
			t.Errorf("ConePoints(%v) = %d, want 0", c, got)
		}
	}
}

// overwriteJoins calls every function of the chapter that takes a complex with c and spoils what it returns.
func overwriteJoins(c impl.Complex) {
	var results []impl.Complex
	for _, f := range pairJoins {
		for _, other := range []impl.Complex{c, complexOf(1), complexOf(1, 0), complexOf(1, 1), complexOf(2, 1, 2)} {
			got, _ := f(c, other)
			turned, _ := f(other, c)
			results = append(results, got, turned)
		}
	}
	for _, join := range oneJoins {
		got, _ := join.f(c)
		results = append(results, got)
	}
	impl.ConePoints(c)
	for _, got := range results {
		for i := range got.Facets {
			got.Facets[i] = -9
		}
		_ = append(got.Facets, -9, -9, -9, -9, -9, -9, -9, -9)
	}
}

func TestJoinFunctionsLeaveTheirLists(t *testing.T) {
	for _, c := range append(partComplexes(), noComplexes()...) {
		front, whole := withSpareCapacity(c.Facets)
		before := slices.Clone(whole)
		overwriteJoins(complexOf(c.Points, front...))
		if !slices.Equal(whole, before) {
			t.Errorf("%v has become %v", before, whole)
		}
	}
}

func TestJoinResultsAreNewMemory(t *testing.T) {
	c, empty := complexOf(3, 4, 3), complexOf(3, 0)
	lists := map[string]func() []int{
		"CrossComplex 1": func() []int { got, _ := impl.CrossComplex(1); return got.Facets },
		"CrossComplex 3": func() []int { got, _ := impl.CrossComplex(3); return got.Facets },
	}
	for name, f := range pairJoins {
		lists[name] = func() []int { got, _ := f(c, c); return got.Facets }
		lists[name+" -"] = func() []int { got, _ := f(c, empty); return got.Facets }
		lists["- "+name] = func() []int { got, _ := f(empty, c); return got.Facets }
	}
	for name, join := range oneJoins {
		lists[name] = func() []int { got, _ := join.f(c); return got.Facets }
		lists[name+" -"] = func() []int { got, _ := join.f(empty); return got.Facets }
	}
	holdsNewMemory(t, lists)
}

package tests

import (
	"math"
	"slices"
	"sort"
	"testing"

	"loop.example/g03100/impl"
)

// plainNames has all lists of names for n points: the greatest number stands at each place of each shorter list.
func plainNames(n int) [][]int {
	lists := [][]int{{}}
	for number := range n {
		var longer [][]int
		for _, list := range lists {
			for place := range number + 1 {
				longer = append(longer, slices.Insert(slices.Clone(list), place, number))
			}
		}
		lists = longer
	}
	return lists
}

// someNames has all lists of names for at most 4 points, and every 40th one for more.
func someNames(n int) [][]int {
	all := plainNames(n)
	if n <= 4 {
		return all
	}
	var some [][]int
	for i := 0; i < len(all); i += 40 {
		some = append(some, all[i])
	}
	return some
}

func plainRenamed(s int, names []int) int {
	renamed := 0
	for _, point := range plainPoints(s) {
		renamed += []int{1, 2, 4, 8, 16, 32}[names[point]]
	}
	return renamed
}

// orderPlaces has the place of each set in plainOrder.
func orderPlaces() [64]int {
	var places [64]int
	for place, s := range plainOrder() {
		places[s] = place
	}
	return places
}

func plainRenamedFacets(c impl.Complex, names []int, places [64]int) []int {
	var facets []int
	for _, facet := range c.Facets {
		facets = append(facets, plainRenamed(facet, names))
	}
	sort.Slice(facets, func(i int, j int) bool { return places[facets[i]] < places[facets[j]] })
	return facets
}

// plainNaming is what chapter 9 says of a complex and all names for its points.
type plainNaming struct {
	canonical  impl.Complex
	symmetries int
	classes    []int
}

func plainNamingOf(c impl.Complex, places [64]int) plainNaming {
	want := plainNaming{canonical: c}
	reached := [6]int{1, 2, 4, 8, 16, 32}
	for _, names := range plainNames(c.Points) {
		facets := plainRenamedFacets(c, names, places)
		if isLesser(facets, want.canonical.Facets) {
			want.canonical = complexOf(c.Points, facets...)
		}
		if !slices.Equal(facets, c.Facets) {
			continue
		}
		want.symmetries++
		for point, name := range names {
			reached[point] |= []int{1, 2, 4, 8, 16, 32}[name]
		}
	}
	for point := range c.Points {
		// A class is listed at its least point.
		if plainPoints(reached[point])[0] == point {
			want.classes = append(want.classes, reached[point])
		}
	}
	return want
}

// isLesser is for lists of the same length.
func isLesser(list []int, other []int) bool {
	for i := range list {
		if list[i] != other[i] {
			return list[i] < other[i]
		}
	}
	return false
}

func holdsNaming(t *testing.T, c impl.Complex, want plainNaming) {
	t.Helper()
	if got, ok := impl.CanonicalComplex(c); !ok || !sameComplex(got, want.canonical) {
		t.Errorf("CanonicalComplex(%v) = %v, %v, want %v", c, got, ok, want.canonical)
	}
	if got := impl.CountSymmetries(c); got != want.symmetries {
		t.Errorf("CountSymmetries(%v) = %d, want %d", c, got, want.symmetries)
	}
	if got := impl.PointClasses(c); !slices.Equal(got, want.classes) {
		t.Errorf("PointClasses(%v) = %v, want %v", c, got, want.classes)
	}
}

func TestRenameSetByHand(t *testing.T) {
	cases := []struct {
		s     string
		names []int
		want  string
	}{
		{"ac", []int{1, 2, 0}, "ab"}, {"ab", []int{1, 2, 0}, "bc"}, {"c", []int{1, 2, 0}, "a"}, {"a", []int{2, 0, 1}, "c"},
		{"b", []int{0, 2, 3, 1}, "c"}, {"bd", []int{3, 0, 1, 2}, "ac"}, {"af", []int{1, 2, 3, 4, 5, 0}, "ab"}, {"bce", []int{5, 0, 1, 4, 2, 3}, "abc"},
		// Names that are their own inverse, and names that change nothing.
		{"ab", []int{2, 1, 0}, "bc"}, {"c", []int{1, 0, 2}, "c"}, {"abf", []int{5, 4, 3, 2, 1, 0}, "aef"},
		{"b", []int{0, 1, 2}, "b"}, {"bdf", []int{0, 1, 2, 3, 4, 5}, "bdf"},
		// One point.
		{"-", []int{0}, "-"}, {"a", []int{0}, "a"},
		// The empty set, and the set of all points.
		{"-", []int{1, 2, 0}, "-"}, {"abc", []int{1, 2, 0}, "abc"}, {"ab", []int{1, 0}, "ab"},
		{"-", []int{5, 3, 1, 0, 2, 4}, "-"}, {"abcdef", []int{5, 3, 1, 0, 2, 4}, "abcdef"},
	}
	for _, c := range cases {
		if got, ok := impl.RenameSet(readSet(t, c.s), c.names); !ok || got != readSet(t, c.want) {
			t.Errorf("RenameSet of %s and %v = %d, %v, want %s", c.s, c.names, got, ok, c.want)
		}
	}
}

func TestRenameSetWithAllNames(t *testing.T) {
	for n := 1; n <= 6; n++ {
		for _, names := range plainNames(n) {
			for s := range 1 << n {
				if got, ok := impl.RenameSet(s, names); !ok || got != plainRenamed(s, names) {
					t.Errorf("RenameSet(%d, %v) = %d, %v, want %d", s, names, got, ok, plainRenamed(s, names))
				}
			}
		}
	}
}

// neverNames are lists of n numbers that are no names for n points, for n from 1 to 6.
func neverNames(n int) [][]int {
	var lists [][]int
	bad := []int{-1, -2, -n, n, n + 1, 6, 7, 63, 64, 1 << 32, 1<<32 + 1, -1 << 32, math.MaxInt, math.MaxInt - 1, math.MinInt, math.MinInt + 1}
	names := plainNames(n)
	for _, list := range [][]int{names[0], names[len(names)-1], names[len(names)/2]} {
		for place := range n {
			for _, number := range append(bad, list...) {
				other := slices.Clone(list)
				other[place] = number
				if number != list[place] {
					lists = append(lists, other)
				}
			}
		}
	}
	for _, number := range append(bad, 0, 1, n-1) {
		if n > 1 || number != 0 {
			lists = append(lists, slices.Repeat([]int{number}, n))
		}
	}
	return lists
}

// neverLists are lists of too few numbers or too many, which are names for no number of points.
func neverLists() [][]int {
	return [][]int{
		nil, {}, plainNames(7)[0], plainNames(7)[1], {0, 1, 2, 3, 4, 5, 5}, {0, 1, 2, 3, 4, 5, 0}, {0, 1, 2, 3, 4, 5, -1},
		make([]int, 7), slices.Repeat([]int{0, 1, 2, 3, 4, 5}, 2), upTo(8), upTo(63), upTo(64), upTo(65), upTo(1000),
	}
}

func upTo(n int) []int {
	var list []int
	for number := range n {
		list = append(list, number)
	}
	return list
}

func rejectsToRenameSet(t *testing.T, s int, names []int) {
	t.Helper()
	if got, ok := impl.RenameSet(s, names); ok || got != 0 {
		t.Errorf("RenameSet(%d, %v) = %d, %v, want 0, false", s, names, got, ok)
	}
}

func TestRenameSetRejects(t *testing.T) {
	for n := 1; n <= 6; n++ {
		for _, names := range neverNames(n) {
			for _, s := range []int{0, 1, 1<<n - 1, 1 << n, 63, -1} {
				rejectsToRenameSet(t, s, names)
			}
		}
		for _, names := range someNames(n) {
			for s := 1 << n; s <= 70; s++ {
				rejectsToRenameSet(t, s, names)
			}
			for _, s := range neverSets {
				rejectsToRenameSet(t, s, names)
			}
		}
	}
	for _, names := range neverLists() {
		for _, s := range append(plainOrder(), neverSets...) {
			rejectsToRenameSet(t, s, names)
		}
	}
}

func TestRenameComplexByHand(t *testing.T) {
	cases := []struct {
		c     string
		names []int
		want  string
	}{
		{"3:c,ab", []int{2, 1, 0}, "3:a,bc"}, {"3:c,ab", []int{1, 2, 0}, "3:a,bc"}, {"3:c,ab", []int{2, 0, 1}, "3:b,ac"}, {"3:c,ab", []int{1, 0, 2}, "3:c,ab"},
		{"4:ab,bc,cd", []int{1, 2, 3, 0}, "4:bc,ad,cd"}, {"4:d,abc", []int{1, 2, 3, 0}, "4:a,bcd"}, {"5:abc,cde", []int{4, 2, 0, 3, 1}, "5:abd,ace"},
		{"6:f,de,abc", []int{1, 2, 3, 4, 5, 0}, "6:a,ef,bcd"}, {"6:f,de,abc", []int{5, 4, 3, 2, 1, 0}, "6:a,bc,def"},
		// Names that change nothing.
		{"3:c,ab", []int{0, 1, 2}, "3:c,ab"}, {"6:f,de,abc", []int{0, 1, 2, 3, 4, 5}, "6:f,de,abc"}, {"1:a", []int{0}, "1:a"},
		// Points that are in no face.
		{"4:ab", []int{2, 3, 0, 1}, "4:cd"}, {"3:a", []int{1, 2, 0}, "3:b"}, {"6:bd", []int{1, 2, 3, 4, 5, 0}, "6:ce"},
		// No faces at all, the empty set alone, and all sets.
		{"1:", []int{0}, "1:"}, {"3:", []int{1, 2, 0}, "3:"}, {"6:", []int{1, 2, 3, 4, 5, 0}, "6:"},
		{"1:-", []int{0}, "1:-"}, {"3:-", []int{1, 2, 0}, "3:-"}, {"6:-", []int{1, 2, 3, 4, 5, 0}, "6:-"},
		{"3:abc", []int{1, 2, 0}, "3:abc"}, {"6:abcdef", []int{1, 2, 3, 4, 5, 0}, "6:abcdef"},
	}
	for _, c := range cases {
		if got, ok := impl.RenameComplex(readComplex(t, c.c), c.names); !ok || !sameComplex(got, readComplex(t, c.want)) {
			t.Errorf("RenameComplex of %s and %v = %v, %v, want %s", c.c, c.names, got, ok, c.want)
		}
	}
}

// TestRenameComplexHasTheFacesOfTheChapter asks for each face with its new names, and goes back with the inverse names.
func TestRenameComplexHasTheFacesOfTheChapter(t *testing.T) {
	for _, c := range partComplexes() {
		isFace := faceTable(c)
		for _, names := range someNames(c.Points) {
			var want [64]bool
			for s := range 1 << c.Points {
				want[plainRenamed(s, names)] = isFace[s]
			}
			got, ok := impl.RenameComplex(c, names)
			holdsJoined(t, "RenameComplex "+plainComplexText(c), got, ok, c.Points, want)
			inverse := make([]int, len(names))
			for point, name := range names {
				inverse[name] = point
			}
			if back, ok := impl.RenameComplex(got, inverse); !ok || !sameComplex(back, c) {
				t.Errorf("RenameComplex(%v, %v) = %v, %v, want %v", got, inverse, back, ok, c)
			}
		}
	}
}

func rejectsToRename(t *testing.T, c impl.Complex, names []int) {
	t.Helper()
	if got, ok := impl.RenameComplex(c, names); ok || !isZeroComplex(got) {
		t.Errorf("RenameComplex(%v, %v) = %v, %v, want the zero value", c, names, got, ok)
	}
}

func TestRenameComplexRejectsNames(t *testing.T) {
	for n := 1; n <= 6; n++ {
		full, _ := impl.FullComplex(n)
		for _, c := range []impl.Complex{complexOf(n), complexOf(n, 0), complexOf(n, 1), full} {
			for m := 1; m <= 6; m++ {
				for _, names := range neverNames(m) {
					rejectsToRename(t, c, names)
				}
				if m == n {
					continue
				}
				// Names for fewer points, or for more.
				for _, names := range someNames(m) {
					rejectsToRename(t, c, names)
				}
			}
			for _, names := range neverLists() {
				rejectsToRename(t, c, names)
			}
		}
	}
}

func TestNamingByHand(t *testing.T) {
	cases := []struct {
		c, canonical string
		symmetries   int
		classes      string
	}{
		{"3:c,ab", "3:a,bc", 2, "ab,c"}, {"3:b,ac", "3:a,bc", 2, "ac,b"}, {"3:a,bc", "3:a,bc", 2, "a,bc"},
		{"4:ab,bc,cd", "4:ab,ac,bd", 2, "ad,bc"}, {"4:ad,bd,cd", "4:ab,ac,ad", 6, "abc,d"}, {"4:ac,bc,ad,bd", "4:ab,ac,bd,cd", 8, "abcd"},
		{"5:ab,bc,cd,ae,de", "5:ab,ac,bd,ce,de", 10, "abcde"}, {"5:abc,cde", "5:abc,ade", 8, "abde,c"}, {"5:de,abc", "5:ab,cde", 12, "abc,de"},
		{"5:abc,abd,cde", "5:abc,abd,cde", 4, "ab,cd,e"}, {"6:f,de,abc", "6:a,bc,def", 12, "abc,de,f"}, {"6:ab,cd,ef", "6:ab,cd,ef", 48, "abcdef"},
		{"6:ace,bce,ade,bde,acf,bcf,adf,bdf", "6:abc,abd,ace,ade,bcf,bdf,cef,def", 48, "abcdef"},
		{"6:acd,bcd,abe,ace,bde,abf,bcf,adf,cef,def", "6:abc,abd,ace,bde,cde,bcf,adf,cdf,aef,bef", 60, "abcdef"},
		// Points of one class that do not follow one another, and classes whose sets are not in order.
		{"4:abc,bcd", "4:abc,abd", 4, "ad,bc"}, {"5:ab,ae,be,ce", "5:ab,ac,bc,ad", 2, "ab,c,d,e"}, {"6:abcd,cdef", "6:abcd,abef", 16, "abef,cd"},
		// Only the names that change nothing keep it.
		{"2:b", "2:a", 1, "a,b"}, {"4:ab,bc", "4:ab,ac", 2, "ac,b,d"}, {"4:d,bc", "4:a,bc", 2, "a,bc,d"}, {"6:ab,ac,bc,ad,be,ef", "6:ab,ac,bc,ad,be,df", 1, "a,b,c,d,e,f"},
		// Points that are in no face.
		{"2:a", "2:a", 1, "a,b"}, {"3:b", "3:a", 2, "ac,b"}, {"4:cd", "4:ab", 4, "ab,cd"}, {"6:cf", "6:ab", 48, "abde,cf"}, {"6:bcdef", "6:abcde", 120, "a,bcdef"},
		// All names keep it.
		{"2:a,b", "2:a,b", 2, "ab"}, {"3:ab,ac,bc", "3:ab,ac,bc", 6, "abc"}, {"4:abc,abd,acd,bcd", "4:abc,abd,acd,bcd", 24, "abcd"},
		{"6:a,b,c,d,e,f", "6:a,b,c,d,e,f", 720, "abcdef"}, {"6:abcde,abcdf,abcef,abdef,acdef,bcdef", "6:abcde,abcdf,abcef,abdef,acdef,bcdef", 720, "abcdef"},
		// One point.
		{"1:a", "1:a", 1, "a"}, {"1:-", "1:-", 1, "a"}, {"1:", "1:", 1, "a"},
		// No faces at all, the empty set alone, and all sets.
		{"2:", "2:", 2, "ab"}, {"3:", "3:", 6, "abc"}, {"6:", "6:", 720, "abcdef"}, {"2:-", "2:-", 2, "ab"}, {"5:-", "5:-", 120, "abcde"},
		{"6:-", "6:-", 720, "abcdef"}, {"2:ab", "2:ab", 2, "ab"}, {"4:abcd", "4:abcd", 24, "abcd"}, {"6:abcdef", "6:abcdef", 720, "abcdef"},
	}
	for _, c := range cases {
		holdsNaming(t, readComplex(t, c.c), plainNaming{readComplex(t, c.canonical), c.symmetries, readSets(t, c.classes)})
	}
}

func TestNamingOfSomeComplexes(t *testing.T) {
	places := orderPlaces()
	for _, c := range partComplexes() {
		holdsNaming(t, c, plainNamingOf(c, places))
	}
}

// TestComplexesThatDifferInNamesOnlyAreAlike holds promise 9.
func TestComplexesThatDifferInNamesOnlyAreAlike(t *testing.T) {
	places := orderPlaces()
	for i, c := range partComplexes() {
		canonical, _ := impl.CanonicalComplex(c)
		symmetries := impl.CountSymmetries(c)
		all := plainNames(c.Points)
		for _, k := range []int{0, 7 * i, 31*i + 1} {
			names := all[k%len(all)]
			other := complexOf(c.Points, plainRenamedFacets(c, names, places)...)
			if !impl.AreAlike(c, other) || !impl.AreAlike(other, c) {
				t.Errorf("%v and %v, with the names %v, are not alike", c, other, names)
			}
			if got, ok := impl.CanonicalComplex(other); !ok || !sameComplex(got, canonical) {
				t.Errorf("CanonicalComplex(%v) = %v, %v, and that of %v is %v", other, got, ok, c, canonical)
			}
			if got := impl.CountSymmetries(other); got != symmetries {
				t.Errorf("%v and %v have %d and %d symmetries", c, other, symmetries, got)
			}
			holdsRenamedClasses(t, c, other, names)
		}
	}
}

// holdsRenamedClasses compares them as sets of sets, since the least points may change.
func holdsRenamedClasses(t *testing.T, c impl.Complex, other impl.Complex, names []int) {
	t.Helper()
	all := func(int) bool { return true }
	var want []int
	for _, class := range impl.PointClasses(c) {
		want = append(want, plainRenamed(class, names))
	}
	if got := impl.PointClasses(other); !slices.Equal(listed(got, all), listed(want, all)) {
		t.Errorf("PointClasses(%v) = %v, and with the names %v those of %v are %v", other, got, names, c, want)
	}
}

func holdsAlike(t *testing.T, a impl.Complex, b impl.Complex, want bool) {
	t.Helper()
	if impl.AreAlike(a, b) != want || impl.AreAlike(b, a) != want {
		t.Errorf("AreAlike is not %v for %v and %v", want, a, b)
	}
}

func TestAlikeByHand(t *testing.T) {
	cases := []struct {
		a, b string
		want bool
	}{
		{"3:c,ab", "3:b,ac", true}, {"3:c,ab", "3:a,bc", true}, {"4:ab,bc,cd", "4:ac,bd,cd", true}, {"5:ab,bc,cd,ae,de", "5:ac,bd,ad,be,ce", true},
		{"5:abc,cde", "5:abe,acd", true}, {"6:f,de,abc", "6:a,bc,def", true}, {"6:ab,cd,ef", "6:af,be,cd", true}, {"6:f", "6:a", true},
		{"6:ab,ac,bc,ad,be,ef", "6:ad,ae,cd,bf,cf,df", true},
		// With itself.
		{"1:a", "1:a", true}, {"1:-", "1:-", true}, {"1:", "1:", true}, {"6:", "6:", true}, {"6:-", "6:-", true}, {"6:abcdef", "6:abcdef", true},
		// The same counts of faces.
		{"4:ab,bc,cd", "4:ab,ac,ad", false}, {"4:ab,bc,cd", "4:d,ab,ac,bc", false}, {"5:ab,ac,bc,de", "5:ab,bc,cd,de", false},
		{"6:ab,ac,bc,de,df,ef", "6:ab,bc,cd,de,af,ef", false}, {"6:d,e,f,abc", "6:d,e,f,ab,ac,bc", false},
		{"5:abc,ad,ae", "5:abc,ad,be", false}, {"6:abc,def,ad", "6:abc,cde,af", false},
		// The same facets of different numbers of points.
		{"1:", "2:", false}, {"1:-", "6:-", false}, {"3:ab", "4:ab", false}, {"5:a", "6:a", false}, {"5:abc,cde", "6:abc,cde", false},
		// Other counts of faces.
		{"1:", "1:-", false}, {"1:-", "1:a", false}, {"6:", "6:-", false}, {"3:c,ab", "3:ab", false}, {"2:a,b", "2:ab", false}, {"6:abcdef", "6:abcde", false},
		{"4:abc,abd", "4:abc,abd,acd", false},
	}
	for _, c := range cases {
		a, b := orderedComplex(t, c.a), orderedComplex(t, c.b)
		holdsAlike(t, a, b, c.want)
	}
}

// orderedComplex reads facets in any order.
func orderedComplex(t *testing.T, text string) impl.Complex {
	t.Helper()
	return complexOf(int(text[0]-'0'), plainFacets(readSets(t, text[2:]))...)
}

// TestAlikeExactlyIfNamesLeadToTheOther goes through all pairs of complexes of few points.
func TestAlikeExactlyIfNamesLeadToTheOther(t *testing.T) {
	var all []impl.Complex
	for n := 1; n <= 3; n++ {
		all = append(all, allComplexes(n)...)
	}
	places := orderPlaces()
	for _, a := range all {
		for _, b := range all {
			leads := func(names []int) bool { return slices.Equal(plainRenamedFacets(a, names, places), b.Facets) }
			want := a.Points == b.Points && slices.ContainsFunc(plainNames(a.Points), leads)
			if got := impl.AreAlike(a, b); got != want {
				t.Errorf("AreAlike(%v, %v) = %v", a, b, got)
			}
		}
	}
}

// allOfOneMore makes each complex of n + 1 points from two of n: the faces without the last point, and what is a face with it.
func allOfOneMore(list []impl.Complex) []impl.Complex {
	var all []impl.Complex
	for _, rest := range list {
		isFace := faceTable(rest)
		for _, link := range list {
			if slices.ContainsFunc(link.Facets, func(s int) bool { return !isFace[s] }) {
				continue
			}
			sets := slices.Clone(rest.Facets)
			for _, s := range link.Facets {
				sets = append(sets, s+1<<rest.Points)
			}
			all = append(all, complexOf(rest.Points+1, plainFacets(sets)...))
		}
	}
	return all
}

// TestCountOfKinds knows how many complexes there are that are not alike, and so also how many symmetries they have together.
func TestCountOfKinds(t *testing.T) {
	list := []impl.Complex{complexOf(1), complexOf(1, 0), complexOf(1, 1)}
	orders := 1
	for n, want := range []int{0, 3, 5, 10, 30} {
		if n == 0 {
			continue
		}
		if n > 1 {
			list = allOfOneMore(list)
		}
		orders *= n
		kinds := map[string]bool{}
		symmetries := 0
		for _, c := range list {
			canonical, _ := impl.CanonicalComplex(c)
			kinds[plainComplexText(canonical)] = true
			symmetries += impl.CountSymmetries(c)
		}
		if len(list) != []int{0, 3, 6, 20, 168}[n] || len(kinds) != want || symmetries != want*orders {
			t.Errorf("%d complexes of %d points are of %d kinds, want %d, and have %d symmetries", len(list), n, len(kinds), want, symmetries)
		}
	}
}

// TestClassesHoldEachPointOnce also knows their order and that the sizes divide the number of symmetries.
func TestClassesHoldEachPointOnce(t *testing.T) {
	for _, c := range partComplexes() {
		together, last := 0, -1
		for _, class := range impl.PointClasses(c) {
			points := plainPoints(class)
			if len(points) == 0 || points[0] <= last || together&class != 0 || impl.CountSymmetries(c)%len(points) != 0 {
				t.Errorf("PointClasses(%v) = %v", c, impl.PointClasses(c))
				break
			}
			together, last = together+class, points[0]
		}
		if together != 1<<c.Points-1 {
			t.Errorf("PointClasses(%v) = %v: they hold %d", c, impl.PointClasses(c), together)
		}
	}
}

func TestNamesOfValuesThatAreNoComplex(t *testing.T) {
	for _, c := range append(noComplexes(), impl.Complex{}) {
		for n := 1; n <= 6; n++ {
			rejectsToRename(t, c, upTo(n))
		}
		rejectsToRename(t, c, nil)
		rejectsToRename(t, c, upTo(7))
		if got, ok := impl.CanonicalComplex(c); ok || !isZeroComplex(got) {
			t.Errorf("CanonicalComplex(%v) = %v, %v, want the zero value", c, got, ok)
		}
		holdsAlike(t, c, c, false)
		holdsAlike(t, c, impl.Complex{}, false)
		for _, facets := range [][]int{nil, {0}, {1}} {
			holdsAlike(t, c, complexOf(min(max(c.Points, 1), 6), facets...), false)
		}
		if got := impl.CountSymmetries(c); got != 0 {
			t.Errorf("CountSymmetries(%v) = %d, want 0", c, got)
		}
		if got := impl.PointClasses(c); len(got) != 0 {
			t.Errorf("PointClasses(%v) = %v, want none", c, got)
		}
	}
}

func TestNameFunctionsLeaveTheirLists(t *testing.T) {
	for _, c := range append(partComplexes(), noComplexes()...) {
		front, whole := withSpareCapacity(c.Facets)
		before := slices.Clone(whole)
		taken := complexOf(c.Points, front...)
		names, allNames := withSpareCapacity(plainNames(min(max(c.Points, 1), 6))[0])
		namesBefore := slices.Clone(allNames)
		renamed, _ := impl.RenameComplex(taken, names)
		canonical, _ := impl.CanonicalComplex(taken)
		for _, got := range [][]int{renamed.Facets, canonical.Facets, impl.PointClasses(taken)} {
			for i := range got {
				got[i] = -9
			}
			_ = append(got, -9, -9, -9, -9, -9, -9, -9, -9)
		}
		impl.RenameSet(1, names)
		impl.CountSymmetries(taken)
		impl.AreAlike(taken, taken)
		if !slices.Equal(whole, before) || !slices.Equal(allNames, namesBefore) {
			t.Errorf("%v and %v have become %v and %v", before, namesBefore, whole, allNames)
		}
	}
}

func TestNameResultsAreNewMemory(t *testing.T) {
	c, canonical := complexOf(3, 4, 3), complexOf(3, 1, 6)
	lists := map[string]func() []int{
		"RenameComplex":           func() []int { got, _ := impl.RenameComplex(c, []int{1, 2, 0}); return got.Facets },
		"RenameComplex itself":    func() []int { got, _ := impl.RenameComplex(c, []int{0, 1, 2}); return got.Facets },
		"CanonicalComplex":        func() []int { got, _ := impl.CanonicalComplex(c); return got.Facets },
		"CanonicalComplex itself": func() []int { got, _ := impl.CanonicalComplex(canonical); return got.Facets },
		"PointClasses":            func() []int { return impl.PointClasses(c) },
	}
	holdsNewMemory(t, lists)
}

package tests

import (
	"fmt"
	"math"
	"slices"
	"strings"
	"testing"

	"loop.example/g03100/impl"
)

func complexOf(n int, facets ...int) impl.Complex { return impl.Complex{Points: n, Facets: facets} }

// sameComplex does not rely on EqualComplex.
func sameComplex(a impl.Complex, b impl.Complex) bool {
	return a.Points == b.Points && slices.Equal(a.Facets, b.Facets)
}

func isZeroComplex(c impl.Complex) bool { return sameComplex(c, impl.Complex{}) }

// neverCounts are numbers of points that no complex has.
var neverCounts = []int{0, -1, -2, -6, -64, 7, 8, 63, 64, 65, 128, 1<<32 + 1, math.MaxInt, math.MinInt, math.MinInt + 1}

// noComplexes are values that are no complex, each for a reason of its own.
func noComplexes() []impl.Complex {
	list := []impl.Complex{
		complexOf(1, 2), complexOf(2, 4), complexOf(3, 8), complexOf(5, 32), complexOf(5, 1, 32), complexOf(3, 63),
		complexOf(3, 2, 1), complexOf(3, 3, 4), complexOf(3, 6, 5), complexOf(6, 7, 24), complexOf(6, 56, 7), complexOf(4, 8, 4, 2, 1),
		complexOf(3, 1, 1), complexOf(3, 0, 0), complexOf(3, 7, 7), complexOf(6, 63, 63), complexOf(3, 3, 5, 5),
		complexOf(3, 0, 1), complexOf(3, 1, 3), complexOf(3, 1, 7), complexOf(3, 4, 3, 7), complexOf(3, 1, 6, 7), complexOf(6, 0, 63),
		complexOf(6, 31, 63), complexOf(4, 1, 2, 9), complexOf(4, 1, 6, 9, 10), complexOf(6, 3, 24, 44, 23),
		complexOf(6, plainOrder()...), complexOf(6, make([]int, 65)...), complexOf(6, make([]int, 1000)...),
	}
	for _, n := range neverCounts {
		list = append(list, complexOf(n), complexOf(n, 0), complexOf(n, 1), complexOf(n, 63))
	}
	for _, bad := range neverSets {
		for n := 1; n <= 6; n++ {
			list = append(list, complexOf(n, bad), complexOf(n, 0, bad), complexOf(n, bad, 1), complexOf(n, 1, bad))
		}
	}
	return list
}

// isPlainComplex judges by the places in plainOrder.
func isPlainComplex(c impl.Complex, order []int) bool {
	if c.Points < 1 || c.Points > 6 {
		return false
	}
	bound := []int{1, 2, 4, 8, 16, 32, 64}[c.Points]
	for i, s := range c.Facets {
		if s < 0 || s >= bound {
			return false
		}
		if i > 0 && slices.Index(order, c.Facets[i-1]) >= slices.Index(order, s) {
			return false
		}
		for j, other := range c.Facets {
			if j != i && (other < 0 || plainSubset(other, s)) {
				return false
			}
		}
	}
	return true
}

// plainFaces has the subsets of the sets, in order.
func plainFaces(sets []int) []int {
	return listed(plainOrder(), func(s int) bool {
		return slices.ContainsFunc(sets, func(facet int) bool { return plainSubset(s, facet) })
	})
}

// plainFacets has the sets that are no proper subset of another one, in order.
func plainFacets(sets []int) []int {
	return listed(sets, func(s int) bool {
		return !slices.ContainsFunc(sets, func(o int) bool { return o != s && plainSubset(s, o) })
	})
}

func plainComplexText(c impl.Complex) string {
	var texts []string
	for _, s := range c.Facets {
		texts = append(texts, plainText(s))
	}
	return fmt.Sprintf("%d:%s", c.Points, strings.Join(texts, ","))
}

// allComplexes has each complex of n points once, for n up to 3.
func allComplexes(n int) []impl.Complex {
	var list []impl.Complex
	sets := 1 << n
	for family := range 1 << sets {
		var facets []int
		for _, s := range plainOrder() {
			if s < sets && family>>s&1 == 1 {
				facets = append(facets, s)
			}
		}
		if slices.Equal(plainFacets(facets), facets) {
			list = append(list, complexOf(n, facets...))
		}
	}
	return list
}

// someComplexes has all complexes of at most 3 points and some of 4 to 6, among them those with the most facets.
func someComplexes() []impl.Complex {
	var list []impl.Complex
	for n := 1; n <= 3; n++ {
		list = append(list, allComplexes(n)...)
	}
	for n := 4; n <= 6; n++ {
		for _, sets := range setLists() {
			var small []int
			for _, s := range sets {
				small = append(small, s%(1<<n))
			}
			list = append(list, complexOf(n, plainFacets(small)...))
		}
		for size := range n + 1 {
			sized := listed(plainOrder(), func(s int) bool { return s < 1<<n && len(plainPoints(s)) == size })
			list = append(list, complexOf(n, sized...))
		}
	}
	return list
}

func TestAllComplexesOfFewPoints(t *testing.T) {
	for n, want := range []int{0, 3, 6, 20} {
		if n > 0 && len(allComplexes(n)) != want {
			t.Errorf("%d complexes of %d points, want %d", len(allComplexes(n)), n, want)
		}
	}
}

func TestIsComplexByHand(t *testing.T) {
	for _, c := range []impl.Complex{
		complexOf(1), complexOf(6), {Points: 2, Facets: []int{}}, complexOf(1, 0), complexOf(6, 0), complexOf(1, 1), complexOf(2, 3),
		complexOf(2, 1, 2), complexOf(3, 4, 3), complexOf(3, 3, 5, 6), complexOf(6, 63), complexOf(6, 32, 24, 7), complexOf(6, 7, 56),
	} {
		if !impl.IsComplex(c) {
			t.Errorf("%v is no complex", c)
		}
	}
	for _, c := range append(noComplexes(), impl.Complex{}) {
		if impl.IsComplex(c) {
			t.Errorf("%v is a complex", c)
		}
	}
}

// TestIsComplexOnShortLists goes through all lists of at most 4 numbers from -1 to 2^n.
func TestIsComplexOnShortLists(t *testing.T) {
	order := plainOrder()
	for n := 1; n <= 3; n++ {
		lists := [][]int{nil}
		for start, length := 0, 0; length <= 4; length++ {
			end := len(lists)
			for _, list := range lists[start:end] {
				c := complexOf(n, list...)
				if want := isPlainComplex(c, order); impl.IsComplex(c) != want {
					t.Fatalf("IsComplex(%v) is not %v", c, want)
				}
				for s := -1; length < 4 && s <= 1<<n; s++ {
					lists = append(lists, append(slices.Clone(list), s))
				}
			}
			start = end
		}
	}
}

func TestIsComplexOnManyPoints(t *testing.T) {
	order := plainOrder()
	for _, c := range someComplexes() {
		if !impl.IsComplex(c) || !isPlainComplex(c, order) {
			t.Errorf("%v is no complex", c)
		}
		for n := range 9 {
			other := complexOf(n, c.Facets...)
			if want := isPlainComplex(other, order); impl.IsComplex(other) != want {
				t.Errorf("IsComplex(%v) is not %v", other, want)
			}
		}
	}
	for _, list := range setLists() {
		c := complexOf(6, list...)
		if want := isPlainComplex(c, order); impl.IsComplex(c) != want {
			t.Errorf("IsComplex(%v) is not %v", c, want)
		}
	}
}

func TestMakeComplexByHand(t *testing.T) {
	cases := []struct {
		n    int
		sets []int
		want []int
	}{
		{1, nil, nil}, {6, nil, nil}, {2, []int{}, nil},
		{1, []int{0}, []int{0}}, {6, []int{0, 0}, []int{0}}, {1, []int{0, 1}, []int{1}}, {1, []int{1, 0}, []int{1}},
		{3, []int{3, 1, 4}, []int{4, 3}}, {3, []int{6, 5, 3}, []int{3, 5, 6}}, {3, []int{7, 7, 7}, []int{7}},
		{3, []int{5, 3, 5, 3, 1}, []int{3, 5}}, {6, []int{7, 63, 1}, []int{63}}, {6, []int{7, 24, 32}, []int{32, 24, 7}},
		{4, []int{8, 4, 2, 1}, []int{1, 2, 4, 8}}, {6, []int{0, 1, 3, 7, 15, 31}, []int{31}},
	}
	for _, c := range cases {
		got, ok := impl.MakeComplex(c.n, c.sets)
		if !ok || !sameComplex(got, complexOf(c.n, c.want...)) {
			t.Errorf("MakeComplex(%d, %v) = %v, %v, want the facets %v", c.n, c.sets, got, ok, c.want)
		}
	}
}

func TestMakeComplexHasTheSubsets(t *testing.T) {
	for n := 1; n <= 6; n++ {
		for _, list := range setLists() {
			var sets []int
			for _, s := range list {
				sets = append(sets, s%(1<<n))
			}
			got, ok := impl.MakeComplex(n, sets)
			if !ok || !sameComplex(got, complexOf(n, plainFacets(sets)...)) {
				t.Errorf("MakeComplex(%d, %v) = %v, %v", n, sets, got, ok)
			}
			if faces := impl.FacesOf(got); !slices.Equal(faces, plainFaces(sets)) {
				t.Errorf("MakeComplex(%d, %v) has the faces %v", n, sets, faces)
			}
		}
	}
}

func rejectsToMake(t *testing.T, n int, sets []int) {
	t.Helper()
	if c, ok := impl.MakeComplex(n, sets); ok || !isZeroComplex(c) {
		t.Errorf("MakeComplex(%d, %v) = %v, %v, want the zero value", n, sets, c, ok)
	}
}

func TestMakeComplexRejects(t *testing.T) {
	for _, n := range neverCounts {
		for _, sets := range [][]int{nil, {}, {0}, {1}, {0, 1, 63}, {-1}} {
			rejectsToMake(t, n, sets)
		}
	}
	for n := 1; n <= 6; n++ {
		for _, bad := range append([]int{1 << n, 1<<n + 1}, neverSets...) {
			for _, sets := range [][]int{{bad}, {bad, bad}, {bad, 1}, {0, bad}, {1, bad, 0}, {1<<n - 1, bad}} {
				rejectsToMake(t, n, sets)
			}
		}
	}
}

func TestMakeComplexOf64Sets(t *testing.T) {
	for n := 1; n <= 6; n++ {
		for _, s := range []int{0, 1, 1<<n - 1} {
			same := slices.Repeat([]int{s}, 65)
			if c, ok := impl.MakeComplex(n, same[:64]); !ok || !sameComplex(c, complexOf(n, s)) {
				t.Errorf("64 times the set %d of %d points: %v, %v", s, n, c, ok)
			}
			rejectsToMake(t, n, same)
			rejectsToMake(t, n, slices.Repeat(same, 3))
			rejectsToMake(t, n, append(same[:63:63], 1<<n))
		}
	}
	all := plainOrder()
	if c, ok := impl.MakeComplex(6, all); !ok || !sameComplex(c, complexOf(6, 63)) {
		t.Errorf("all 64 sets: %v, %v", c, ok)
	}
	rejectsToMake(t, 6, append(all, 0))
	rejectsToMake(t, 6, append(all, 63))
}

func TestFacesByHand(t *testing.T) {
	cases := []struct {
		c    impl.Complex
		want []int
	}{
		{complexOf(1), nil}, {complexOf(6), nil}, {complexOf(1, 0), []int{0}}, {complexOf(6, 0), []int{0}},
		{complexOf(1, 1), []int{0, 1}}, {complexOf(6, 32), []int{0, 32}}, {complexOf(2, 3), []int{0, 1, 2, 3}},
		{complexOf(3, 4, 3), []int{0, 1, 2, 4, 3}}, {complexOf(3, 3, 5, 6), []int{0, 1, 2, 4, 3, 5, 6}},
		{complexOf(6, 3, 7<<3), []int{0, 1, 2, 8, 16, 32, 3, 24, 40, 48, 56}}, {complexOf(6, 63), plainOrder()},
	}
	for _, c := range cases {
		if got := impl.FacesOf(c.c); !slices.Equal(got, c.want) {
			t.Errorf("FacesOf(%v) = %v, want %v", c.c, got, c.want)
		}
	}
}

func TestFacesOfAndHasFace(t *testing.T) {
	for _, c := range someComplexes() {
		want := plainFaces(c.Facets)
		if got := impl.FacesOf(c); !slices.Equal(got, want) {
			t.Errorf("FacesOf(%v) = %v, want %v", c, got, want)
		}
		for s := range 64 {
			if got := impl.HasFace(c, s); got != slices.Contains(want, s) {
				t.Errorf("HasFace(%v, %d) = %v", c, s, got)
			}
		}
		for _, bad := range neverSets {
			if impl.HasFace(c, bad) {
				t.Errorf("HasFace(%v, %d)", c, bad)
			}
		}
	}
}

func TestFunctionsOfValuesThatAreNoComplex(t *testing.T) {
	for _, c := range append(noComplexes(), impl.Complex{}) {
		if got := impl.FacesOf(c); len(got) != 0 {
			t.Errorf("FacesOf(%v) = %v, want none", c, got)
		}
		if got := impl.ComplexText(c); got != "" {
			t.Errorf("ComplexText(%v) = %q, want none", c, got)
		}
		for _, s := range append(plainOrder(), neverSets...) {
			if impl.HasFace(c, s) {
				t.Errorf("HasFace(%v, %d)", c, s)
			}
		}
	}
}

func holdsEqual(t *testing.T, a impl.Complex, b impl.Complex, want bool) {
	t.Helper()
	if impl.EqualComplex(a, b) != want || impl.EqualComplex(b, a) != want {
		t.Errorf("EqualComplex is not %v for %v and %v", want, a, b)
	}
}

func TestEqualComplexByHand(t *testing.T) {
	empty := impl.Complex{Points: 2, Facets: []int{}}
	holdsEqual(t, complexOf(2), empty, true)
	holdsEqual(t, impl.Complex{}, impl.Complex{Facets: []int{}}, true)
	holdsEqual(t, impl.Complex{}, impl.Complex{Facets: make([]int, 0, 9)}, true)
	holdsEqual(t, complexOf(3, 4, 3), complexOf(3, 4, 3), true)
	holdsEqual(t, complexOf(3, 4, 3), complexOf(4, 4, 3), false)
	holdsEqual(t, complexOf(3, 4, 3), complexOf(3, 3, 4), false)
	holdsEqual(t, complexOf(3, 4, 3), complexOf(3, 4), false)
	holdsEqual(t, complexOf(3, 4, 3), complexOf(3, 4, 5), false)
	holdsEqual(t, complexOf(3), complexOf(3, 0), false)
	holdsEqual(t, complexOf(3, 0), complexOf(3, 0, 0), false)
	holdsEqual(t, complexOf(3, 5), complexOf(3, 5, 0), false)
	holdsEqual(t, complexOf(3, 1), complexOf(3, 1, 1), false)
	holdsEqual(t, complexOf(3), complexOf(4), false)
	holdsEqual(t, complexOf(0), complexOf(1), false)
	holdsEqual(t, complexOf(2, 1), complexOf(1, 2), false)
}

// TestEqualComplexOfAnyValues holds values against each other that need not be complexes.
func TestEqualComplexOfAnyValues(t *testing.T) {
	values := append(noComplexes(), complexOf(0), complexOf(1, 1), complexOf(3, 4, 3), complexOf(3, 3, 4), complexOf(6, 63))
	for _, c := range values {
		same := complexOf(c.Points, slices.Clone(c.Facets)...)
		holdsEqual(t, c, c, true)
		holdsEqual(t, c, same, true)
		for _, other := range values {
			holdsEqual(t, c, other, sameComplex(c, other))
		}
	}
}

// TestEqualComplexInOneNumber changes numbers by whole powers of 2, too, of which shorter integers would see nothing.
func TestEqualComplexInOneNumber(t *testing.T) {
	for _, n := range []int{3, -7, math.MinInt, math.MaxInt} {
		for shift := range 64 {
			holdsEqual(t, complexOf(n, 5, n), complexOf(n^1<<shift, 5, n), false)
			holdsEqual(t, complexOf(n, 5, n), complexOf(n, 5, n^1<<shift), false)
			holdsEqual(t, complexOf(n, n, 5), complexOf(n, n^1<<shift, 5), false)
		}
	}
}

func TestEqualComplexOfAnyLength(t *testing.T) {
	for _, fill := range []int{0, 1, 7, -1, math.MinInt} {
		whole := complexOf(5, slices.Repeat([]int{fill}, 330)...)
		for length := range 330 {
			front := complexOf(5, whole.Facets[:length]...)
			holdsEqual(t, front, complexOf(5, slices.Clone(front.Facets)...), true)
			holdsEqual(t, front, complexOf(4, front.Facets...), false)
			holdsEqual(t, front, complexOf(5, whole.Facets[:length+1]...), false)
			holdsEqual(t, front, whole, false)
			holdsEqual(t, front, complexOf(5, whole.Facets[:length/2]...), length == 0)
		}
	}
	for _, length := range []int{1, 19, 20, 21, 63, 64, 65, 66, 127, 128, 129, 191, 192, 193, 300} {
		list := make([]int, length)
		for i := range list {
			list[i] = i * i % 50
		}
		for i := range list {
			other := slices.Clone(list)
			holdsEqual(t, complexOf(6, list...), complexOf(6, other...), true)
			other[i]++
			holdsEqual(t, complexOf(6, list...), complexOf(6, other...), false)
		}
	}
}

func TestComplexText(t *testing.T) {
	cases := []struct {
		c    impl.Complex
		want string
	}{
		{complexOf(1), "1:"}, {complexOf(6), "6:"}, {impl.Complex{Points: 2, Facets: []int{}}, "2:"},
		{complexOf(1, 0), "1:-"}, {complexOf(6, 0), "6:-"}, {complexOf(1, 1), "1:a"}, {complexOf(6, 63), "6:abcdef"},
		{complexOf(3, 4, 3), "3:c,ab"}, {complexOf(3, 3, 5, 6), "3:ab,ac,bc"}, {complexOf(6, 32, 24, 7), "6:f,de,abc"},
	}
	for _, c := range cases {
		if got := impl.ComplexText(c.c); got != c.want {
			t.Errorf("ComplexText(%v) = %q, want %q", c.c, got, c.want)
		}
		if got, ok := impl.ParseComplex(c.want); !ok || !sameComplex(got, c.c) {
			t.Errorf("ParseComplex(%q) = %v, %v, want %v", c.want, got, ok, c.c)
		}
	}
}

func TestParseComplexReadsWhatComplexTextWrites(t *testing.T) {
	for _, c := range someComplexes() {
		text := impl.ComplexText(c)
		if want := plainComplexText(c); text != want {
			t.Errorf("ComplexText(%v) = %q, want %q", c, text, want)
		}
		if got, ok := impl.ParseComplex(text); !ok || !sameComplex(got, c) {
			t.Errorf("ParseComplex(%q) = %v, %v, want %v", text, got, ok, c)
		}
	}
}

// TestAllComplexesOfFourPoints makes them from all families of sets; there are as many as isotone functions of four bits.
func TestAllComplexesOfFourPoints(t *testing.T) {
	found := map[string]bool{}
	for family := range 1 << 16 {
		var sets []int
		for s := range 16 {
			if family>>s&1 == 1 {
				sets = append(sets, s)
			}
		}
		c, ok := impl.MakeComplex(4, sets)
		text := impl.ComplexText(c)
		if !ok || text == "" {
			t.Fatalf("MakeComplex(4, %v) = %v, %v", sets, c, ok)
		}
		found[text] = true
	}
	if len(found) != 168 {
		t.Errorf("%d complexes of 4 points, want 168", len(found))
	}
	for text := range found {
		if c, ok := impl.ParseComplex(text); !ok || impl.ComplexText(c) != text {
			t.Errorf("ParseComplex(%q) = %v, %v", text, c, ok)
		}
	}
}

func TestParseComplexRejects(t *testing.T) {
	texts := []string{
		"", ":", "::", ":a", ":-", ",", "a", "-", "3", "3,a", "3;a", "a:3", " ", "\n", "x:a", "-:a",
		"03:a", "003:a", "01:", "+3:a", "-3:a", "-1:", " 3:a", "3 :a", "3: a", "3:a ", "3:a\n", "3.0:a", "0x3:a", "\u0663:a",
		"0:", "0:-", "7:", "7:a", "7:-", "10:a", "06:", "64:", "999999:", "1000000:", "18446744073709551617:a", "4294967299:a",
		"3::", "3::a", "3:a:", "3:a:b", "3:a::b", "3:a:3:a", ":3:a", "3:c:ab", "3:-:",
		"3:,", "3:,,", "3:a,", "3:,a", "3:a,,b", "3:,a,b", "3:a,b,", "3:-,", "3:,-", "3:a, b", "3:a;b", "3:a b",
		"3:b,a", "3:ab,c", "3:bc,ac,ab", "3:ac,ab", "3:ab,bc,ac", "6:abc,de,f", "6:def,abc", "6:f,abc,de",
		"3:a,a", "3:-,-", "3:ab,ab", "3:ab,ab,bc", "6:abcdef,abcdef",
		"3:a,ab", "3:ab,a", "3:-,a", "3:a,-", "3:-,abc", "3:c,ab,abc", "3:a,bc,abc", "4:a,b,ad", "6:ab,ac,bce,cdf,abcdef",
		"1:b", "1:ab", "2:abc", "2:c", "3:d", "3:a,d", "5:f", "5:abcdef", "6:g", "6:abcdefg", "6:a,g",
		"3:ba", "3:ca", "3:aa", "3:aba", "3:A", "3:AB", "3:a-", "3:--", "3:-a", "3:3", "3:1,2", "3:\x00", "3:a\x00", "3:\xff",
		"3:\u0430", "3\uff1aa", "3\x00:a", "\xff3:a", strings.Repeat("3:a", 100), "3:" + strings.Repeat("a,", 100000) + "a",
		"3:a" + strings.Repeat(",", 65), "3:" + strings.Repeat(":", 1000), strings.Repeat("0", 1000) + "3:a",
	}
	for _, text := range texts {
		if c, ok := impl.ParseComplex(text); ok || !isZeroComplex(c) {
			t.Errorf("ParseComplex(%.60q) = %v, %v, want the zero value", text, c, ok)
		}
	}
}

// TestParseShortComplexes goes through all texts of at most 5 bytes with these letters, in which a complex has 1 or 3 points.
func TestParseShortComplexes(t *testing.T) {
	valid := map[string]impl.Complex{}
	for _, c := range append(allComplexes(1), allComplexes(3)...) {
		valid[plainComplexText(c)] = c
	}
	texts := []string{""}
	for start, length := 0, 0; length <= 5; length++ {
		end := len(texts)
		for _, text := range texts[start:end] {
			want, wantOk := valid[text]
			if got, ok := impl.ParseComplex(text); ok != wantOk || !sameComplex(got, want) {
				t.Fatalf("ParseComplex(%q) = %v, %v, want %v, %v", text, got, ok, want, wantOk)
			}
			for _, letter := range "0137:,-abc" {
				if length < 5 {
					texts = append(texts, text+string(letter))
				}
			}
		}
		start = end
	}
}

// TestParseComplexWithOneByteChanged tells by ComplexText whether the changed text is one that is to be read.
func TestParseComplexWithOneByteChanged(t *testing.T) {
	for _, text := range []string{"1:", "2:-", "3:ab,ac,bc", "6:f,de,abc", "6:abcdef", "5:a,bc,bd,cde"} {
		for i := range len(text) + 1 {
			for b := range 256 {
				letter := string([]byte{byte(b)})
				changed := []string{text[:i] + letter + text[i:]}
				if i < len(text) {
					changed = append(changed, text[:i]+letter+text[i+1:], text[:i]+text[i+1:])
				}
				for _, other := range changed {
					c, ok := impl.ParseComplex(other)
					if ok && plainComplexText(c) != other || !ok && !isZeroComplex(c) {
						t.Errorf("ParseComplex(%q) = %v, %v", other, c, ok)
					}
				}
			}
		}
	}
}

func TestFullAndBorderComplex(t *testing.T) {
	full := []string{"", "1:a", "2:ab", "3:abc", "4:abcd", "5:abcde", "6:abcdef"}
	border := []string{"", "1:-", "2:a,b", "3:ab,ac,bc", "4:abc,abd,acd,bcd", "5:abcd,abce,abde,acde,bcde",
		"6:abcde,abcdf,abcef,abdef,acdef,bcdef"}
	for n := 1; n <= 6; n++ {
		c, ok := impl.FullComplex(n)
		if !ok || plainComplexText(c) != full[n] || len(impl.FacesOf(c)) != 1<<n {
			t.Errorf("FullComplex(%d) = %v, %v", n, c, ok)
		}
		c, ok = impl.BorderComplex(n)
		if !ok || plainComplexText(c) != border[n] || len(impl.FacesOf(c)) != 1<<n-1 || impl.HasFace(c, 1<<n-1) {
			t.Errorf("BorderComplex(%d) = %v, %v", n, c, ok)
		}
	}
	for _, n := range neverCounts {
		if c, ok := impl.FullComplex(n); ok || !isZeroComplex(c) {
			t.Errorf("FullComplex(%d) = %v, %v, want the zero value", n, c, ok)
		}
		if c, ok := impl.BorderComplex(n); ok || !isZeroComplex(c) {
			t.Errorf("BorderComplex(%d) = %v, %v, want the zero value", n, c, ok)
		}
	}
}

func TestComplexFunctionsLeaveTheirLists(t *testing.T) {
	for _, list := range append(setLists(), slices.Repeat([]int{3, 9}, 70)) {
		front, whole := withSpareCapacity(list)
		before := slices.Clone(whole)
		c := impl.Complex{Points: 6, Facets: front}
		made, _ := impl.MakeComplex(6, front)
		for _, got := range [][]int{made.Facets, impl.FacesOf(c)} {
			for i := range got {
				got[i] = -9
			}
			got = append(got, -9, -9, -9, -9, -9, -9, -9, -9)
		}
		impl.IsComplex(c)
		impl.HasFace(c, 3)
		impl.EqualComplex(c, c)
		impl.ComplexText(c)
		if !slices.Equal(whole, before) || len(c.Facets) != len(list) {
			t.Errorf("%v has become %v", before, whole)
		}
	}
}

// holdsNewMemory overwrites what each function returns and asks it once more.
func holdsNewMemory(t *testing.T, lists map[string]func() []int) {
	t.Helper()
	for name, produce := range lists {
		first := produce()
		want := slices.Clone(first)
		for i := range first {
			first[i] = -9
		}
		if again := produce(); !slices.Equal(again, want) {
			t.Errorf("%s: %v, then %v", name, want, again)
		}
	}
}

func TestComplexResultsAreNewMemory(t *testing.T) {
	lists := map[string]func() []int{
		"FacesOf":       func() []int { return impl.FacesOf(complexOf(3, 4, 3)) },
		"MakeComplex":   func() []int { c, _ := impl.MakeComplex(3, []int{4, 3}); return c.Facets },
		"ParseComplex":  func() []int { c, _ := impl.ParseComplex("3:c,ab"); return c.Facets },
		"FullComplex":   func() []int { c, _ := impl.FullComplex(3); return c.Facets },
		"BorderComplex": func() []int { c, _ := impl.BorderComplex(3); return c.Facets },
	}
	holdsNewMemory(t, lists)
}

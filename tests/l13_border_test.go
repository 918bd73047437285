package tests

import (
	"fmt"
	"math"
	"math/big"
	"slices"
	"testing"

	"loop.example/g03100/impl"
)

var fieldPrimes = []int{2, 3, 5}

// neverPrimes are numbers that are no such prime, among them those beside one and those that have one as a remainder.
var neverPrimes = []int{
	math.MinInt, math.MinInt + 1, -1 << 32, -7, -5, -3, -2, -1, 0, 1, 4, 6, 7, 8, 9, 10, 11, 13, 15, 25, 30, 31, 64, 66, 127, 1 << 32, 1<<32 + 2, 1<<32 + 3, 1<<32 + 5, math.MaxInt - 1, math.MaxInt,
}

func TestIsFieldPrime(t *testing.T) {
	for _, p := range fieldPrimes {
		if !impl.IsFieldPrime(p) {
			t.Errorf("IsFieldPrime(%d) is false", p)
		}
	}
	for p := -300; p <= 300; p++ {
		if got := impl.IsFieldPrime(p); got != slices.Contains(fieldPrimes, p) {
			t.Errorf("IsFieldPrime(%d) = %v", p, got)
		}
	}
	for _, p := range append(slices.Clone(farNumbers), neverPrimes...) {
		if impl.IsFieldPrime(p) {
			t.Errorf("IsFieldPrime(%d) is true", p)
		}
	}
}

func holdsInverse(t *testing.T, a int, p int, want int) {
	t.Helper()
	if got := impl.InverseMod(a, p); got != want {
		t.Errorf("InverseMod(%d, %d) = %d, want %d", a, p, got, want)
	}
}

func TestInverseByHand(t *testing.T) {
	cases := []struct{ a, p, want int }{
		{1, 2, 1}, {1, 3, 1}, {2, 3, 2}, {1, 5, 1}, {2, 5, 3}, {3, 5, 2}, {4, 5, 4},
		// Divisible by p.
		{0, 2, 0}, {0, 3, 0}, {0, 5, 0}, {2, 2, 0}, {3, 3, 0}, {5, 5, 0}, {-2, 2, 0}, {-3, 3, 0}, {-5, 5, 0}, {1000, 2, 0}, {999, 3, 0}, {-1000, 5, 0},
		// Negative, and beyond p.
		{-1, 2, 1}, {-1, 3, 2}, {-2, 3, 1}, {-1, 5, 4}, {-2, 5, 2}, {-3, 5, 3}, {-4, 5, 1}, {3, 2, 1}, {4, 3, 1}, {5, 3, 2}, {6, 5, 1}, {7, 5, 3}, {8, 5, 2}, {9, 5, 4}, {-6, 5, 4}, {-7, 5, 2},
		{1 << 62, 3, 1}, {1 << 62, 5, 4}, {math.MaxInt, 2, 1}, {math.MinInt, 2, 0}, {math.MinInt, 3, 1}, {math.MinInt, 5, 3}, {math.MaxInt, 3, 1}, {math.MaxInt, 5, 3},
	}
	for _, c := range cases {
		holdsInverse(t, c.a, c.p, c.want)
	}
}

// plainRemainder takes remainders of any int, with numbers of any size.
func plainRemainder(a int, p int) int {
	return int(new(big.Int).Mod(big.NewInt(int64(a)), big.NewInt(int64(p))).Int64())
}

func manyNumbers() []int {
	var numbers []int
	for a := -1003; a <= 1003; a++ {
		numbers = append(numbers, a)
	}
	for by := range 40 {
		numbers = append(numbers, math.MinInt+by, math.MaxInt-by, 1<<32+by, -1<<32-by, math.MaxInt/4+by, math.MaxInt/3+by, math.MaxInt/2+by)
	}
	return numbers
}

func TestInverseOfEachNumber(t *testing.T) {
	for _, a := range manyNumbers() {
		for _, p := range fieldPrimes {
			want := 0
			for b := 1; b < p; b++ {
				if plainRemainder(a, p)*b%p == 1 {
					want = b
				}
			}
			holdsInverse(t, a, p, want)
			if (want == 0) != (plainRemainder(a, p) == 0) {
				t.Errorf("%d has the inverse %d modulo %d", a, want, p)
			}
		}
	}
}

func TestInverseRejects(t *testing.T) {
	for _, p := range neverPrimes {
		for _, a := range manyNumbers() {
			holdsInverse(t, a, p, 0)
		}
	}
}

func holdsBorder(t *testing.T, c impl.Complex, k int, want [][]int) {
	t.Helper()
	if got := impl.BorderMatrix(c, k); !sameLists(got, want) {
		t.Errorf("BorderMatrix(%v, %d) = %v, want %v", c, k, got, want)
	}
}

func TestBorderByHand(t *testing.T) {
	cases := []struct {
		c    string
		k    int
		want [][]int
	}{
		// The one row for k of 1 is that of the empty face.
		{"1:a", 1, [][]int{{1}}}, {"2:ab", 1, [][]int{{1, 1}}}, {"3:b", 1, [][]int{{1}}}, {"4:a,b,c,d", 1, [][]int{{1, 1, 1, 1}}}, {"5:ce", 1, [][]int{{1, 1}}}, {"6:abcdef", 1, [][]int{{1, 1, 1, 1, 1, 1}}},
		{"2:ab", 2, [][]int{{-1}, {1}}}, {"5:ce", 2, [][]int{{-1}, {1}}},
		{"3:abc", 2, [][]int{{-1, -1, 0}, {1, 0, -1}, {0, 1, 1}}}, {"3:abc", 3, [][]int{{1}, {-1}, {1}}},
		{"3:c,ab", 1, [][]int{{1, 1, 1}}}, {"3:c,ab", 2, [][]int{{-1}, {1}, {0}}},
		// The rows are a, b, c, d, and the columns ab, bc, ad, cd: the lesser number is first.
		{"4:ab,bc,ad,cd", 2, [][]int{{-1, 0, -1, 0}, {1, -1, 0, 0}, {0, 1, 0, -1}, {0, 0, 1, 1}}},
		// The rows are ab, ac, bc, ad, cd, and the columns abc, acd.
		{"4:abc,acd", 3, [][]int{{1, 0}, {-1, 1}, {1, 0}, {0, -1}, {0, 1}}},
		{"4:abcd", 4, [][]int{{-1}, {1}, {-1}, {1}}}, {"5:abcde", 5, [][]int{{1}, {-1}, {1}, {-1}, {1}}}, {"6:abcdef", 6, [][]int{{-1}, {1}, {-1}, {1}, {-1}, {1}}},
		{"6:bcef", 4, [][]int{{-1}, {1}, {-1}, {1}}}, {"6:f,de,abc", 3, [][]int{{1}, {-1}, {1}, {0}}},
		// There are faces of size k - 1, but none of size k.
		{"1:a", 2, [][]int{{}}}, {"3:abc", 4, [][]int{{}}}, {"3:c,ab", 3, [][]int{{}}}, {"4:a,b,c,d", 2, [][]int{{}, {}, {}, {}}}, {"3:ab,ac,bc", 3, [][]int{{}, {}, {}}},
		{"6:abcde,abcdf", 6, [][]int{{}, {}}}, {"1:-", 1, [][]int{{}}}, {"3:-", 1, [][]int{{}}}, {"6:-", 1, [][]int{{}}},
		// There are neither.
		{"1:a", 3, nil}, {"1:a", 6, nil}, {"3:abc", 5, nil}, {"3:abc", 6, nil}, {"4:a,b,c,d", 3, nil}, {"1:-", 2, nil}, {"6:-", 2, nil}, {"6:-", 6, nil}, {"1:", 1, nil}, {"6:", 1, nil}, {"6:", 2, nil}, {"6:", 6, nil},
		// There is no such k.
		{"3:abc", 0, nil}, {"3:abc", -1, nil}, {"3:abc", 7, nil}, {"6:abcdef", 0, nil}, {"6:abcdef", 7, nil}, {"6:", 0, nil}, {"6:-", 0, nil}, {"6:-", 7, nil},
	}
	for _, c := range cases {
		holdsBorder(t, readComplex(t, c.c), c.k, c.want)
	}
}

// plainBorder leaves out one point after the other of each column's face, with signs that change from one to the next.
func plainBorder(c impl.Complex, k int) [][]int {
	if k < 1 || k > 6 {
		return nil
	}
	faces := plainFaces(c.Facets)
	lows, highs := plainOfSize(faces, k-1), plainOfSize(faces, k)
	rows := make([][]int, len(lows))
	for _, high := range highs {
		column := map[int]int{}
		sign := 1
		for _, point := range plainPoints(high) {
			column[high-1<<point] = sign
			sign = -sign
		}
		for i, low := range lows {
			rows[i] = append(rows[i], column[low])
		}
	}
	return rows
}

func TestBorderOfEachSize(t *testing.T) {
	for _, c := range partComplexes() {
		for k := -2; k <= 9; k++ {
			holdsBorder(t, c, k, plainBorder(c, k))
		}
	}
}

// TestTheBorderOfABorderIs0 holds promise 13.
func TestTheBorderOfABorderIs0(t *testing.T) {
	for _, c := range partComplexes() {
		faces := plainFaces(c.Facets)
		for k := 1; k <= 5; k++ {
			var want [][]int
			lows, middles, highs := plainOfSize(faces, k-1), plainOfSize(faces, k), plainOfSize(faces, k+1)
			for range lows {
				want = append(want, make([]int, len(highs)))
			}
			// A size without faces makes a matrix without rows, which has no products.
			if len(middles) == 0 {
				want = nil
			}
			holdsTimes(t, impl.BorderMatrix(c, k), impl.BorderMatrix(c, k+1), want, len(middles) > 0)
		}
	}
}

func TestBorderRejects(t *testing.T) {
	for _, c := range noComplexes() {
		for k := -1; k <= 8; k++ {
			holdsBorder(t, c, k, nil)
		}
		for _, k := range neverCounts {
			holdsBorder(t, c, k, nil)
		}
	}
	for _, c := range partComplexes() {
		for _, k := range neverCounts {
			holdsBorder(t, c, k, nil)
		}
	}
}

func holdsRank(t *testing.T, m [][]int, p int, want int) {
	t.Helper()
	if got := impl.RankMod(m, p); got != want {
		t.Errorf("RankMod(%v, %d) = %d, want %d", m, p, got, want)
	}
}

// holdsRanks takes the ranks modulo 2, 3 and 5, and those of the turned matrix.
func holdsRanks(t *testing.T, m [][]int, want [3]int) {
	t.Helper()
	for i, p := range fieldPrimes {
		holdsRank(t, m, p, want[i])
		holdsRank(t, plainTurned(m), p, want[i])
		holdsRank(t, impl.TurnMatrix(m), p, want[i])
	}
}

// matrixOf has the number everywhere.
func matrixOf(number int, height int, width int) [][]int {
	var m [][]int
	for range height {
		m = append(m, slices.Repeat([]int{number}, width))
	}
	return m
}

func TestRanksByHand(t *testing.T) {
	cases := []struct {
		m    [][]int
		want [3]int
	}{
		// No rows, no columns, and zeros.
		{nil, [3]int{}}, {[][]int{}, [3]int{}}, {[][]int{{}}, [3]int{}}, {[][]int{nil, {}, nil}, [3]int{}}, {matrixOf(0, 30, 0), [3]int{}},
		{[][]int{{0}}, [3]int{}}, {matrixOf(0, 2, 3), [3]int{}}, {matrixOf(0, 30, 30), [3]int{}}, {matrixOf(0, 1, 30), [3]int{}},
		// One number.
		{[][]int{{1}}, [3]int{1, 1, 1}}, {[][]int{{-1}}, [3]int{1, 1, 1}}, {[][]int{{2}}, [3]int{0, 1, 1}}, {[][]int{{3}}, [3]int{1, 0, 1}}, {[][]int{{5}}, [3]int{1, 1, 0}}, {[][]int{{-6}}, [3]int{0, 0, 1}},
		{[][]int{{-15}}, [3]int{1, 0, 0}}, {[][]int{{30}}, [3]int{}}, {[][]int{{-30}}, [3]int{}}, {[][]int{{1000}}, [3]int{0, 1, 0}}, {[][]int{{-1000}}, [3]int{0, 1, 0}}, {[][]int{{999}}, [3]int{1, 0, 1}}, {[][]int{{-7}}, [3]int{1, 1, 1}},
		// One row or column.
		{[][]int{{0, 0, 7}}, [3]int{1, 1, 1}}, {[][]int{{2, 4, 6}}, [3]int{0, 1, 1}}, {[][]int{{2, 3}}, [3]int{1, 1, 1}}, {[][]int{{30, 0, -60, 900}}, [3]int{}}, {matrixOf(1, 1, 30), [3]int{1, 1, 1}}, {matrixOf(5, 1, 30), [3]int{1, 1, 0}},
		// The same rank modulo each prime.
		{[][]int{{1, 2}, {2, 4}}, [3]int{1, 1, 1}}, {[][]int{{0, 1}, {1, 0}}, [3]int{2, 2, 2}}, {[][]int{{0, 0, 1}, {0, 1, 0}, {1, 0, 0}}, [3]int{3, 3, 3}}, {[][]int{{1, 0, 0}, {0, 0, 0}, {0, 0, 1}}, [3]int{2, 2, 2}},
		{[][]int{{0, 1, 1}, {0, 1, 1}}, [3]int{1, 1, 1}}, {[][]int{{-1, -1, 0}, {1, 0, -1}, {0, 1, 1}}, [3]int{2, 2, 2}}, {matrixOf(1000, 30, 30), [3]int{0, 1, 0}}, {matrixOf(-1000, 30, 30), [3]int{0, 1, 0}}, {matrixOf(-999, 30, 2), [3]int{1, 0, 1}},
		// One that differs from prime to prime.
		{[][]int{{1, 1}, {1, -1}}, [3]int{1, 2, 2}}, {[][]int{{1, 2}, {2, 1}}, [3]int{2, 1, 2}}, {[][]int{{1, 2}, {3, 1}}, [3]int{2, 2, 1}}, {[][]int{{2, 0}, {0, 3}}, [3]int{1, 1, 2}}, {[][]int{{6, 0, 0}, {0, 10, 0}, {0, 0, 15}}, [3]int{1, 1, 1}},
		{[][]int{{1, 1, 0}, {0, 1, 1}, {1, 0, 1}}, [3]int{2, 3, 3}}, {[][]int{{-1000, 1000}, {1000, 1000}}, [3]int{0, 2, 0}}, {[][]int{{-999, 1000}, {1000, -999}}, [3]int{2, 2, 2}}, {[][]int{{997, 998}, {-998, -997}}, [3]int{2, 1, 1}},
	}
	for _, c := range cases {
		holdsRanks(t, c.m, c.want)
	}
}

func TestRanksOfBorders(t *testing.T) {
	cases := []struct {
		c    string
		k    int
		want [3]int
	}{
		{"6:abcdef", 1, [3]int{1, 1, 1}}, {"6:abcdef", 2, [3]int{5, 5, 5}}, {"6:abcdef", 3, [3]int{10, 10, 10}}, {"6:abcdef", 4, [3]int{10, 10, 10}}, {"6:abcdef", 5, [3]int{5, 5, 5}}, {"6:abcdef", 6, [3]int{1, 1, 1}},
		{"5:ab,bc,cd,ae,de", 2, [3]int{4, 4, 4}}, {"6:ab,cd,ef", 2, [3]int{3, 3, 3}}, {"4:abc,abd,acd,bcd", 3, [3]int{3, 3, 3}}, {"3:-", 1, [3]int{}}, {"3:abc", 4, [3]int{}}, {"3:", 1, [3]int{}},
		// Each pair of points is in two of the ten triangles, so that modulo 2 they add up to 0; no signs do so modulo 3 or 5.
		{"6:acd,bcd,abe,ace,bde,abf,bcf,adf,cef,def", 3, [3]int{9, 10, 10}}, {"6:acd,bcd,abe,ace,bde,abf,bcf,adf,cef,def", 2, [3]int{5, 5, 5}},
	}
	for _, c := range cases {
		holdsRanks(t, impl.BorderMatrix(readComplex(t, c.c), c.k), c.want)
	}
}

// plainRank knows the rank from the number of combinations of the rows, which is a power of p.
func plainRank(m [][]int, p int) int {
	if len(m) == 0 {
		return 0
	}
	combinations := map[string][]int{}
	zero := make([]int, len(m[0]))
	combinations[fmt.Sprint(zero)] = zero
	for _, row := range m {
		next := map[string][]int{}
		for _, list := range combinations {
			for times := range p {
				sum := make([]int, len(row))
				for i := range row {
					sum[i] = plainRemainder(list[i]+times*row[i], p)
				}
				next[fmt.Sprint(sum)] = sum
			}
		}
		combinations = next
	}
	rank := 0
	for rest := len(combinations); rest > 1; rest /= p {
		rank++
	}
	return rank
}

// numberedMatrix takes its numbers from the list, in an order that the state tells.
func numberedMatrix(height int, width int, numbers []int, state *int) [][]int {
	m := matrixOf(0, height, width)
	for _, row := range m {
		for j := range row {
			*state = (*state*75 + 74) % 65537
			row[j] = numbers[*state%len(numbers)]
		}
	}
	return m
}

func TestRanksOfAnyNumbers(t *testing.T) {
	lists := [][]int{{0, 1}, {0, 0, 0, 1, -1}, {0, 2, 3, 5, 6, 10, 15}, {-1000, -999, -30, -2, 0, 1, 7, 31, 998, 1000}, {0, 0, 0, 4}}
	state, differ := 1, 0
	for height := 1; height <= 4; height++ {
		for width := 1; width <= 5; width++ {
			for _, numbers := range lists {
				for range 3 {
					m := numberedMatrix(height, width, numbers, &state)
					want := [3]int{plainRank(m, 2), plainRank(m, 3), plainRank(m, 5)}
					holdsRanks(t, m, want)
					if want[0] != want[1] || want[1] != want[2] {
						differ++
					}
				}
			}
		}
	}
	if differ < 40 {
		t.Errorf("only %d ranks differ from prime to prime", differ)
	}
}

// mixed adds rows to rows and columns to columns, which keeps all ranks, and moves each number by multiples of 30, which none of the primes sees.
func mixed(m [][]int, state *int) [][]int {
	take := func(n int) int {
		*state = (*state*75 + 74) % 65537
		return *state % n
	}
	height, width := len(m), len(m[0])
	for range 4 * (height + width) {
		times := take(29) - 14
		if from, to := take(height), take(height); from != to {
			for j := range width {
				m[to][j] = (m[to][j] + times*m[from][j]) % 30
			}
		}
		if from, to := take(width), take(width); from != to {
			for i := range height {
				m[i][to] = (m[i][to] + times*m[i][from]) % 30
			}
		}
	}
	for _, row := range m {
		for j := range row {
			row[j] += 30 * (take(64) - 32)
		}
	}
	return m
}

func TestRanksOfMixedMatrices(t *testing.T) {
	sizes := [][2]int{{30, 30}, {30, 29}, {29, 30}, {30, 1}, {1, 30}, {30, 7}, {7, 30}, {15, 20}, {20, 15}, {12, 12}, {3, 2}}
	numbers := []int{1, 2, 3, 5, 6, 10, 15, 0, 7, -11, 4, 9, 25}
	state := 1
	for _, size := range sizes {
		for start := range 13 {
			var want [3]int
			m := matrixOf(0, size[0], size[1])
			for place := range min(size[0], size[1]) {
				number := numbers[(start+place*(start+1))%len(numbers)]
				m[place][place] = number
				for i, p := range fieldPrimes {
					if number%p != 0 {
						want[i]++
					}
				}
			}
			holdsRanks(t, mixed(m, &state), want)
		}
	}
}

// TestRanksWhenNumbersGrow has rows of which each takes away 4 times those before it with the other sign.
// If no remainders were taken, the last number of each row would be more than 4 times that of the row before, and beyond any int in the end.
func TestRanksWhenNumbersGrow(t *testing.T) {
	m := matrixOf(0, 30, 30)
	for i, row := range m {
		for j := range i {
			row[j] = 4 * ((i - j) % 2)
		}
		row[i] = 1
		row[29] = 1000 - 2000*(i%2)
	}
	for _, p := range []int{2, 5} {
		holdsRank(t, m, p, 29)
		holdsRank(t, plainTurned(m), p, 29)
	}
}

// matrixBounds are the least and the greatest number, and neverEntries those beyond.
var (
	matrixBounds = []int{-1000, 1000}
	neverEntries = []int{-1001, 1001, -1002, 1002, 2000, 30000, -1 << 32, 1 << 32, math.MinInt, math.MinInt + 1, math.MaxInt}
)

// neverSmall are matrices whose rows differ in length, with too many rows or columns, or with a number beyond the bounds.
func neverSmall() [][][]int {
	list := append(raggedMatrices(),
		matrixOf(1, 31, 1), matrixOf(1, 1, 31), matrixOf(0, 31, 31), matrixOf(1, 31, 30), matrixOf(1, 30, 31), matrixOf(0, 31, 0), matrixOf(0, 1000, 0), matrixOf(1, 2, 1000), matrixOf(1, 1000, 2))
	for _, size := range [][2]int{{1, 1}, {2, 3}, {30, 30}} {
		for _, number := range neverEntries {
			for place := range size[0] * size[1] {
				if i, j := place/size[1], place%size[1]; i == j || place < 6 || i == size[0]-1 {
					m := matrixOf(1, size[0], size[1])
					m[i][j] = number
					list = append(list, m)
				}
			}
		}
	}
	return list
}

func raggedMatrices() [][][]int {
	list := [][][]int{{{}, {1}}, {{1}, {}}, {nil, {0}}, {{0}, nil}, {{1}, {1, 2}}, {{1, 2}, {1}}, {{0}, {0}, {0, 0}}, {{0, 0}, {0}, {0, 0}}, {{1, 2}, {3, 4}, {5}}, {{1001}, {}}}
	for place := range 30 {
		longer, shorter := matrixOf(1, 30, 29), matrixOf(1, 30, 29)
		longer[place] = append(longer[place], 1)
		shorter[place] = shorter[place][1:]
		list = append(list, longer, shorter)
	}
	return list
}

func TestRankRejects(t *testing.T) {
	for _, m := range neverSmall() {
		for _, p := range fieldPrimes {
			holdsRank(t, m, p, -1)
		}
		for _, p := range neverPrimes {
			holdsRank(t, m, p, -1)
		}
	}
	for _, p := range neverPrimes {
		for _, m := range [][][]int{nil, {}, {{}}, {{}, {}}, {{0}}, {{1}}, {{1, 2}, {2, 4}}, matrixOf(1, 30, 30)} {
			holdsRank(t, m, p, -1)
		}
	}
	for _, number := range matrixBounds {
		holdsRanks(t, [][]int{{number, 1}, {1, 0}}, [3]int{2, 2, 2})
	}
}

// plainTurned goes through the columns.
func plainTurned(m [][]int) [][]int {
	var turned [][]int
	for j := 0; len(m) > 0 && j < len(m[0]); j++ {
		var row []int
		for i := range m {
			row = append(row, m[i][j])
		}
		turned = append(turned, row)
	}
	return turned
}

func holdsTurned(t *testing.T, m [][]int, want [][]int) {
	t.Helper()
	if got := impl.TurnMatrix(m); !sameLists(got, want) {
		t.Errorf("TurnMatrix(%v) = %v, want %v", m, got, want)
	}
}

func TestTurnByHand(t *testing.T) {
	cases := []struct{ m, want [][]int }{
		{[][]int{{1}}, [][]int{{1}}}, {[][]int{{1, 2, 3}}, [][]int{{1}, {2}, {3}}}, {[][]int{{1}, {2}, {3}}, [][]int{{1, 2, 3}}}, {[][]int{{1, 2}, {3, 4}}, [][]int{{1, 3}, {2, 4}}},
		{[][]int{{1, 2, 3}, {4, 5, 6}}, [][]int{{1, 4}, {2, 5}, {3, 6}}}, {[][]int{{0, 0}, {0, 0}, {0, 0}}, [][]int{{0, 0, 0}, {0, 0, 0}}},
		// No rows, and rows without columns.
		{nil, nil}, {[][]int{}, nil}, {[][]int{{}}, nil}, {[][]int{nil}, nil}, {[][]int{{}, nil, {}}, nil},
		// Any numbers will do.
		{[][]int{{math.MinInt, 1001}, {-1001, math.MaxInt}}, [][]int{{math.MinInt, -1001}, {1001, math.MaxInt}}},
	}
	for _, c := range cases {
		holdsTurned(t, c.m, c.want)
	}
}

func TestTurnOfEachSize(t *testing.T) {
	for _, height := range []int{1, 2, 3, 29, 30, 31, 32, 64, 1000} {
		for _, width := range []int{0, 1, 2, 3, 29, 30, 31, 32, 65} {
			m := matrixOf(0, height, width)
			for i, row := range m {
				for j := range row {
					row[j] = 1000*i - j
				}
			}
			holdsTurned(t, m, plainTurned(m))
			if width > 0 {
				holdsTurned(t, impl.TurnMatrix(m), m)
			}
		}
	}
	for _, m := range raggedMatrices() {
		holdsTurned(t, m, nil)
	}
}

func holdsTimes(t *testing.T, a [][]int, b [][]int, want [][]int, isOne bool) {
	t.Helper()
	if got, ok := impl.TimesMatrix(a, b); ok != isOne || !sameLists(got, want) {
		t.Errorf("TimesMatrix(%v, %v) = %v, %v, want %v, %v", a, b, got, ok, want, isOne)
	}
}

func TestTimesByHand(t *testing.T) {
	cases := []struct{ a, b, want [][]int }{
		{[][]int{{3}}, [][]int{{-4}}, [][]int{{-12}}}, {[][]int{{0}}, [][]int{{7}}, [][]int{{0}}}, {[][]int{{1, 2}}, [][]int{{3}, {4}}, [][]int{{11}}}, {[][]int{{1}, {2}}, [][]int{{3, 4}}, [][]int{{3, 4}, {6, 8}}},
		{[][]int{{1, 2}, {3, 4}}, [][]int{{5, 6}, {7, 8}}, [][]int{{19, 22}, {43, 50}}}, {[][]int{{5, 6}, {7, 8}}, [][]int{{1, 2}, {3, 4}}, [][]int{{23, 34}, {31, 46}}}, {[][]int{{1, 1}}, [][]int{{-1}, {1}}, [][]int{{0}}},
		{[][]int{{0, 1}, {1, 0}}, [][]int{{1, 2, 3}, {4, 5, 6}}, [][]int{{4, 5, 6}, {1, 2, 3}}}, {[][]int{{1, 0, 2}, {-1, 3, 1}}, [][]int{{3, 1}, {2, 1}, {1, 0}}, [][]int{{5, 1}, {4, 2}}},
		// The products go beyond the bounds of the numbers.
		{[][]int{{1000}}, [][]int{{1000}}, [][]int{{1000000}}}, {[][]int{{-1000, -1000}}, [][]int{{1000}, {1000}}, [][]int{{-2000000}}}, {[][]int{{40}}, [][]int{{26}}, [][]int{{1040}}}, {[][]int{{-1000}}, [][]int{{-1000, 999}}, [][]int{{1000000, -999000}}},
		{matrixOf(1000, 30, 30), matrixOf(1000, 30, 30), matrixOf(30000000, 30, 30)}, {matrixOf(-1000, 30, 30), matrixOf(1000, 30, 30), matrixOf(-30000000, 30, 30)}, {matrixOf(1000, 1, 30), matrixOf(-1000, 30, 1), matrixOf(-30000000, 1, 1)}, {matrixOf(2, 30, 1), matrixOf(3, 1, 30), matrixOf(6, 30, 30)},
		// Columns are wanted of the first one only: it has as many as the second one has rows.
		{[][]int{{1}}, [][]int{{}}, [][]int{{}}}, {[][]int{{1, 2}, {3, 4}, {5, 6}}, [][]int{{}, nil}, [][]int{{}, {}, {}}}, {matrixOf(1, 30, 30), matrixOf(0, 30, 0), matrixOf(0, 30, 0)},
	}
	for _, c := range cases {
		holdsTimes(t, c.a, c.b, c.want, true)
	}
}

// plainProduct takes each row with each column.
func plainProduct(a [][]int, b [][]int) [][]int {
	product := make([][]int, len(a))
	for i, row := range a {
		for _, column := range plainTurned(b) {
			sum := 0
			for k := range row {
				sum += row[k] * column[k]
			}
			product[i] = append(product[i], sum)
		}
	}
	return product
}

func TestTimesOfEachSize(t *testing.T) {
	numbers := []int{-1000, -999, -7, -1, 0, 1, 2, 31, 999, 1000}
	state := 1
	for _, height := range []int{1, 2, 3, 29, 30} {
		for _, middle := range []int{1, 2, 5, 29, 30} {
			for _, width := range []int{0, 1, 2, 4, 29, 30} {
				a, b := numberedMatrix(height, middle, numbers, &state), numberedMatrix(middle, width, numbers, &state)
				holdsTimes(t, a, b, plainProduct(a, b), true)
				if width > 0 {
					holdsTimes(t, plainTurned(b), plainTurned(a), plainTurned(plainProduct(a, b)), true)
				}
			}
		}
	}
}

func TestTimesAsksForSizesThatFit(t *testing.T) {
	for height := 1; height <= 4; height++ {
		for width := range 5 {
			for rows := range 5 {
				for columns := range 5 {
					a, b := matrixOf(1, height, width), matrixOf(1, rows, columns)
					if width == rows && rows > 0 {
						holdsTimes(t, a, b, matrixOf(width, height, columns), true)
					} else {
						holdsTimes(t, a, b, nil, false)
					}
				}
			}
		}
	}
	for _, m := range [][][]int{nil, {}, {{}}, {{}, {}}, {{1}}, {{1, 2}}, {{1}, {2}}, matrixOf(1, 30, 30), matrixOf(0, 30, 0)} {
		for _, none := range [][][]int{nil, {}} {
			holdsTimes(t, none, m, nil, false)
			holdsTimes(t, m, none, nil, false)
		}
	}
}

func TestTimesRejects(t *testing.T) {
	for _, m := range neverSmall() {
		// The other one has as many rows, or columns, as it would have to.
		for _, other := range [][][]int{matrixOf(1, len(m[0]), 1), matrixOf(0, len(m[0]), 0), matrixOf(1, 1, 1), {{}}, nil} {
			holdsTimes(t, m, other, nil, false)
		}
		for _, other := range [][][]int{matrixOf(1, 1, len(m)), matrixOf(1, 1, 1), {{}}, nil} {
			holdsTimes(t, other, m, nil, false)
		}
		holdsTimes(t, m, m, nil, false)
	}
	for _, number := range matrixBounds {
		holdsTimes(t, [][]int{{number}}, [][]int{{1}}, [][]int{{number}}, true)
		holdsTimes(t, [][]int{{1}}, [][]int{{number}}, [][]int{{number}}, true)
	}
}

// roomyMatrix has the same rows as m, all of them in one list with spare numbers behind each row, and spare rows.
func roomyMatrix(m [][]int) ([][]int, [][]int, []int) {
	var whole []int
	var ends []int
	for _, row := range m {
		_, spare := withSpareCapacity(row)
		whole = append(whole, spare...)
		ends = append(ends, len(whole))
	}
	var rows [][]int
	for i, row := range m {
		start := 0
		if i > 0 {
			start = ends[i-1]
		}
		rows = append(rows, whole[start:start+len(row)])
	}
	all := append(rows, []int{-7}, []int{-8}, []int{-9})
	return all[:len(m)], all, whole
}

func TestMatricesAreLeft(t *testing.T) {
	list := [][][]int{
		nil, {{}}, {{}, {}}, {{1}}, {{0, 1}, {1, 0}}, {{1, 2}, {2, 4}}, {{-7, 1000}, {30, -1000}}, {{0, 0, 3}, {0, 2, 1}, {-4, 4, 4}}, {{1, 2, 3}, {4, 5, 6}}, {{1}, {2}}, {{1}, {1, 2}}, {{1001, 1}, {1, 1}},
		matrixOf(7, 30, 30), matrixOf(1, 31, 2), matrixOf(1, 2, 31),
	}
	calls := map[string]func(m [][]int){
		"RankMod 2":    func(m [][]int) { impl.RankMod(m, 2) },
		"RankMod 3":    func(m [][]int) { impl.RankMod(m, 3) },
		"RankMod 5":    func(m [][]int) { impl.RankMod(m, 5) },
		"RankMod 4":    func(m [][]int) { impl.RankMod(m, 4) },
		"TurnMatrix":   func(m [][]int) { impl.TurnMatrix(m) },
		"TimesMatrix":  func(m [][]int) { impl.TimesMatrix(m, m) },
		"times turned": func(m [][]int) { impl.TimesMatrix(m, impl.TurnMatrix(m)) },
		"turned times": func(m [][]int) { impl.TimesMatrix(impl.TurnMatrix(m), m) },
	}
	for name, call := range calls {
		for _, m := range list {
			rows, all, whole := roomyMatrix(m)
			before := slices.Clone(whole)
			call(rows)
			// Rows in other places would show in the rows, and other numbers in the whole.
			if !slices.Equal(whole, before) || !sameLists(rows, m) || !sameLists(all[len(m):], [][]int{{-7}, {-8}, {-9}}) {
				t.Errorf("%s: %v has become %v of %v", name, m, all, whole)
			}
		}
	}
}

func TestOneRowInManyPlaces(t *testing.T) {
	row := []int{1, 2, 3}
	m := [][]int{row, row, row}
	holdsRanks(t, m, [3]int{1, 1, 1})
	holdsTurned(t, m, [][]int{{1, 1, 1}, {2, 2, 2}, {3, 3, 3}})
	holdsTimes(t, m, m, [][]int{{6, 12, 18}, {6, 12, 18}, {6, 12, 18}}, true)
	if !slices.Equal(row, []int{1, 2, 3}) {
		t.Errorf("the row has become %v", row)
	}
}

func TestBorderLeavesTheComplex(t *testing.T) {
	for _, text := range []string{"3:abc", "3:c,ab", "5:abc,cde", "6:f,de,abc", "3:", "3:-", "6:abcdef"} {
		c := readComplex(t, text)
		front, whole := withSpareCapacity(c.Facets)
		before := slices.Clone(whole)
		for k := -1; k <= 8; k++ {
			impl.BorderMatrix(impl.Complex{Points: c.Points, Facets: front}, k)
		}
		if !slices.Equal(whole, before) {
			t.Errorf("%v has become %v", before, whole)
		}
	}
}

func TestMatrixResultsAreNewMemory(t *testing.T) {
	for _, text := range []string{"3:abc", "3:c,ab", "5:abc,cde", "6:abcdef", "3:-", "3:"} {
		c := readComplex(t, text)
		for k := 1; k <= 6; k++ {
			holdsApart(t, "BorderMatrix", func() [][]int { return impl.BorderMatrix(c, k) })
		}
	}
	list := [][][]int{nil, {{}}, {{}, {}}, {{1}}, {{1, 2}, {3, 4}}, {{1, 2, 3}}, {{1}, {2}, {3}}, {{1, 0}, {0, 1}}, matrixOf(7, 30, 30), matrixOf(5, 3, 30)}
	for _, m := range list {
		holdsApart(t, "TurnMatrix", func() [][]int { return impl.TurnMatrix(m) })
		for _, other := range list {
			holdsApart(t, "TimesMatrix", func() [][]int {
				product, _ := impl.TimesMatrix(m, other)
				return product
			})
		}
	}
}

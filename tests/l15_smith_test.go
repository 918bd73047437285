package tests

import (
	"fmt"
	"math"
	"math/big"
	"slices"
	"strings"
	"testing"

	"loop.example/g03100/impl"
)

func TestMaxSmith(t *testing.T) {
	if impl.MaxSmith != 20 {
		t.Errorf("MaxSmith is %d", impl.MaxSmith)
	}
}

func holdsSmith(t *testing.T, m [][]int, want []int) {
	t.Helper()
	if got := impl.SmithOf(m); !slices.Equal(got, want) {
		t.Errorf("SmithOf(%v) = %v, want %v", m, got, want)
	}
}

// numbersWhere keeps the order, and equal numbers.
func numbersWhere(list []int, keep func(number int) bool) []int {
	return slices.DeleteFunc(slices.Clone(list), func(number int) bool { return !keep(number) })
}

// isSlight reports whether no column of a matrix with rows of one length has more than 6 numbers other than 0.
func isSlight(m [][]int) bool {
	for _, column := range plainTurned(m) {
		if len(numbersWhere(column, func(number int) bool { return number != 0 })) > 6 {
			return false
		}
	}
	return true
}

// holdsSmithOnEachSide takes the turned matrix too, which has the same divisors, if it fits.
// Modulo a prime, the rank is the number of those that the prime does not divide.
func holdsSmithOnEachSide(t *testing.T, m [][]int, want []int) {
	t.Helper()
	holdsSmith(t, m, want)
	if turned := plainTurned(m); isSlight(turned) {
		holdsSmith(t, turned, want)
	} else {
		holdsSmith(t, turned, nil)
	}
	for i, number := range want {
		if number < 1 || i > 0 && number%want[i-1] != 0 {
			t.Errorf("%v, wanted of %v, is no list of divisors", want, m)
		}
	}
	for _, p := range fieldPrimes {
		if got := numbersWhere(want, func(number int) bool { return number%p != 0 }); len(got) != impl.RankMod(m, p) {
			t.Errorf("%v: the rank modulo %d is %d, the divisors are %v", m, p, impl.RankMod(m, p), want)
		}
	}
}

// afterOnes has so many ones, and then the rest.
func afterOnes(ones int, rest ...int) []int { return append(slices.Repeat([]int{1}, ones), rest...) }

// allButOne has 0 where row and column are the same, and 1 elsewhere: its divisors are ones, and n - 1 at the end.
func allButOne(n int) [][]int {
	m := matrixOf(1, n, n)
	for i := range m {
		m[i][i] = 0
	}
	return m
}

func oneMatrix(n int) [][]int {
	m := matrixOf(0, n, n)
	for i := range m {
		m[i][i] = 1
	}
	return m
}

// roundMatrix has n rows, each of them the one before it, moved by one place, with 1 at the places given for the first one.
func roundMatrix(n int, places ...int) [][]int {
	m := matrixOf(0, n, n)
	for i := range m {
		for _, place := range places {
			m[i][(i+place)%n] = 1
		}
	}
	return m
}

var (
	evenBlock = [][]int{{1, 1}, {1, -1}}
	fourBlock = [][]int{{1, 1, 1, 1}, {1, -1, 1, -1}, {1, 1, -1, -1}, {1, -1, -1, 1}}
)

func TestSmithByHand(t *testing.T) {
	cases := []struct {
		m    [][]int
		want []int
	}{
		// No rows, no columns, and zeros.
		{nil, nil}, {[][]int{}, nil}, {[][]int{{}}, nil}, {[][]int{nil, {}, nil}, nil}, {matrixOf(0, 20, 0), nil},
		{[][]int{{0}}, nil}, {[][]int{{0, 0}}, nil}, {matrixOf(0, 2, 3), nil}, {matrixOf(0, 20, 20), nil}, {matrixOf(0, 1, 20), nil}, {matrixOf(0, 20, 1), nil},
		// One number, one row, one column.
		{[][]int{{1}}, []int{1}}, {[][]int{{-1}}, []int{1}}, {[][]int{{0, 0, -1}}, []int{1}}, {[][]int{{1, -1, 0, 1}}, []int{1}}, {[][]int{{0}, {0}, {-1}}, []int{1}}, {matrixOf(-1, 1, 20), []int{1}}, {matrixOf(1, 6, 1), []int{1}}, {matrixOf(-1, 6, 20), []int{1}},
		// Ones alone.
		{[][]int{{0, 1}, {1, 0}}, afterOnes(2)}, {[][]int{{0, 1}, {-1, 0}}, afterOnes(2)}, {[][]int{{1, 1}, {0, -1}}, afterOnes(2)}, {[][]int{{0, 1, 0}, {0, 0, 1}}, afterOnes(2)}, {[][]int{{1, 1, 1}, {0, 1, 1}, {0, 0, 1}}, afterOnes(3)}, {oneMatrix(20), afterOnes(20)},
		// A rank that is less than rows and columns.
		{[][]int{{1, 1}, {1, 1}}, afterOnes(1)}, {[][]int{{1, -1}, {-1, 1}}, afterOnes(1)}, {[][]int{{1, -1, 0}, {0, 1, -1}, {-1, 0, 1}}, afterOnes(2)}, {[][]int{{1, 0, 0}, {0, 0, 0}, {0, 0, 1}}, afterOnes(2)}, {[][]int{{0, 0, 0}, {0, 1, 1}, {0, 1, -1}}, afterOnes(1, 2)},
		{[][]int{{1, 1, 0}, {1, -1, 0}, {1, 1, 0}}, afterOnes(1, 2)}, {roundMatrix(4, 0, 1), afterOnes(3)}, {roundMatrix(6, 0, 3), afterOnes(3)}, {roundMatrix(20, 0, 1), afterOnes(19)},
		// More than ones.
		{evenBlock, afterOnes(1, 2)}, {[][]int{{1, 1, 1}, {1, -1, 1}}, afterOnes(1, 2)}, {[][]int{{1, 1, 0}, {0, 1, 1}, {1, 0, 1}}, afterOnes(2, 2)}, {[][]int{{1, 1, 1}, {1, -1, 1}, {1, 1, -1}}, afterOnes(1, 2, 2)}, {[][]int{{-1, 1, 1}, {1, -1, 1}, {1, 1, -1}}, afterOnes(1, 2, 2)},
		{fourBlock, afterOnes(1, 2, 2, 4)}, {allButOne(3), afterOnes(2, 2)}, {allButOne(4), afterOnes(3, 3)}, {allButOne(5), afterOnes(4, 4)}, {allButOne(6), afterOnes(5, 5)}, {allButOne(7), afterOnes(6, 6)}, {roundMatrix(6, 0, 2), afterOnes(4, 2, 2)},
		// Points and lines of planes, of which each two are together once.
		{roundMatrix(7, 0, 1, 3), afterOnes(4, 2, 2, 6)}, {roundMatrix(13, 0, 1, 3, 9), afterOnes(7, 3, 3, 3, 3, 3, 12)},
	}
	for _, c := range cases {
		holdsSmithOnEachSide(t, c.m, c.want)
	}
}

// besides has the blocks along its diagonal.
func besides(blocks ...[][]int) [][]int {
	height, width := 0, 0
	for _, block := range blocks {
		height, width = height+len(block), width+len(block[0])
	}
	m := matrixOf(0, height, width)
	top, left := 0, 0
	for _, block := range blocks {
		for i, row := range block {
			copy(m[top+i][left:], row)
		}
		top, left = top+len(block), left+len(block[0])
	}
	return m
}

// shuffled puts rows and columns in another order and changes the sign of some, which keeps all divisors.
func shuffled(m [][]int, state *int) [][]int {
	take := func(n int) int {
		*state = (*state*75 + 74) % 65537
		return *state % n
	}
	for range 2 {
		for i := range m {
			j := take(len(m))
			m[i], m[j] = m[j], m[i]
		}
		for i := range m {
			if take(3) == 0 {
				for j := range m[i] {
					m[i][j] = -m[i][j]
				}
			}
		}
		m = plainTurned(m)
	}
	return m
}

// TestSmithOfBlocks has blocks whose greatest divisors mostly do not divide one another.
func TestSmithOfBlocks(t *testing.T) {
	two, three, four, five, six := evenBlock, allButOne(4), allButOne(5), allButOne(6), allButOne(7)
	zero, wideZero, one, twice := [][]int{{0}}, [][]int{{0, 0, 0}}, [][]int{{-1}}, [][]int{{1, 1}, {1, 1}}
	cases := []struct {
		blocks [][][]int
		want   []int
	}{
		{[][][]int{two, one}, afterOnes(2, 2)}, {[][][]int{two, two}, afterOnes(2, 2, 2)}, {[][][]int{two, three}, afterOnes(5, 6)}, {[][][]int{three, two}, afterOnes(5, 6)}, {[][][]int{three, three}, afterOnes(6, 3, 3)},
		{[][][]int{three, six}, afterOnes(9, 3, 6)}, {[][][]int{four, six}, afterOnes(10, 2, 12)}, {[][][]int{four, five}, afterOnes(10, 20)}, {[][][]int{six, five}, afterOnes(12, 30)}, {[][][]int{four, two}, afterOnes(5, 2, 4)},
		{[][][]int{three, two, three}, afterOnes(8, 3, 6)}, {[][][]int{two, three, five}, afterOnes(11, 30)}, {[][][]int{two, four, six}, afterOnes(11, 2, 2, 12)}, {[][][]int{four, three, five}, afterOnes(14, 60)}, {[][][]int{six, five, four}, afterOnes(16, 2, 60)}, {[][][]int{two, two, three, three, two}, afterOnes(11, 2, 6, 6)},
		{[][][]int{two, two, two, two, two, two, two, two, two, two}, append(afterOnes(10), slices.Repeat([]int{2}, 10)...)}, {[][][]int{fourBlock, three, two}, afterOnes(6, 2, 2, 2, 12)}, {[][][]int{fourBlock, fourBlock, fourBlock, fourBlock, fourBlock}, afterOnes(5, 2, 2, 2, 2, 2, 2, 2, 2, 2, 2, 4, 4, 4, 4, 4)},
		{[][][]int{two, zero, three}, afterOnes(5, 6)}, {[][][]int{wideZero, four, plainTurned(wideZero), six}, afterOnes(10, 2, 12)}, {[][][]int{twice, two, three}, afterOnes(6, 6)}, {[][][]int{five, twice, zero, four, one}, afterOnes(12, 20)}, {[][][]int{two, wideZero, two, wideZero}, afterOnes(2, 2, 2)},
		// Each odd circle is even once, and the circle of four has a rank of 3.
		{[][][]int{roundMatrix(3, 0, 1), roundMatrix(5, 0, 1), roundMatrix(7, 0, 1), roundMatrix(4, 0, 1)}, afterOnes(15, 2, 2, 2)},
		{[][][]int{roundMatrix(13, 0, 1, 3, 9), roundMatrix(7, 0, 1, 3)}, afterOnes(13, 3, 3, 3, 6, 6, 6, 12)},
	}
	state := 1
	for _, c := range cases {
		m := besides(c.blocks...)
		holdsSmithOnEachSide(t, m, c.want)
		for range 6 {
			m = shuffled(m, &state)
			holdsSmithOnEachSide(t, m, c.want)
		}
	}
}

// plainDeterminant goes along the first row.
func plainDeterminant(m [][]int) int {
	if len(m) == 0 {
		return 1
	}
	sum, sign := 0, 1
	for j, number := range m[0] {
		if number != 0 {
			var rest [][]int
			for _, row := range m[1:] {
				rest = append(rest, slices.Delete(slices.Clone(row), j, j+1))
			}
			sum += sign * number * plainDeterminant(rest)
		}
		sign = -sign
	}
	return sum
}

// greatestCommon is 0 if both numbers are.
func greatestCommon(a int, b int) int {
	return int(new(big.Int).GCD(nil, nil, big.NewInt(int64(max(a, -a))), big.NewInt(int64(max(b, -b)))).Int64())
}

// plainCommonMinor is the greatest common divisor of all determinants of k rows and k columns, of at most 6.
func plainCommonMinor(m [][]int, k int) int {
	chosen := plainOfSize(plainOrder(), k)
	common := 0
	for _, rows := range chosen {
		for _, columns := range chosen {
			if rows >= 1<<len(m) || columns >= 1<<len(m[0]) {
				continue
			}
			var part [][]int
			for _, i := range plainPoints(rows) {
				var numbers []int
				for _, j := range plainPoints(columns) {
					numbers = append(numbers, m[i][j])
				}
				part = append(part, numbers)
			}
			common = greatestCommon(common, plainDeterminant(part))
		}
	}
	return common
}

// smithByMinors has the quotients of the greatest common divisors of all determinants of each size.
func smithByMinors(m [][]int) []int {
	var divisors []int
	before := 1
	for k := 1; k <= min(len(m), len(m[0])); k++ {
		common := plainCommonMinor(m, k)
		if common == 0 {
			break
		}
		divisors = append(divisors, common/before)
		before = common
	}
	return divisors
}

// TestSmithOfEachSmallMatrix has all matrices of at most 2 rows or columns and 3 of the other, and every 5th of 3 and 3.
func TestSmithOfEachSmallMatrix(t *testing.T) {
	for height := 1; height <= 3; height++ {
		for width := height; width <= 3; width++ {
			count := 1
			for range height * width {
				count *= 3
			}
			for number := 0; number < count; number += 1 + 4*(height*width/9) {
				m := matrixOf(0, height, width)
				rest := number
				for place := range height * width {
					m[place/width][place%width] = rest%3 - 1
					rest /= 3
				}
				holdsSmithOnEachSide(t, m, smithByMinors(m))
			}
		}
	}
}

// TestSmithByMinors holds the product of the first numbers against the determinants of as many rows and columns.
func TestSmithByMinors(t *testing.T) {
	state := 1
	found := map[string]bool{}
	for height := 3; height <= 6; height++ {
		for width := 3; width <= 6; width++ {
			for _, numbers := range [][]int{{-1, 0, 1}, {-1, 1}, {0, 1}, {0, 0, 0, 1, -1}} {
				for range 4 {
					m := numberedMatrix(height, width, numbers, &state)
					want := smithByMinors(m)
					found[fmt.Sprint(want)] = true
					holdsSmithOnEachSide(t, m, want)
				}
			}
		}
	}
	if len(found) < 20 {
		t.Errorf("only %d different results", len(found))
	}
}

// scattered has so many numbers other than 0 in each column, at places that the state tells.
func scattered(height int, width int, count int, state *int) [][]int {
	take := func(n int) int {
		*state = (*state*75 + 74) % 65537
		return *state % n
	}
	m := matrixOf(0, height, width)
	for j := range width {
		places := upTo(height)
		for i := range count {
			other := i + take(height-i)
			places[i], places[other] = places[other], places[i]
			m[places[i]][j] = 1 - 2*take(2)
		}
	}
	return m
}

// plainSmith reckons with numbers of any size: it takes the least number that is left to the corner, and remainders by it,
// until it is alone in its row and its column and divides all others.
func plainSmith(m [][]int) []int {
	left := bigMatrix(m)
	var divisors []int
	for leastToCorner(left) {
		takeRemainders(left)
		left = turnedBig(left)
		takeRemainders(left)
		if isCornerAlone(left) && !addUndivided(left) {
			divisors = append(divisors, int(new(big.Int).Abs(left[0][0]).Int64()))
			left = withoutCorner(left)
		}
	}
	return divisors
}

func bigMatrix(m [][]int) [][]*big.Int {
	var rows [][]*big.Int
	for _, row := range m {
		var numbers []*big.Int
		for _, number := range row {
			numbers = append(numbers, big.NewInt(int64(number)))
		}
		rows = append(rows, numbers)
	}
	return rows
}

func turnedBig(m [][]*big.Int) [][]*big.Int {
	turned := make([][]*big.Int, len(m[0]))
	for _, row := range m {
		for j, number := range row {
			turned[j] = append(turned[j], number)
		}
	}
	return turned
}

func leastToCorner(m [][]*big.Int) bool {
	row, column := -1, -1
	for i := range m {
		for j, number := range m[i] {
			if number.Sign() != 0 && (row < 0 || number.CmpAbs(m[row][column]) < 0) {
				row, column = i, j
			}
		}
	}
	if row < 0 {
		return false
	}
	m[0], m[row] = m[row], m[0]
	for _, numbers := range m {
		numbers[0], numbers[column] = numbers[column], numbers[0]
	}
	return true
}

// takeRemainders takes the first row so many times from each other one that no number is left in the first column but a remainder.
func takeRemainders(m [][]*big.Int) {
	for _, row := range m[1:] {
		times := new(big.Int).Quo(row[0], m[0][0])
		for j := range row {
			row[j] = new(big.Int).Sub(row[j], new(big.Int).Mul(times, m[0][j]))
		}
	}
}

func isCornerAlone(m [][]*big.Int) bool {
	for i := range m {
		for j, number := range m[i] {
			if (i == 0) != (j == 0) && number.Sign() != 0 {
				return false
			}
		}
	}
	return true
}

// addUndivided adds a row with a number that the corner does not divide to the first row, and reports whether there is one.
func addUndivided(m [][]*big.Int) bool {
	isUndivided := func(number *big.Int) bool { return new(big.Int).Rem(number, m[0][0]).Sign() != 0 }
	for _, row := range m[1:] {
		if slices.ContainsFunc(row, isUndivided) {
			for j := range row {
				m[0][j] = new(big.Int).Add(m[0][j], row[j])
			}
			return true
		}
	}
	return false
}

func withoutCorner(m [][]*big.Int) [][]*big.Int {
	var rest [][]*big.Int
	for _, row := range m[1:] {
		rest = append(rest, row[1:])
	}
	return rest
}

// plainFractions returns the rank over the rational numbers, and the determinant without its sign: 0 if the rank is less than rows or columns.
func plainFractions(m [][]int) (int, *big.Rat) {
	var rows [][]*big.Rat
	for _, row := range m {
		var numbers []*big.Rat
		for _, number := range row {
			numbers = append(numbers, big.NewRat(int64(number), 1))
		}
		rows = append(rows, numbers)
	}
	rank, product := 0, big.NewRat(1, 1)
	for j := 0; len(m) > 0 && j < len(m[0]); j++ {
		pivot := slices.IndexFunc(rows, func(row []*big.Rat) bool { return row[j].Sign() != 0 })
		if pivot < 0 {
			continue
		}
		first := rows[pivot]
		rows = slices.Delete(rows, pivot, pivot+1)
		rank++
		product.Mul(product, first[j])
		for _, row := range rows {
			times := new(big.Rat).Quo(row[j], first[j])
			for place := j; place < len(row); place++ {
				row[place] = new(big.Rat).Sub(row[place], new(big.Rat).Mul(times, first[place]))
			}
		}
	}
	if len(m) == 0 || rank < len(m) || rank < len(m[0]) {
		product.SetInt64(0)
	}
	return rank, product.Abs(product)
}

// holdsGreat holds a great matrix against plainSmith, and the rank and the product of all numbers against plainFractions.
func holdsGreat(t *testing.T, m [][]int) []int {
	t.Helper()
	want := plainSmith(m)
	holdsSmithOnEachSide(t, m, want)
	product := int64(1)
	for _, number := range want {
		product *= int64(number)
	}
	rank, determinant := plainFractions(m)
	if rank != len(want) || determinant.Sign() != 0 && determinant.Cmp(big.NewRat(product, 1)) != 0 {
		t.Errorf("%v has the rank %d and the determinant %v, the numbers are %v", m, rank, determinant, want)
	}
	return want
}

func TestSmithOfGreatMatrices(t *testing.T) {
	sizes := [][2]int{{20, 20}, {20, 20}, {20, 20}, {20, 19}, {19, 20}, {19, 19}, {20, 13}, {13, 20}, {20, 6}, {6, 20}, {20, 1}}
	state, great, several, less := 1, 0, 0, 0
	for _, size := range sizes {
		for count := 1; count <= 6; count++ {
			for range 14 {
				want := holdsGreat(t, scattered(size[0], size[1], count, &state))
				last := want[len(want)-1]
				if last > 1000 {
					great++
				}
				if len(want) > 1 && want[len(want)-2] > 1 {
					several++
				}
				if len(want) < min(size[0], size[1]) {
					less++
				}
			}
		}
	}
	if great < 40 || several < 40 || less < 20 {
		t.Errorf("%d results with numbers beyond 1000, %d with several other than 1, %d with a rank that is less than rows and columns", great, several, less)
	}
}

// TestSmithWhereNumbersGrow has many matrices with as many rows, columns and numbers other than 0 as there may be:
// by remainders of rows and columns alone, numbers can grow beyond any int in some of them.
func TestSmithWhereNumbersGrow(t *testing.T) {
	state := 3
	for range 400 {
		holdsGreat(t, scattered(20, 20, 6, &state))
	}
}

// TestSmithOfGreatMatricesWithLessRank has rows that stand twice, and columns that are others with another sign.
func TestSmithOfGreatMatricesWithLessRank(t *testing.T) {
	state := 1
	for count := 1; count <= 3; count++ {
		for range 8 {
			half := scattered(10, 20, count, &state)
			m := slices.Concat(half, half)
			holdsGreat(t, shuffled(m, &state))
			wide := scattered(20, 14, 2*count, &state)
			for _, row := range wide {
				for j := range 6 {
					row[13-j] = -row[j]
				}
			}
			holdsGreat(t, shuffled(wide, &state))
		}
	}
}

// evenColumns has 20 rows and columns with 6 numbers other than 0 in each: each two columns agree as often as they differ.
// No determinant of such numbers is greater than the one of it, 6 to the power 10.
// It is made of four matrices of 5 rows, each moved round from row to row (Goethals and Seidel).
func evenColumns() [][]int {
	a, b, c := roundMatrix(5, 0, 1), roundMatrix(5, 0, 1), roundMatrix(5, 0)
	for i := range b {
		b[i][(i+1)%5] = -1
	}
	back := func(m [][]int, sign int) [][]int {
		var rows [][]int
		for _, row := range m {
			var numbers []int
			for j := range row {
				numbers = append(numbers, sign*row[4-j])
			}
			rows = append(rows, numbers)
		}
		return rows
	}
	blocks := [][][][]int{
		{a, back(b, 1), back(c, 1), back(c, 1)},
		{back(b, -1), a, back(plainTurned(c), 1), back(plainTurned(c), -1)},
		{back(c, -1), back(plainTurned(c), -1), a, back(plainTurned(b), 1)},
		{back(c, -1), back(plainTurned(c), 1), back(plainTurned(b), -1), a},
	}
	var m [][]int
	for _, list := range blocks {
		for i := range 5 {
			m = append(m, slices.Concat(list[0][i], list[1][i], list[2][i], list[3][i]))
		}
	}
	return m
}

func TestSmithOfTheGreatestDeterminant(t *testing.T) {
	m := evenColumns()
	sixTimes := matrixOf(0, 20, 20)
	for i := range sixTimes {
		sixTimes[i][i] = 6
	}
	if !sameLists(plainProduct(m, plainTurned(m)), sixTimes) {
		t.Fatalf("the columns of %v are not even", m)
	}
	// Two numbers with the same distance from both ends have the product 6.
	want := afterOnes(10, slices.Repeat([]int{6}, 10)...)
	state := 1
	for range 30 {
		if got := holdsGreat(t, m); !slices.Equal(got, want) {
			t.Fatalf("%v is wanted to have the numbers %v", m, got)
		}
		m = shuffled(m, &state)
	}
	// Without some rows and columns.
	for cut := range 8 {
		var part [][]int
		for _, row := range m[cut:] {
			part = append(part, row[:20-cut/2])
		}
		holdsGreat(t, part)
	}
}

// TestSmithOfLeftOutRows takes one row or column after the other away from a matrix at the bounds.
func TestSmithOfLeftOutRows(t *testing.T) {
	state := 1
	for range 3 {
		m := scattered(20, 20, 6, &state)
		for len(m) > 0 && len(m[0]) > 0 {
			holdsGreat(t, m)
			if len(m) >= len(m[0]) {
				m = m[1:]
			} else {
				m = plainTurned(plainTurned(m)[1:])
			}
		}
	}
}

func TestSmithBounds(t *testing.T) {
	for height := 0; height <= 23; height++ {
		for width := 1; width <= 23; width++ {
			m := matrixOf(0, height, width)
			for place := range min(height, width) {
				m[place][place] = 1
			}
			if height > 20 || width > 20 {
				holdsSmith(t, m, nil)
			} else {
				holdsSmith(t, m, afterOnes(min(height, width)))
			}
		}
	}
	holdsSmith(t, matrixOf(1, 1, 20), afterOnes(1))
	holdsSmith(t, matrixOf(1, 1, 21), nil)
	holdsSmith(t, plainTurned(append(oneMatrix(20), make([]int, 20))), nil)
	holdsSmith(t, append(oneMatrix(20), make([]int, 20)), nil)
	for height := 1; height <= 20; height++ {
		m := matrixOf(-1, height, 1)
		if height <= 6 {
			holdsSmith(t, m, afterOnes(1))
		} else {
			holdsSmith(t, m, nil)
		}
	}
}

// TestSmithBoundOfColumns has 6 numbers other than 0 in one column, or in all of them, and then one more.
func TestSmithBoundOfColumns(t *testing.T) {
	state := 1
	for column := range 20 {
		m := oneMatrix(20)
		for i := range 6 {
			m[(column+i)%20][column] = 1 - 2*(i%2)
		}
		holdsSmithOnEachSide(t, m, afterOnes(20))
		m[(column+6)%20][column] = -1
		holdsSmith(t, m, nil)
		full := scattered(20, 20, 6, &state)
		holdsGreat(t, full)
		free := slices.IndexFunc(full, func(row []int) bool { return row[column] == 0 })
		full[free][column] = 1
		holdsSmith(t, full, nil)
	}
	// Rows may have as many as they like.
	holdsSmith(t, matrixOf(1, 6, 20), afterOnes(1))
	holdsSmith(t, matrixOf(1, 7, 20), nil)
	holdsSmith(t, matrixOf(1, 20, 20), nil)
}

func TestSmithRejects(t *testing.T) {
	for _, m := range append(raggedMatrices(), neverSmall()...) {
		holdsSmith(t, m, nil)
	}
	for _, number := range append([]int{-2, 2, -3, 3, 7, -7, 1000, -1000, 1<<32 + 1, math.MinInt + 2}, neverEntries...) {
		holdsSmith(t, [][]int{{number}}, nil)
		for place := range 6 {
			m := [][]int{{1, 0, 1}, {0, 1, 1}}
			m[place/3][place%3] = number
			holdsSmith(t, m, nil)
		}
		m := oneMatrix(20)
		m[19][19] = number
		holdsSmith(t, m, nil)
	}
	for _, m := range [][][]int{{{}, {1}}, {{1}, {}}, {nil, {0}}, {{1}, {1, 0}}, {{1, 0}, {1}}, {{0, 1}, {1, 0}, {1, 0, 0}}, {{1, 0}, {0, 1}, {1}}} {
		holdsSmith(t, m, nil)
	}
}

func TestSmithOfBorders(t *testing.T) {
	triangle := plainTriangle(6)
	for n := 1; n <= 6; n++ {
		full, _ := impl.FullComplex(n)
		for k := 1; k <= n; k++ {
			// The sets that have the first point tell the rank.
			holdsSmith(t, impl.BorderMatrix(full, k), afterOnes(triangle[n-1][k-1]))
		}
	}
	cases := []struct {
		c    string
		k    int
		want []int
	}{
		{tenTriangles, 1, afterOnes(1)}, {tenTriangles, 2, afterOnes(5)}, {tenTriangles, 3, afterOnes(9, 2)}, {tenTriangles, 4, nil},
		{"5:ab,bc,cd,ae,de", 2, afterOnes(4)}, {"6:ab,cd,ef", 2, afterOnes(3)}, {"4:abc,abd,acd,bcd", 3, afterOnes(3)}, {"6:abc,def", 3, afterOnes(2)}, {"3:-", 1, nil}, {"3:", 1, nil}, {"3:abc", 4, nil},
	}
	for _, c := range cases {
		holdsSmith(t, impl.BorderMatrix(readComplex(t, c.c), c.k), c.want)
	}
}

// wantTwists is what chapter 15 says of a complex; twists has no lists for greater sizes without any.
type wantTwists struct {
	free   []int
	twists map[int][]int
	text   string
}

func holdsTwists(t *testing.T, c impl.Complex, want wantTwists) {
	t.Helper()
	if got := impl.FreeHoles(c); !slices.Equal(got, want.free) {
		t.Errorf("FreeHoles(%v) = %v, want %v", c, got, want.free)
	}
	for k := range 6 {
		if got := impl.TwistsOf(c, k); !slices.Equal(got, want.twists[k]) {
			t.Errorf("TwistsOf(%v, %d) = %v, want %v", c, k, got, want.twists[k])
		}
	}
	if got := impl.HolesText(c); got != want.text {
		t.Errorf("HolesText(%v) = %q, want %q", c, got, want.text)
	}
	if got := impl.CanTwist(c); got != (len(want.twists) > 0) {
		t.Errorf("CanTwist(%v) = %v", c, got)
	}
}

func TestTwistsByHand(t *testing.T) {
	cases := []struct {
		c    string
		free []int
		text string
	}{
		// No faces at all, and the empty set alone.
		{"1:", nil, "-"}, {"3:", nil, "-"}, {"6:", nil, "-"}, {"1:-", []int{1}, "-"}, {"3:-", []int{1}, "-"}, {"6:-", []int{1}, "-"},
		// Points without edges.
		{"1:a", []int{0, 0}, "0"}, {"6:f", []int{0, 0}, "0"}, {"2:a,b", []int{0, 1}, "1"}, {"3:a,b,c", []int{0, 2}, "2"}, {"6:a,b,c,d,e,f", []int{0, 5}, "5"},
		// Edges.
		{"2:ab", []int{0, 0, 0}, "0 0"}, {"6:ab,cd,ef", []int{0, 2, 0}, "2 0"}, {"3:ab,ac,bc", []int{0, 0, 1}, "0 1"}, {"5:ab,bc,cd,ae,de", []int{0, 0, 1}, "0 1"}, {"4:ab,ac,bc,ad,bd,cd", []int{0, 0, 3}, "0 3"}, {"6:ab,ac,bc,de,df,ef", []int{0, 1, 2}, "1 2"},
		{"6:ab,ac,bc,ad,bd,cd,ae,be,ce,de,af,bf,cf,df,ef", []int{0, 0, 10}, "0 10"},
		// Larger facets, of one size and of different ones.
		{"3:abc", []int{0, 0, 0, 0}, "0 0 0"}, {"4:abc,abd,acd,bcd", []int{0, 0, 0, 1}, "0 0 1"}, {"6:abc,def", []int{0, 1, 0, 0}, "1 0 0"}, {"5:abc,abe,ade,bcd,cde", []int{0, 0, 1, 0}, "0 1 0"}, {"5:abc,abd,acd,bcd,abe,ace,bce", []int{0, 0, 0, 2}, "0 0 2"},
		{"6:ace,bce,ade,bde,acf,bcf,adf,bdf", []int{0, 0, 0, 1}, "0 0 1"}, {"6:abcdef", []int{0, 0, 0, 0, 0, 0, 0}, "0 0 0 0 0 0"}, {"6:f,abcde", []int{0, 1, 0, 0, 0, 0}, "1 0 0 0 0"}, {"6:ab,ac,bc,def", []int{0, 1, 1, 0}, "1 1 0"}, {"6:ae,be,abc,abd,acd,bcd", []int{0, 0, 1, 1}, "0 1 1"},
		// The ten triangles with one less, and with one more, have no twist.
		{"6:acd,bcd,abe,ace,bde,abf,bcf,adf,cef", []int{0, 0, 1, 0}, "0 1 0"}, {"6:abc,acd,bcd,abe,ace,bde,abf,bcf,adf,cef,def", []int{0, 0, 0, 1}, "0 0 1"},
	}
	for _, c := range cases {
		holdsTwists(t, orderedComplex(t, c.c), wantTwists{c.free, nil, c.text})
	}
}

// tenTwist is what the ten triangles have: a circle that is no border, but twice around it is one.
var tenTwist = wantTwists{[]int{0, 0, 0, 0}, map[int][]int{2: {2}}, "0 0/2 0"}

func TestTwistOfTenTriangles(t *testing.T) {
	c := readComplex(t, tenTriangles)
	for _, names := range plainNames(6) {
		renamed, _ := impl.RenameComplex(c, names)
		holdsTwists(t, renamed, tenTwist)
	}
}

func TestNoTwistsInFullComplexesBordersAndCones(t *testing.T) {
	for n := 1; n <= 6; n++ {
		full, _ := impl.FullComplex(n)
		zeros := strings.TrimSuffix(strings.Repeat("0 ", n), " ")
		holdsTwists(t, full, wantTwists{make([]int, n+1), nil, zeros})
		border, _ := impl.BorderComplex(n)
		text := "-"
		if n > 1 {
			text = zeros[:2*n-4] + "1"
		}
		holdsTwists(t, border, wantTwists{append(make([]int, n-1), 1), nil, text})
	}
	for _, c := range partComplexes() {
		cone, ok := impl.ConeOf(c)
		if ok && len(c.Facets) > 0 {
			size := impl.DimOf(c) + 2
			holdsTwists(t, cone, wantTwists{make([]int, size+1), nil, strings.TrimSuffix(strings.Repeat("0 ", size), " ")})
		}
	}
}

// plainFree takes the ranks of borders over the rational numbers.
func plainFree(c impl.Complex) []int {
	faces := plainFaces(c.Facets)
	var free []int
	for k := 0; len(plainOfSize(faces, k)) > 0; k++ {
		rank, _ := plainFractions(plainBorder(c, k))
		rankAbove, _ := plainFractions(plainBorder(c, k+1))
		free = append(free, len(plainOfSize(faces, k))-rank-rankAbove)
	}
	return free
}

// plainTwists finds the divisors of each border with numbers of any size.
func plainTwists(c impl.Complex) map[int][]int {
	twists := map[int][]int{}
	for k := range 6 {
		border := plainBorder(c, k+1)
		if len(border) == 0 || len(border[0]) == 0 {
			continue
		}
		if list := numbersWhere(plainSmith(border), func(number int) bool { return number > 1 }); len(list) > 0 {
			twists[k] = list
		}
	}
	return twists
}

func plainHolesText(free []int, twists map[int][]int) string {
	if len(free) < 2 {
		return "-"
	}
	text := ""
	for k := 1; k < len(free); k++ {
		text += fmt.Sprint(" ", free[k])
		for _, twist := range twists[k] {
			text += fmt.Sprint("/", twist)
		}
	}
	return text[1:]
}

func TestTwistsOfSomeComplexes(t *testing.T) {
	texts := map[string]bool{}
	for _, c := range append(partComplexes(), allOfOneMore(allComplexes(3))...) {
		free, twists := plainFree(c), plainTwists(c)
		want := wantTwists{free, twists, plainHolesText(free, twists)}
		holdsTwists(t, c, want)
		texts[want.text] = true
	}
	if len(texts) < 20 {
		t.Errorf("only %d different texts", len(texts))
	}
}

// eachKind has the families of sets of one size of six points, one of each kind of them that names lead to each other,
// as complexes that have all sets of one point less as faces, too.
func eachKind(size int) []impl.Complex {
	sets := plainOfSize(plainOrder(), size)
	var moves [][]int
	for _, names := range plainNames(6) {
		var move []int
		for _, s := range sets {
			move = append(move, 1<<slices.Index(sets, plainRenamed(s, names)))
		}
		moves = append(moves, move)
	}
	found := make([]bool, 1<<len(sets))
	var kinds []impl.Complex
	for family := range found {
		if found[family] {
			continue
		}
		facets := plainOfSize(plainOrder(), size-1)
		var members []int
		for i, s := range sets {
			if family>>i&1 == 1 {
				facets, members = append(facets, s), append(members, i)
			}
		}
		kinds = append(kinds, complexOf(6, plainFacets(facets)...))
		for _, move := range moves {
			moved := 0
			for _, i := range members {
				moved += move[i]
			}
			found[moved] = true
		}
	}
	return kinds
}

// TestTheOnlyTwistOnSixPoints goes through all borders that there are on six points, as other faces only add zeros to them.
// So no complex has several twists, or one other than 2.
func TestTheOnlyTwistOnSixPoints(t *testing.T) {
	for size, want := range map[int]int{1: 7, 2: 156, 3: 2136, 4: 156, 5: 7} {
		kinds, twisted := eachKind(size), 0
		if len(kinds) != want {
			t.Fatalf("%d kinds of families of sets of %d points, want %d", len(kinds), size, want)
		}
		for _, c := range kinds {
			if !impl.CanTwist(c) {
				continue
			}
			twisted++
			holdsTwists(t, c, tenTwist)
			if !impl.AreAlike(c, readComplex(t, tenTriangles)) {
				t.Errorf("%v can twist", c)
			}
		}
		if (size == 3) != (twisted == 1) {
			t.Errorf("%d kinds of families of sets of %d points can twist", twisted, size)
		}
	}
}

// holdsHolesFromTwists holds that each free hole is one modulo each prime, and each twist that the prime divides is two: of its own dimension, and of one more.
func holdsHolesFromTwists(t *testing.T, c impl.Complex, p int) {
	t.Helper()
	holes := impl.FreeHoles(c)
	for k := range holes {
		for _, size := range []int{k, k - 1} {
			if size < 6 {
				holes[k] += len(numbersWhere(impl.TwistsOf(c, size), func(twist int) bool { return twist%p == 0 }))
			}
		}
	}
	if got := impl.HolesMod(c, p); !slices.Equal(got, holes) {
		t.Errorf("HolesMod(%v, %d) = %v, the holes over the integers tell %v", c, p, got, holes)
	}
}

// TestHolesOverTheIntegersTellHolesModuloEachPrime holds promise 15.
func TestHolesOverTheIntegersTellHolesModuloEachPrime(t *testing.T) {
	for _, c := range append(partComplexes(), eachKind(3)...) {
		for _, p := range fieldPrimes {
			holdsHolesFromTwists(t, c, p)
		}
	}
	for i, c := range append(someComplexes(), allOfFivePoints()...) {
		holdsHolesFromTwists(t, c, fieldPrimes[i%3])
	}
}

// TestFreeHolesOfJoins knows that the holes of a join are those of the product of polynomials.
func TestFreeHolesOfJoins(t *testing.T) {
	for _, pair := range joinPairs() {
		join, _ := impl.JoinOf(pair[0], pair[1])
		if len(join.Facets) == 0 {
			continue
		}
		want := plainTimes(impl.FreeHoles(pair[0]), impl.FreeHoles(pair[1]))
		if got := impl.FreeHoles(join); !slices.Equal(got, want) {
			t.Errorf("FreeHoles(%v) = %v, want %v, as %v joined with %v", join, got, want, pair[0], pair[1])
		}
	}
}

// neverTwistSizes are sizes without twists; 2 is one that has them.
var neverTwistSizes = append([]int{-3, -4, 6, 7, 8, 20, 62, 63, 64, 66, 256, 258, 1<<32 + 2, -1<<32 + 2, math.MinInt + 2, math.MaxInt - 2}, farNumbers...)

func TestTwistsReject(t *testing.T) {
	for _, c := range append(noComplexes(), impl.Complex{}) {
		holdsTwists(t, c, wantTwists{})
		for _, k := range neverTwistSizes {
			if got := impl.TwistsOf(c, k); len(got) != 0 {
				t.Errorf("TwistsOf(%v, %d) = %v", c, k, got)
			}
		}
	}
	for _, c := range append(partComplexes(), readComplex(t, tenTriangles)) {
		for _, k := range neverTwistSizes {
			if got := impl.TwistsOf(c, k); len(got) != 0 {
				t.Errorf("TwistsOf(%v, %d) = %v", c, k, got)
			}
		}
	}
}

func TestSmithLeavesTheMatrix(t *testing.T) {
	state := 1
	list := [][][]int{
		nil, {{}}, {{}, {}}, {{1}}, {{0}}, {{0, 1}, {1, 0}}, evenBlock, fourBlock, {{0, 0, 0}, {0, 1, 1}, {0, 1, -1}}, {{1}, {1, 0}}, {{1, 2}, {0, 1}}, {{0, 0, 1}}, {{0}, {0}, {1}},
		matrixOf(1, 7, 3), oneMatrix(20), oneMatrix(21), scattered(20, 20, 6, &state), scattered(20, 9, 5, &state), evenColumns(),
	}
	for _, m := range list {
		rows, all, whole := roomyMatrix(m)
		before := slices.Clone(whole)
		want := slices.Clone(impl.SmithOf(rows))
		if !slices.Equal(whole, before) || !sameLists(rows, m) || !sameLists(all[len(m):], [][]int{{-7}, {-8}, {-9}}) {
			t.Errorf("%v has become %v", m, all)
		}
		if again := impl.SmithOf(rows); !slices.Equal(again, want) {
			t.Errorf("SmithOf(%v) = %v, then %v", m, want, again)
		}
	}
	row := []int{1, 0, -1}
	holdsSmith(t, [][]int{row, row, row}, afterOnes(1))
	if !slices.Equal(row, []int{1, 0, -1}) {
		t.Errorf("the row has become %v", row)
	}
}

func TestTwistFunctionsLeaveTheirLists(t *testing.T) {
	for _, c := range append(append(partComplexes(), readComplex(t, tenTriangles)), noComplexes()...) {
		front, whole := withSpareCapacity(c.Facets)
		before := slices.Clone(whole)
		taken := complexOf(c.Points, front...)
		for k := -1; k <= 7; k++ {
			impl.TwistsOf(taken, k)
		}
		impl.FreeHoles(taken)
		impl.HolesText(taken)
		impl.CanTwist(taken)
		if !slices.Equal(whole, before) {
			t.Errorf("%v has become %v", before, whole)
		}
	}
}

func TestTwistResultsAreNewMemory(t *testing.T) {
	state := 1
	lists := map[string]func() []int{}
	for name, m := range map[string][][]int{"one": {{1}}, "even": evenBlock, "four": fourBlock, "great": scattered(20, 20, 6, &state)} {
		lists["SmithOf "+name] = func() []int { return impl.SmithOf(m) }
	}
	for _, text := range []string{"3:-", "3:a", "6:ab,cd,ef", "5:abc,cde", tenTriangles, "6:abcdef"} {
		c := readComplex(t, text)
		lists["FreeHoles of "+text] = func() []int { return impl.FreeHoles(c) }
		lists["TwistsOf 2 of "+text] = func() []int { return impl.TwistsOf(c, 2) }
	}
	holdsNewMemory(t, lists)
}

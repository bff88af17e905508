package tests

import (
	"math"
	"math/bits"
	"slices"
	"strings"
	"testing"

	"loop.example/g03300/impl"
)

// matrixShown returns the matrix of a text with the rows separated by spaces, in which + is 1, - is -1 and a point is 0.
func matrixShown(text string) [][]int {
	var m [][]int
	for _, line := range strings.Fields(text) {
		row := make([]int, len(line))
		for k := range line {
			row[k] = map[byte]int{'+': 1, '-': -1, '.': 0}[line[k]]
		}
		m = append(m, row)
	}
	return m
}

// zeros returns a matrix with this number of rows, all with the same number of zeros.
func zeros(rows, columns int) [][]int {
	m := make([][]int, rows)
	for i := range m {
		m[i] = make([]int, columns)
	}
	return m
}

// diagonal returns a matrix with 1 in row i and column i, for all i, and 0 otherwise.
func diagonal(order int) [][]int {
	m := zeros(order, order)
	for i := range m {
		m[i][i] = 1
	}
	return m
}

// withEntry returns a copy of a matrix with another entry.
func withEntry(m [][]int, row, column, entry int) [][]int {
	changed := cloneMatrix(m)
	changed[row][column] = entry
	return changed
}

// withRow returns a copy of a matrix with another row.
func withRow(m [][]int, i int, row []int) [][]int {
	changed := cloneMatrix(m)
	changed[i] = slices.Clone(row)
	return changed
}

// cloneMatrix returns a copy of all rows.
func cloneMatrix(m [][]int) [][]int {
	rows := make([][]int, len(m))
	for i, row := range m {
		rows[i] = slices.Clone(row)
	}
	return rows
}

// isSameMatrix reports whether both matrices have the same rows.
func isSameMatrix(a, b [][]int) bool {
	return slices.EqualFunc(a, b, slices.Equal[[]int])
}

// sumOfChoices returns the sum, over all choices of an entry in each row, all in different columns, of the products; if signed is true, a choice with an odd number of pairs of which the lower one is farther to the left counts as negative.
func sumOfChoices(m [][]int, signed bool) int {
	// The choices of the first rows are put together by the set of their columns.
	sums := make([]int, 1<<len(m))
	sums[0] = 1
	for taken, sum := range sums {
		if sum == 0 || taken == len(sums)-1 {
			continue
		}
		for k, entry := range m[bits.OnesCount(uint(taken))] {
			if entry == 0 || taken>>k&1 != 0 {
				continue
			}
			if signed && bits.OnesCount(uint(taken>>k))%2 != 0 {
				entry = -entry
			}
			sums[taken|1<<k] += sum * entry
		}
	}
	return sums[len(sums)-1]
}

// checkDeterminant compares SquareOk and DeterminantOf of a matrix that is valid with what is wanted.
func checkDeterminant(t *testing.T, m [][]int, want int) {
	t.Helper()
	if !impl.SquareOk(m) {
		t.Errorf("SquareOk of %v is false", m)
	}
	if got := impl.DeterminantOf(m); got != want {
		t.Errorf("DeterminantOf %v is %d, want %d", m, got, want)
	}
}

// checkNoSquare checks that a matrix is not valid.
func checkNoSquare(t *testing.T, m [][]int) {
	t.Helper()
	if impl.SquareOk(m) {
		t.Errorf("SquareOk of %v is true", m)
	}
	if got := impl.DeterminantOf(m); got != 0 {
		t.Errorf("DeterminantOf %v is %d, want 0", m, got)
	}
}

func TestSignedLimits(t *testing.T) {
	if impl.MaxOrder != 16 {
		t.Errorf("MaxOrder is %d, want 16", impl.MaxOrder)
	}
}

// determinantCase is a matrix as matrixShown reads it, and its determinant.
type determinantCase struct {
	name, text string
	want       int
}

// determinantsByHand returns matrices whose determinants were worked out by hand.
func determinantsByHand() []determinantCase {
	return []determinantCase{
		{"no rows", "", 1},
		{"one", "+", 1},
		{"minus one", "-", -1},
		{"zero", ".", 0},
		{"one in each row", "+. .+", 1},
		{"rows exchanged", ".+ +.", -1},
		{"rows exchanged, one of them negative", ".- +.", 1},
		{"two", "++ -+", 2},
		{"minus two", "++ +-", -2},
		{"minus two, all signs exchanged but one", "-+ ++", -2},
		{"equal rows", "+- +-", 0},
		{"rows that are equal but for the sign", "+- -+", 0},
		{"equal columns", "++ --", 0},
		{"a row of zeros", "+- ..", 0},
		{"a first row of zeros", ".. +-", 0},
		{"a column of zeros", "+. -.", 0},
		{"a first column of zeros", ".+ .-", 0},
		{"three rows exchanged in a circle", ".+. ..+ +..", 1},
		{"the first and the last of three rows exchanged", "..+ .+. +..", -1},
		{"the last two of three rows exchanged", "+.. ..+ .+.", -1},
		{"four", "++- -++ +-+", 4},
		{"four, a negative diagonal", "-++ +-+ ++-", 4},
		{"minus four", "+-- -+- --+", -4},
		{"a first entry of zero", ".++ +.+ ++.", 2},
		{"a first entry of zero, with signs", ".+- -.+ +-.", 0},
		{"a sum of two rows", "+.+ .+- ++.", 0},
		{"a difference of two rows", "+++ ++. ..+", 0},
		{"two of three rows that are equal but for the sign", "+-+ -+- ++.", 0},
		{"a zero in the middle after the first step", "+++ ++- +-+", -4},
		{"a row of zeros in the middle", "+.. ... ..+", 0},
		{"16 of four rows", "++++ +-+- ++-- +--+", 16},
		{"minus 16 of four rows", "+-+- ++++ ++-- +--+", -16},
		{"a first entry of zero, four rows", ".+++ +.++ ++.+ +++.", -3},
		{"two squares", "++.. -+.. ..++ ..-+", 4},
		{"two squares, columns exchanged", "..++ ..-+ ++.. -+..", 4},
		{"two squares, the rows mixed", "++.. ..++ -+.. ..-+", -4},
		{"a full first column", "+.... ++... +.+.. +..+. +...+", 1},
		{"a full first column and equal rows", "+.... ++... +.+.. +.... +...+", 0},
	}
}

func TestDeterminantsByHand(t *testing.T) {
	for _, c := range determinantsByHand() {
		m := matrixShown(c.text)
		if got := sumOfChoices(m, true); got != c.want {
			t.Errorf("%s: the choices of %q sum up to %d, want %d", c.name, c.text, got, c.want)
		}
		checkDeterminant(t, m, c.want)
	}
	checkDeterminant(t, [][]int{}, 1)
}

// chain returns a matrix with 1 in row i and column i, below in column i + 1, and lower in row i + 1 and column i.
func chain(order, lower int) [][]int {
	m := diagonal(order)
	for i := range order - 1 {
		m[i][i+1], m[i+1][i] = 1, lower
	}
	return m
}

// circle returns a matrix with first in row i and column i, and second in the column behind, which is the first one in the last row.
func circle(order, first, second int) [][]int {
	m := zeros(order, order)
	for i := range m {
		m[i][i] += first
		m[i][(i+1)%order] += second
	}
	return m
}

// signOf returns -1 to the power of n.
func signOf(n int) int {
	return 1 - n%2*2
}

func TestDeterminantsOfAllOrders(t *testing.T) {
	fibonacci := []int{1, 1, 2, 3, 5, 8, 13, 21, 34, 55, 89, 144, 233, 377, 610, 987, 1597}
	turns := []int{1, 1, 0, -1, -1, 0}
	for order := range 17 {
		checkDeterminant(t, diagonal(order), 1)
		checkDeterminant(t, chain(order, -1), fibonacci[order])
		checkDeterminant(t, chain(order, 1), turns[order%6])
		reversed := diagonal(order)
		slices.Reverse(reversed)
		checkDeterminant(t, reversed, signOf(order/2))
		if order == 0 {
			continue
		}
		checkDeterminant(t, zeros(order, order), 0)
		checkDeterminant(t, withEntry(diagonal(order), order-1, order-1, -1), -1)
		checkDeterminant(t, withEntry(diagonal(order), order-1, order-1, 0), 0)
		checkDeterminant(t, withEntry(diagonal(order), 0, 0, 0), 0)
		checkDeterminant(t, circle(order, 0, 1), signOf(order-1))
		checkDeterminant(t, circle(order, 0, -1), -1)
		if order > 1 {
			checkDeterminant(t, circle(order, 1, 1), 1+signOf(order-1))
			checkDeterminant(t, circle(order, 1, -1), 0)
			checkDeterminant(t, withEntry(circle(order, 1, -1), 0, 1, 1), 2)
		}
	}
}

// greatest returns a matrix of blocks of four rows, each with the determinant 16, which is the greatest one that four entries per row allow.
func greatest(blocks int) [][]int {
	m := zeros(4*blocks, 4*blocks)
	for i := range m {
		copy(m[i][i/4*4:], matrixShown("++++ +-+- ++-- +--+")[i%4])
	}
	return m
}

func TestGreatestDeterminants(t *testing.T) {
	want := 1
	for blocks := range 5 {
		m := greatest(blocks)
		checkDeterminant(t, m, want)
		slices.Reverse(m)
		checkDeterminant(t, m, want)
		// The rows are mixed so that the first ones of all blocks are above the second ones, and so on.
		mixed := zeros(4*blocks, 4*blocks)
		for i := range m {
			copy(mixed[i%4*blocks+i/4], m[i])
		}
		checkDeterminant(t, mixed, sumOfChoices(mixed, true))
		if got := impl.DeterminantOf(mixed); max(got, -got) != want {
			t.Errorf("DeterminantOf %v is %d, want %d or its negative", mixed, got, want)
		}
		want *= 16
	}
}

func TestDeterminantsOfAllSmallMatrices(t *testing.T) {
	for order := 1; order <= 3; order++ {
		m := zeros(order, order)
		for more := true; more; more = nextMatrix(m) {
			checkDeterminant(t, m, sumOfChoices(m, true))
		}
	}
}

// nextMatrix counts on to the next matrix with entries from -1 to 1; false if all have been there, beginning with zeros.
func nextMatrix(m [][]int) bool {
	for _, row := range m {
		for k, entry := range row {
			switch entry {
			case 0:
				row[k] = 1
				return true
			case 1:
				row[k] = -1
				return true
			}
			row[k] = 0
		}
	}
	return false
}

func TestNextMatrix(t *testing.T) {
	for order, want := range map[int]int{1: 3, 2: 81, 3: 19683} {
		m, seen := zeros(order, order), map[string]bool{}
		for more := true; more; more = nextMatrix(m) {
			var name strings.Builder
			for _, entry := range slices.Concat(m...) {
				name.WriteByte("-.+"[entry+1])
			}
			seen[name.String()] = true
		}
		if len(seen) != want {
			t.Errorf("there are %d matrices with %d rows, want %d", len(seen), order, want)
		}
	}
}

// mixedMatrices returns n matrices with at most the given number of entries per row that are not 0, always the same ones.
func mixedMatrices(n, order, most int) [][][]int {
	state := uint32(100*order + most)
	next := func(limit int) int {
		state = state*1664525 + 1013904223
		return int(state>>16) % limit
	}
	matrices := make([][][]int, n)
	for i := range matrices {
		m := zeros(order, order)
		for _, row := range m {
			for range most {
				row[next(order)] = 2*next(2) - 1
			}
		}
		matrices[i] = m
	}
	return matrices
}

func TestDeterminantsOfMixedMatrices(t *testing.T) {
	zero, low, high := 0, 0, 0
	for order := 2; order <= 16; order++ {
		for most := 2; most <= 4; most++ {
			n := 60
			if order > 12 {
				n = 12
			}
			for _, m := range mixedMatrices(n, order, most) {
				want := sumOfChoices(m, true)
				checkDeterminant(t, m, want)
				switch {
				case want < 0:
					low++
				case want > 0:
					high++
				default:
					zero++
				}
			}
		}
	}
	if zero < 200 || low < 200 || high < 200 {
		t.Errorf("%d determinants are 0, %d ones below and %d ones above", zero, low, high)
	}
}

func TestDeterminantsOfChangedRows(t *testing.T) {
	for order := 2; order <= 16; order++ {
		for _, m := range mixedMatrices(10, order, 4) {
			want := impl.DeterminantOf(m)
			for i := range order - 1 {
				changed := cloneMatrix(m)
				changed[i], changed[i+1] = changed[i+1], changed[i]
				checkDeterminant(t, changed, -want)
				checkDeterminant(t, withRow(m, i, m[i+1]), 0)
				checkDeterminant(t, withRow(m, i+1, make([]int, order)), 0)
				negative := slices.Clone(m[i])
				for k := range negative {
					negative[k] = -negative[k]
				}
				checkDeterminant(t, withRow(m, i, negative), -want)
			}
		}
	}
}

func TestSquareOkEntries(t *testing.T) {
	wrong := []int{2, -2, 3, -3, 4, 127, 128, 256, -256, 1 << 32, 1<<32 + 1, -1 << 32, math.MaxInt, math.MinInt, math.MinInt + 1}
	for order := 1; order <= 16; order++ {
		for i := range order {
			k := (i * 7) % order
			for _, column := range []int{0, k, order - 1} {
				checkNoSquare(t, withEntry(diagonal(order), i, column, wrong[(i+column)%len(wrong)]))
				checkNoSquare(t, withEntry(zeros(order, order), i, column, 2))
				checkNoSquare(t, withEntry(zeros(order, order), i, column, -2))
			}
		}
		for _, entry := range wrong {
			checkNoSquare(t, withEntry(diagonal(order), order-1, order-1, entry))
			checkNoSquare(t, withEntry(diagonal(order), 0, order-1, entry))
		}
	}
	for _, entry := range []int{-1, 0, 1} {
		checkDeterminant(t, [][]int{{entry}}, entry)
	}
}

func TestSquareOkRowLengths(t *testing.T) {
	for order := 1; order <= 16; order++ {
		for _, m := range [][][]int{diagonal(order), zeros(order, order)} {
			for i := range order {
				checkNoSquare(t, withRow(m, i, m[i][:order-1]))
				checkNoSquare(t, withRow(m, i, m[i][1:]))
				checkNoSquare(t, withRow(m, i, append(slices.Clone(m[i]), 0)))
				checkNoSquare(t, withRow(m, i, append([]int{0}, m[i]...)))
				checkNoSquare(t, withRow(m, i, append(slices.Clone(m[i]), make([]int, 20)...)))
				checkNoSquare(t, withRow(m, i, nil))
			}
			checkNoSquare(t, append(cloneMatrix(m), make([]int, order)))
			checkNoSquare(t, append(cloneMatrix(m), nil))
			if order > 1 {
				checkNoSquare(t, m[:order-1])
			}
		}
		checkNoSquare(t, zeros(order, order-1))
		checkNoSquare(t, zeros(order, order+1))
		checkNoSquare(t, zeros(order, 0))
	}
}

func TestSquareOkEntriesThatAreNotZero(t *testing.T) {
	for order := 4; order <= 16; order++ {
		for i := range order {
			for shift := range order {
				row := make([]int, order)
				for n := range 4 {
					row[(n*3+shift)%order] = 2*(n%2) - 1
				}
				// Some of the four places may be the same.
				m := withRow(diagonal(order), i, row)
				checkDeterminant(t, m, row[i])
				for k := range row {
					if row[k] == 0 && countEntries(row) < 4 {
						row[k] = 1
					}
				}
				checkDeterminant(t, withRow(diagonal(order), i, row), row[i])
				for k := range row {
					if row[k] == 0 {
						checkNoSquare(t, withEntry(withRow(diagonal(order), i, row), i, k, 1))
						checkNoSquare(t, withEntry(withRow(diagonal(order), i, row), i, k, -1))
					}
				}
			}
		}
	}
}

// countEntries returns the number of entries that are not 0.
func countEntries(row []int) int {
	count := 0
	for _, entry := range row {
		if entry != 0 {
			count++
		}
	}
	return count
}

func TestSquareOkFullRows(t *testing.T) {
	for order := 1; order <= 16; order++ {
		for _, entry := range []int{1, -1} {
			full := slices.Repeat([]int{entry}, order)
			for i := range order {
				m := withRow(diagonal(order), i, full)
				if order > 4 {
					checkNoSquare(t, m)
				} else {
					checkDeterminant(t, m, entry)
				}
			}
			// A column may have as many entries as it likes.
			m := diagonal(order)
			for i := range m {
				m[i][0] = entry
			}
			checkDeterminant(t, m, entry)
		}
	}
	// All sets of places of a row.
	for places := range 1 << 8 {
		row := make([]int, 8)
		for k := range row {
			if places>>k&1 != 0 {
				row[k] = 1 - 2*(k%2)
			}
		}
		if m := withRow(diagonal(8), 7, row); bits.OnesCount(uint(places)) > 4 {
			checkNoSquare(t, m)
		} else {
			checkDeterminant(t, m, row[7])
		}
	}
}

func TestSquareOkTooManyRows(t *testing.T) {
	for _, order := range []int{17, 18, 32, 100} {
		checkNoSquare(t, diagonal(order))
		checkNoSquare(t, zeros(order, order))
		checkNoSquare(t, circle(order, 0, 1))
		checkNoSquare(t, zeros(order, 0))
		checkNoSquare(t, make([][]int, order))
		checkNoSquare(t, zeros(order, 16))
	}
	checkDeterminant(t, diagonal(16), 1)
	checkDeterminant(t, circle(16, 0, 1), -1)
	checkNoSquare(t, zeros(16, 17))
	checkNoSquare(t, append(diagonal(16), make([]int, 16)))
	checkNoSquare(t, make([][]int, 1000))
	checkNoSquare(t, [][]int{make([]int, 1000)})
}

func TestDeterminantOfRowsThatShareMemory(t *testing.T) {
	row := []int{1, -1, 0}
	checkDeterminant(t, [][]int{row, row, {0, 0, 1}}, 0)
	for pattern := range 243 {
		// The rows are cut from one list so that they overlap.
		list := make([]int, 5)
		for k, rest := 0, pattern; k < 5; k, rest = k+1, rest/3 {
			list[k] = rest%3 - 1
		}
		m := [][]int{list[0:3], list[1:4], list[2:5]}
		before := slices.Clone(list)
		checkDeterminant(t, m, sumOfChoices(cloneMatrix(m), true))
		if !slices.Equal(list, before) {
			t.Errorf("the memory %v of rows became %v", before, list)
		}
	}
}

// whitesShown returns the white cells that the lines show, row by row.
func whitesShown(lines []string) []impl.Cell {
	blacks := blacksShown(lines)
	return slices.DeleteFunc(cellsShown(lines), func(c impl.Cell) bool {
		return slices.Contains(blacks, c)
	})
}

// wantedSigns returns the matrix of the floor that the lines show; nil if it has none.
func wantedSigns(lines []string) [][]int {
	blacks, whites := blacksShown(lines), whitesShown(lines)
	if len(blacks) == 0 || len(blacks) > 16 || len(blacks) != len(whites) {
		return nil
	}
	m := zeros(len(blacks), len(whites))
	for i, black := range blacks {
		for k, white := range whites {
			switch right, down := white.X-black.X, white.Y-black.Y; {
			case right == 0 && (down == 1 || down == -1):
				m[i][k] = []int{1, -1, 1, -1, 1, -1, 1, -1}[black.X]
			case down == 0 && (right == 1 || right == -1):
				m[i][k] = 1
			}
		}
	}
	return m
}

// holesShown returns the number of holes of a region, as its text shows them.
func holesShown(r impl.Region) int {
	return len(partsOf(withRing(r), '.', true)) - 1
}

// checkMatrix compares SignMatrix of a region with what is wanted.
func checkMatrix(t *testing.T, r impl.Region, want [][]int) {
	t.Helper()
	if got := impl.SignMatrix(r); !isSameMatrix(got, want) {
		t.Errorf("SignMatrix of %v is %v, want %v", r.Rows, got, want)
	}
}

// checkSignCounts compares CountBySigns and CountByExpansion of a region with what is wanted.
func checkSignCounts(t *testing.T, r impl.Region, bySigns, byExpansion int) {
	t.Helper()
	if got := impl.CountBySigns(r); got != bySigns {
		t.Errorf("CountBySigns of %v is %d, want %d", r.Rows, got, bySigns)
	}
	if got := impl.CountByExpansion(r); got != byExpansion {
		t.Errorf("CountByExpansion of %v is %d, want %d", r.Rows, got, byExpansion)
	}
}

// checkNoSigns checks that a region has no SignMatrix, and so no counts.
func checkNoSigns(t *testing.T, r impl.Region) {
	t.Helper()
	checkMatrix(t, r, nil)
	checkSignCounts(t, r, -1, -1)
}

// signKind is what a region shows of Chapter 16.
type signKind int

const (
	noSigns  signKind = iota // no matrix
	counted                  // the determinant is the number of tilings, which is not 0, and there is no hole
	none                     // there are no tilings and no hole
	holes                    // there is a hole, and the determinant is the number of tilings
	canceled                 // the determinant is less than the number of tilings
)

// checkSigns compares everything that Chapter 16 says of a valid region with what its text shows, and checks the promise.
func checkSigns(t *testing.T, r impl.Region) signKind {
	t.Helper()
	lines := impl.RegionText(r)
	want := wantedSigns(lines)
	if want == nil {
		checkNoSigns(t, r)
		return noSigns
	}
	tilings, determinant := waysKnown(bitsOf(lines), map[uint64]int{}), sumOfChoices(want, true)
	if got := impl.CountTilings(r); got != tilings {
		t.Errorf("CountTilings of %v is %d, want %d", r.Rows, got, tilings)
	}
	checkMatrix(t, r, want)
	checkDeterminant(t, impl.SignMatrix(r), determinant)
	byExpansion := -1
	if len(want) <= 10 {
		byExpansion = tilings
	}
	checkSignCounts(t, r, max(determinant, -determinant), byExpansion)
	switch {
	case max(determinant, -determinant) == tilings && holesShown(r) > 0:
		return holes
	case holesShown(r) > 0:
		return canceled
	case max(determinant, -determinant) != tilings:
		t.Errorf("%v has no holes and %d tilings, but the determinant is %d", r.Rows, tilings, determinant)
		return canceled
	case tilings > 0:
		return counted
	}
	return none
}

// signCase is a floor, its matrix as matrixShown reads it, and its counts.
type signCase struct {
	name               string
	lines              []string
	matrix             string
	signs, byExpansion int
}

// signsByHand returns floors whose matrices were worked out by hand.
func signsByHand() []signCase {
	return []signCase{
		{"two cells across", []string{"##"}, "+", 1, 1},
		{"two cells across, the white one first", []string{".##"}, "+", 1, 1},
		{"two cells down in column 0", []string{"#", "#"}, "+", 1, 1},
		{"two cells down in column 0, the white one first", []string{"", "#", "#"}, "+", 1, 1},
		{"two cells down in column 1", []string{".#", ".#"}, "-", 1, 1},
		{"two cells down in column 1, the black one first", []string{"", ".#", ".#"}, "-", 1, 1},
		{"two cells down in column 2", []string{"..#", "..#"}, "+", 1, 1},
		{"two cells down in column 7", append(linesOf("", 6), ".......#", ".......#"), "-", 1, 1},
		{"two cells apart", []string{"#..#"}, ".", 0, 0},
		{"two cells above each other with a gap", []string{"#", "", "", "#"}, ".", 0, 0},
		{"the end of a row and the start of the next one but one", []string{".......#", "", "#"}, ".", 0, 0},
		{"a row", []string{"####"}, "+. ++", 1, 1},
		{"column 0", linesOf("#", 4), "+. ++", 1, 1},
		{"column 1", linesOf(".#", 4), "-- .-", 1, 1},
		{"a corner", []string{"##", ".#", ".#"}, "+. --", 1, 1},
		{"a square", linesOf("##", 2), "++ -+", 2, 2},
		{"a square from an odd column on", linesOf(".##", 2), "++ -+", 2, 2},
		{"a square from an odd row on", []string{"", "##", "##"}, "+- ++", 2, 2},
		{"three columns", linesOf("###", 2), "++. +.+ -++", 3, 3},
		{"two columns", linesOf("##", 3), "++. -+- .++", 3, 3},
		{"two dominoes apart", []string{"##", "", ".#", ".#"}, "+. .-", 1, 1},
		{"a ring", []string{"###", "#.#", "###"}, "++.. +.+. .+.+ ..++", 0, 2},
		{"a ring from an odd row on", []string{"", "###", "#.#", "###"}, "++.. +.+. .+.+ ..++", 0, 2},
		{"a ring from an odd column on", []string{".###", ".#.#", ".###"}, "++.. -.-. .-.- ..++", 0, 2},
		{"balanced without tilings", []string{".#..#", "######"}, "...+ -++. ..++ ...+", 0, 0},
	}
}

func TestSignsByHand(t *testing.T) {
	for _, c := range signsByHand() {
		r, want := regionOf(c.lines), matrixShown(c.matrix)
		if !isSameMatrix(wantedSigns(c.lines), want) {
			t.Errorf("%s: the matrix of %q is %v, want %v", c.name, c.lines, wantedSigns(c.lines), want)
		}
		checkMatrix(t, r, want)
		checkSignCounts(t, r, c.signs, c.byExpansion)
		for _, turn := range allTurns(r) {
			checkSigns(t, turn)
			checkSignCounts(t, turn, c.signs, c.byExpansion)
		}
	}
}

func TestSignsOfFloorsWithHoles(t *testing.T) {
	// A ring around an odd number of cells has two tilings that cancel each other, and one around an even number has two that do not.
	for _, c := range []struct {
		name               string
		lines              []string
		signs, byExpansion int
	}{
		{"around one cell", []string{"###", "#.#", "###"}, 0, 2},
		{"around one cell in the last corner", append(linesOf("", 5), ".....###", ".....#.#", ".....###"), 0, 2},
		{"around two cells", []string{"####", "#..#", "####"}, 2, 2},
		{"around three cells", []string{"#####", "#...#", "#####"}, 0, 2},
		{"around a corner of three cells", []string{"####", "#..#", "##.#", ".###"}, 0, 2},
		{"around four cells", linesOfRing(4, 4), 2, 2},
		{"around nine cells", linesOfRing(5, 5), 0, 2},
		{"around twelve cells", linesOfRing(6, 5), 2, 2},
		{"around 15 cells", linesOfRing(7, 5), 0, 2},
		{"around 20 cells", linesOfRing(7, 6), 2, -1},
		{"around 36 cells", linesOfRing(8, 8), 2, -1},
		{"around a domino", []string{"######", "#....#", "#.##.#", "#....#", "######"}, 2, 2},
		{"around a ring", []string{"#######", "#.....#", "#.###.#", "#.#.#.#", "#.###.#", "#.....#", "#######"}, 0, -1},
		{"two rings around one cell", []string{"###.###", "#.#.#.#", "###.###"}, 0, 4},
		{"two rings around two cells", []string{"####", "#..#", "####", "....####", "....#..#", "....####"}, 4, 4},
		{"two rings, one around one cell", []string{"####.###", "#..#.#.#", "####.###"}, 0, 4},
		{"a ring around one cell and a square", []string{"###.##", "#.#.##", "###"}, 0, 4},
		{"a ring around two cells and a square", []string{"####.##", "#..#.##", "####"}, 4, 4},
	} {
		for _, r := range allTurns(regionOf(c.lines)) {
			if kind := checkSigns(t, r); kind != holes && kind != canceled {
				t.Errorf("%s: %v has no holes", c.name, r.Rows)
			}
			checkSignCounts(t, r, c.signs, c.byExpansion)
		}
	}
}

// linesOfRing returns the cells of a rectangle at its sides.
func linesOfRing(width, height int) []string {
	side := "#" + emptyLine[:width-2] + "#"
	return append(append([]string{fullLine[:width]}, linesOf(side, height-2)...), fullLine[:width])
}

func TestSignsOfRectangles(t *testing.T) {
	for y, row := range rectangleCounts() {
		for x, want := range row {
			width, height := x+1, y+1
			lines := linesOf(fullLine[:width], height)
			low := append(linesOf("", 8-height), linesOf(emptyLine[width:]+fullLine[:width], height)...)
			for _, r := range []impl.Region{impl.Rectangle(width, height), regionOf(lines), regionOf(low)} {
				kind := checkSigns(t, r)
				switch count := width * height; {
				case count%2 != 0 || count > 32:
					checkNoSigns(t, r)
				case count > 20:
					checkSignCounts(t, r, want, -1)
				default:
					checkSignCounts(t, r, want, want)
				}
				if hasSigns := width*height%2 == 0 && width*height <= 32; hasSigns != (kind == counted) {
					t.Errorf("the rectangle of %d times %d cells is of the kind %d", width, height, kind)
				}
			}
		}
	}
}

func TestSignsOfEachDomino(t *testing.T) {
	for _, d := range allDominoes() {
		var r impl.Region
		for _, c := range shownUnder(d) {
			r, _ = impl.WithCell(r, c, true)
		}
		want := 1
		if d.Down && d.X%2 == 1 {
			want = -1
		}
		checkMatrix(t, r, [][]int{{want}})
		checkSignCounts(t, r, 1, 1)
	}
}

func TestSignsOfPairsOfCells(t *testing.T) {
	for i, a := range validCells() {
		for _, b := range validCells()[i+1:] {
			r, _ := impl.WithCell(impl.Region{}, a, true)
			r, _ = impl.WithCell(r, b, true)
			isBalanced := (a.X+a.Y+b.X+b.Y)%2 == 1
			switch kind := checkSigns(t, r); {
			case !isBalanced:
				checkNoSigns(t, r)
			case haveSideInCommon(a, b) != (kind == counted) || kind == noSigns:
				t.Errorf("%v and %v are of the kind %d", a, b, kind)
			}
		}
	}
}

func TestSignMatrixLimits(t *testing.T) {
	// The board is filled by dominoes across, row by row, or down, column by column.
	for n := range 33 {
		lines := linesOf(fullLine, n/4)
		if n%4 > 0 {
			lines = append(lines, fullLine[:n%4*2])
		}
		r := regionOf(lines)
		for _, turn := range allTurns(r) {
			m := impl.SignMatrix(turn)
			if n <= 16 && len(m) != n || n > 16 && len(m) != 0 {
				t.Errorf("SignMatrix of %v has %d rows", turn.Rows, len(m))
			}
			if kind := checkSigns(t, turn); (kind == counted) != (n > 0 && n <= 16) {
				t.Errorf("%v is of the kind %d", turn.Rows, kind)
			}
			if got := impl.CountByExpansion(turn); (got > 0) != (n > 0 && n <= 10) || got == 0 {
				t.Errorf("CountByExpansion of %v is %d", turn.Rows, got)
			}
			// One more cell, or one less, unbalances the region.
			for _, c := range []impl.Cell{{X: 0, Y: 0}, {X: 7, Y: 7}} {
				odd, _ := impl.WithCell(turn, c, !impl.HasCell(turn, c))
				checkNoSigns(t, odd)
			}
		}
	}
}

func TestSignsOfScatteredCells(t *testing.T) {
	// Of the black cells of four rows and the white ones of the other four, only four pairs in the middle are neighbors.
	lines := append(board()[:4], board()[1], board()[0], board()[1], board()[0])
	r := regionOf(lines)
	m := impl.SignMatrix(r)
	if len(m) != 16 || checkSigns(t, r) != none {
		t.Errorf("SignMatrix of %v is %v", r.Rows, m)
	}
	sum := 0
	for _, entry := range slices.Concat(m...) {
		sum += entry
	}
	if sum != -4 {
		t.Errorf("the entries of %v sum up to %d, want -4", m, sum)
	}
	checkSignCounts(t, r, 0, -1)
}

func TestSignsRejectRegions(t *testing.T) {
	for _, r := range append(invalidRegions(), emptyRegions()...) {
		checkNoSigns(t, r)
	}
	for _, lines := range [][]string{
		{"#"},
		{"###"},
		{"#.#"},
		{".......#", "#"},
		linesOf("###", 3),
		append(board()[:4], board()[0]),
		board(),
		append(board()[1:], board()[0]),
		linesOf(fullLine, 8),
		append(linesOf(fullLine, 4), "#"),
		append(linesOf(fullLine, 4), "##"),
		append(linesOf(fullLine, 4), ".......#", ".......#"),
		append(linesOf(fullLine, 4), "", "##"),
	} {
		checkNoSigns(t, regionOf(lines))
	}
	// Rows that are not valid make a region invalid even behind 32 cells.
	for _, row := range []int{-1, 256, math.MinInt} {
		checkNoSigns(t, impl.Region{Rows: append(slices.Repeat([]int{255}, 4), row)})
	}
}

func TestSignsOfMissingRows(t *testing.T) {
	for _, lines := range [][]string{{"##"}, linesOf("##", 2), {"#", "#"}, {"#..#"}, {"###", "#.#", "###"}, linesOf(fullLine, 4)} {
		r := regionOf(lines)
		want, signs, byExpansion := wantedSigns(lines), impl.CountBySigns(r), impl.CountByExpansion(r)
		for len(r.Rows) <= 8 {
			checkMatrix(t, r, want)
			checkSignCounts(t, r, signs, byExpansion)
			r.Rows = append(slices.Clone(r.Rows), 0)
		}
		checkNoSigns(t, r)
	}
}

// signedRegions returns many regions of all kinds.
func signedRegions() []impl.Region {
	regions := slices.Concat(tiledRegions(90), grownRegions(60))
	for _, share := range []uint32{3, 5, 7, 8, 9, 11, 13} {
		regions = append(regions, mixedRegions(400, share)...)
	}
	var floors [][]string
	for _, c := range allFloorCases() {
		floors = append(floors, c.lines)
	}
	for _, c := range slices.Concat(untileableFloors(), tileableFloors(), nearLimit()) {
		floors = append(floors, c.lines)
	}
	for _, c := range slices.Concat(floorsInOnePart(), floorsInParts()) {
		floors = append(floors, c.lines)
	}
	for _, lines := range floors {
		regions = append(regions, allTurns(regionOf(lines))...)
	}
	return regions
}

func TestSignsOfManyRegions(t *testing.T) {
	kinds := map[signKind]int{}
	for _, r := range signedRegions() {
		kinds[checkSigns(t, r)]++
	}
	for kind, want := range map[signKind]int{noSigns: 500, counted: 300, none: 100, holes: 50, canceled: 20} {
		if kinds[kind] < want {
			t.Errorf("only %d regions are of the kind %d", kinds[kind], kind)
		}
	}
}

func TestSignsOfAllWindows(t *testing.T) {
	kinds := map[signKind]int{}
	for pattern := range 1 << 12 {
		for _, at := range [][2]int{{0, 0}, {1, 2}, {4, 5}} {
			kinds[checkSigns(t, windowRegion(at[0], at[1], pattern, false))]++
		}
	}
	if kinds[counted] < 500 || kinds[none] < 500 || kinds[canceled] < 10 || kinds[holes] < 3 {
		t.Errorf("there are too few regions of a kind: %v", kinds)
	}
}

func TestSignsOfCutRegions(t *testing.T) {
	// One or two dominoes are cut out of a floor at all places, so that there are gaps and holes of two cells, and of more.
	kinds := map[signKind]int{}
	for _, lines := range [][]string{linesOf(fullLine, 4), linesOf("######", 5)} {
		dominoes := dominoesOn(lines)
		for i, d := range dominoes {
			for _, e := range dominoes[i:] {
				r := regionOf(lines)
				for _, c := range append(cellsOfBoth(d), cellsOfBoth(e)...) {
					r, _ = impl.WithCell(r, c, false)
				}
				kinds[checkSigns(t, r)]++
			}
		}
	}
	if kinds[counted] < 500 || kinds[holes] < 100 {
		t.Errorf("there are too few regions of a kind: %v", kinds)
	}
}

// cellsOfBoth returns both cells of a domino on the board.
func cellsOfBoth(d impl.Domino) []impl.Cell {
	under := shownUnder(d)
	return under[:]
}

// matrixWithSpare returns a matrix whose memory goes on behind its rows and behind the entries of each row, all rows of that memory, and the memory of each row.
func matrixWithSpare(m [][]int) ([][]int, [][]int, [][]int) {
	var rows, memories [][]int
	for _, from := range m {
		row, memory := numbersWithSpare(from)
		rows, memories = append(rows, row), append(memories, memory)
	}
	for range 3 {
		rows = append(rows, []int{-78})
	}
	return rows[:len(m)], rows, memories
}

// matricesToKeep returns matrices of all kinds.
func matricesToKeep() [][][]int {
	matrices := [][][]int{nil, {}, {nil}, {{}}, {{2}}, {{1, 0}}, {{1}, {0}}, diagonal(17), zeros(16, 17), withRow(diagonal(6), 2, []int{1, 1, 1, 1, 1, 0})}
	for _, c := range determinantsByHand() {
		matrices = append(matrices, matrixShown(c.text))
	}
	for order := 2; order <= 16; order++ {
		matrices = append(matrices, mixedMatrices(5, order, 4)...)
	}
	return append(matrices, circle(16, 0, 1), greatest(4), circle(16, 1, -1))
}

func TestMatrixFunctionsLeaveArguments(t *testing.T) {
	for _, from := range matricesToKeep() {
		m, rows, memories := matrixWithSpare(from)
		rowsBefore, memoriesBefore := cloneMatrix(rows), cloneMatrix(memories)
		isOk, determinant := impl.SquareOk(m), impl.DeterminantOf(m)
		if !isSameMatrix(rows, rowsBefore) || !isSameMatrix(memories, memoriesBefore) {
			t.Errorf("the rows %v became %v, in %v", rowsBefore, rows, memories)
		}
		for i, row := range m {
			if len(row) > 0 && &row[0] != &memories[i][0] {
				t.Errorf("the row %d of %v was exchanged", i, from)
			}
		}
		if impl.SquareOk(m) != isOk || impl.DeterminantOf(m) != determinant {
			t.Errorf("the same calls for %v return something else", from)
		}
	}
}

func TestSignFunctionsLeaveRegions(t *testing.T) {
	for _, from := range append(regionsToKeep(), signedRegions()[:150]...) {
		r, memory := withSpare(from.Rows)
		before := slices.Clone(memory)
		m, signs, byExpansion := impl.SignMatrix(r), impl.CountBySigns(r), impl.CountByExpansion(r)
		if !slices.Equal(memory, before) {
			t.Errorf("the argument %v became %v", before, memory)
		}
		checkMatrix(t, r, m)
		checkSignCounts(t, r, signs, byExpansion)
	}
}

// overwriteMatrix changes everything in the memory of a matrix, behind its rows as well.
func overwriteMatrix(m [][]int) {
	for _, row := range m[:cap(m)] {
		overwriteNumbers(row)
	}
	for i := range m[:cap(m)] {
		m[:cap(m)][i] = nil
	}
}

func TestSignMatrixReturnsNewMemory(t *testing.T) {
	for _, from := range append(regionsToKeep(), signedRegions()[:150]...) {
		r, memory := withSpare(from.Rows)
		before := slices.Clone(memory)
		m, other := impl.SignMatrix(r), impl.SignMatrix(r)
		want := cloneMatrix(m)
		overwrite(r)
		if !isSameMatrix(m, want) {
			t.Errorf("a changed argument %v changes the matrix to %v", from.Rows, m)
		}
		copy(memory, before)
		for i, row := range m {
			overwriteNumbers(row)
			if !isSameMatrix(m[i+1:], want[i+1:]) {
				t.Errorf("a changed row %d of the matrix of %v changes others: %v", i, from.Rows, m)
			}
		}
		for i := range m {
			overwriteNumbers(m[len(m)-1-i])
			copy(m[len(m)-1-i], want[len(m)-1-i])
		}
		if !isSameMatrix(m, want) {
			t.Errorf("rows of the matrix of %v share memory: %v", from.Rows, m)
		}
		overwriteMatrix(m)
		if !isSameMatrix(other, want) {
			t.Errorf("a changed matrix of %v changes another one to %v", from.Rows, other)
		}
		if !slices.Equal(memory, before) {
			t.Errorf("a changed matrix changes the argument %v to %v", from.Rows, memory)
		}
		checkMatrix(t, r, want)
	}
}

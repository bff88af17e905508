package tests

import (
	"math"
	"slices"
	"strconv"
	"strings"
	"sync"
	"testing"

	"loop.example/g03300/impl"
)

// point is a corner of cells.
type point struct{ x, y int }

// index returns the index of a corner of a valid cell.
func (p point) index() int {
	return 9*p.y + p.x
}

// onBoard reports whether the point is a corner of a valid cell.
func (p point) onBoard() bool {
	return p.x >= 0 && p.x <= 8 && p.y >= 0 && p.y <= 8
}

// aroundCell returns the corners of a cell in the order of a way around it that has the cell to the left.
func aroundCell(c impl.Cell) []point {
	return []point{{c.X, c.Y}, {c.X, c.Y + 1}, {c.X + 1, c.Y + 1}, {c.X + 1, c.Y}}
}

// aroundDomino returns the corners of both cells of a domino in the order of a way around it.
func aroundDomino(d impl.Domino) []point {
	if d.Down {
		return []point{{d.X, d.Y}, {d.X, d.Y + 1}, {d.X, d.Y + 2}, {d.X + 1, d.Y + 2}, {d.X + 1, d.Y + 1}, {d.X + 1, d.Y}}
	}
	return []point{{d.X, d.Y}, {d.X, d.Y + 1}, {d.X + 1, d.Y + 1}, {d.X + 2, d.Y + 1}, {d.X + 2, d.Y}, {d.X + 1, d.Y}}
}

// stepTable returns the step of each way along a side, from the first point to the second one, by going around all valid cells and those beside them. It is made once, since every check of heights needs it.
var stepTable = sync.OnceValue(func() map[[2]point]int {
	steps, colors := map[[2]point]int{}, board()
	for y := -1; y <= 8; y++ {
		for x := -1; x <= 8; x++ {
			step := -1
			// Colors repeat after two cells, and so after eight ones.
			if colors[(y+8)%8][(x+8)%8] == '#' {
				step = 1
			}
			corners := aroundCell(impl.Cell{X: x, Y: y})
			for i, from := range corners {
				if to := corners[(i+1)%4]; from.onBoard() && to.onBoard() {
					steps[[2]point{from, to}] = step
				}
			}
		}
	}
	return steps
})

func TestEdgeStep(t *testing.T) {
	cases := []struct {
		name           string
		ax, ay, bx, by int
		want           int
	}{
		{"right, below a white cell", 0, 1, 1, 1, 1},
		{"right, below the cell 1, 0", 1, 1, 2, 1, -1},
		{"left, above the cell 1, 1", 2, 1, 1, 1, 1},
		{"left, above the cell 0, 1", 1, 1, 0, 1, -1},
		{"down, beside the cell 1, 1", 1, 1, 1, 2, 1},
		{"down, beside the cell 1, 0", 1, 0, 1, 1, -1},
		{"up, beside the cell 0, 0", 1, 1, 1, 0, 1},
		{"up, beside the cell 0, 1", 1, 2, 1, 1, -1},
		{"right, above the first row", 0, 0, 1, 0, -1},
		{"right, above the first row, next", 1, 0, 2, 0, 1},
		{"right, at the end of the first row", 7, 0, 8, 0, 1},
		{"left, at the end of the first row", 8, 0, 7, 0, -1},
		{"left, at the beginning of the first row", 1, 0, 0, 0, 1},
		{"left, below the last row", 1, 8, 0, 8, 1},
		{"left, below the last row, at its end", 8, 8, 7, 8, -1},
		{"right, at the beginning of the last row", 0, 8, 1, 8, -1},
		{"right, at the end of the last row", 7, 8, 8, 8, 1},
		{"up, left of the first column", 0, 1, 0, 0, -1},
		{"up, left of the first column, next", 0, 2, 0, 1, 1},
		{"up, left of the first column, at its end", 0, 8, 0, 7, 1},
		{"down, at the beginning of the first column", 0, 0, 0, 1, 1},
		{"down, right of the last column", 8, 0, 8, 1, 1},
		{"down, right of the last column, next", 8, 1, 8, 2, -1},
		{"down, right of the last column, at its end", 8, 7, 8, 8, -1},
		{"up, at the beginning of the last column", 8, 1, 8, 0, -1},
		{"up, at the end of the last column", 8, 8, 8, 7, 1},
		{"no way", 3, 3, 3, 3, 0},
		{"no way at the first corner", 0, 0, 0, 0, 0},
		{"across a cell", 0, 0, 1, 1, 0},
		{"across a cell, the other way", 4, 4, 3, 5, 0},
		{"two sides", 2, 2, 4, 2, 0},
		{"two sides down", 2, 2, 2, 4, 0},
		{"from one end of a row to the other one", 0, 4, 8, 4, 0},
		{"the end of a row and the start of the next one", 8, 0, 0, 1, 0},
		{"out of the first row", 3, 0, 3, -1, 0},
		{"out of the first column", 0, 3, -1, 3, 0},
		{"out of the last row", 3, 8, 3, 9, 0},
		{"out of the last column", 8, 3, 9, 3, 0},
		{"into the first row", 3, -1, 3, 0, 0},
		{"into the first column", -1, 3, 0, 3, 0},
		{"into the last row", 3, 9, 3, 8, 0},
		{"into the last column", 9, 3, 8, 3, 0},
		{"along the outside, above", 3, -1, 4, -1, 0},
		{"along the outside, to the right", 9, 3, 9, 4, 0},
	}
	for _, c := range cases {
		if got := impl.EdgeStep(c.ax, c.ay, c.bx, c.by); got != c.want {
			t.Errorf("%s: EdgeStep from %d, %d to %d, %d is %d, want %d", c.name, c.ax, c.ay, c.bx, c.by, got, c.want)
		}
	}
}

func TestEdgeStepOfAllWays(t *testing.T) {
	steps, sides := stepTable(), 0
	for i := range 14 * 14 * 14 * 14 {
		from, to := point{i%14 - 3, i/14%14 - 3}, point{i/196%14 - 3, i/2744 - 3}
		got := impl.EdgeStep(from.x, from.y, to.x, to.y)
		if want := steps[[2]point{from, to}]; got != want {
			t.Errorf("EdgeStep from %v to %v is %d, want %d", from, to, got, want)
		}
		if back := impl.EdgeStep(to.x, to.y, from.x, from.y); back != -got {
			t.Errorf("EdgeStep from %v to %v is %d, and %d back", from, to, got, back)
		}
		if got != 0 {
			sides++
		}
	}
	// 9 rows and 9 columns have 8 sides each, with two ways along each one.
	if sides != 2*2*9*8 {
		t.Errorf("there are %d ways along sides, want %d", sides, 2*2*9*8)
	}
}

func TestEdgeStepOfGreatNumbers(t *testing.T) {
	var numbers []int
	for _, n := range []int{0, 8, -1000, 81, 1 << 31, 1 << 32, 1 << 62, -1 << 32, math.MaxInt, math.MinInt} {
		numbers = append(numbers, n-1, n, n+1)
	}
	steps := stepTable()
	for _, ax := range numbers {
		for _, ay := range numbers {
			for _, bx := range numbers {
				for _, by := range numbers {
					want := steps[[2]point{{ax, ay}, {bx, by}}]
					if got := impl.EdgeStep(ax, ay, bx, by); got != want {
						t.Errorf("EdgeStep from %d, %d to %d, %d is %d, want %d", ax, ay, bx, by, got, want)
					}
				}
			}
		}
	}
}

// wantedHeights returns the heights of the corners of the dominoes, by going around each domino as long as there is something new.
func wantedHeights(tiling []impl.Domino) []int {
	steps, heights, first := stepTable(), slices.Repeat([]int{-1000}, 81), 81
	for _, d := range tiling {
		for _, p := range aroundDomino(d) {
			first = min(first, p.index())
		}
	}
	if len(tiling) > 0 {
		heights[first] = 0
	}
	for changed := true; changed; {
		changed = false
		for _, d := range tiling {
			corners := aroundDomino(d)
			// The second time around reaches the corners before the first one with a height.
			for i := range 2 * len(corners) {
				from, to := corners[i%6], corners[(i+1)%6]
				if heights[from.index()] != -1000 && heights[to.index()] == -1000 {
					heights[to.index()] = heights[from.index()] + steps[[2]point{from, to}]
					changed = true
				}
			}
		}
	}
	return heights
}

// shownSimple reports whether the cells that the lines show are in one part, and the others as well, even if corners do not count.
func shownSimple(lines []string) bool {
	ring := withRing(regionOf(lines))
	return len(partsOf(ring, '#', false)) == 1 && len(partsOf(ring, '.', false)) == 1
}

// checkHeights compares everything that Chapter 13 says of a tiling of a simple region with what is wanted; it returns the heights.
func checkHeights(t *testing.T, r impl.Region, tiling []impl.Domino) []int {
	t.Helper()
	want, sum := wantedHeights(tiling), 0
	for _, height := range want {
		if height != -1000 {
			sum += height
		}
	}
	got := impl.HeightsOf(r, tiling)
	if !slices.Equal(got, want) {
		t.Errorf("HeightsOf %v and %v is %v, want %v", r.Rows, tiling, got, want)
	}
	if got := impl.HeightSum(want); got != sum {
		t.Errorf("HeightSum of %v is %d, want %d", want, got, sum)
	}
	if list, ok := impl.TilingFrom(r, want); !ok || !slices.Equal(list, tiling) {
		t.Errorf("TilingFrom %v and %v is %v and %v, want %v and true", r.Rows, want, list, ok, tiling)
	}
	return got
}

// checkSides checks what the document says of heights, side by side.
func checkSides(t *testing.T, lines []string, tiling []impl.Domino, heights []int) {
	t.Helper()
	isCorner, joined := [81]bool{}, joinedCells(tiling)
	for _, c := range cellsShown(lines) {
		corners := aroundCell(c)
		for i, from := range corners {
			isCorner[from.index()] = true
			to := corners[(i+1)%4]
			// In this order, the cell to the left, the one below, the one to the right and the one above lie beside the sides.
			beside := []int{-1, 8, 1, -8}[i] + 8*c.Y + c.X
			step := heights[to.index()] - heights[from.index()]
			if joined[8*c.Y+c.X] == beside {
				if step != 3 && step != -3 {
					t.Errorf("the heights of %v in %q differ by %d along the side from %v to %v, which divides a domino", tiling, lines, step, from, to)
				}
			} else if want := impl.EdgeStep(from.x, from.y, to.x, to.y); step != want {
				t.Errorf("the heights of %v in %q differ by %d along the side from %v to %v, want %d", tiling, lines, step, from, to, want)
			}
		}
	}
	first := slices.Index(isCorner[:], true)
	if heights[first] != 0 {
		t.Errorf("the corner with the least index has the height %d in %q", heights[first], lines)
	}
	for i, height := range heights {
		if isCorner[i] == (height == impl.NoHeight) {
			t.Errorf("the height of the corner %d in %q is %d", i, lines, height)
		}
	}
}

// checkNoHeights checks that the region and each of the lists has no heights.
func checkNoHeights(t *testing.T, r impl.Region, lists [][]impl.Domino) {
	t.Helper()
	for _, list := range lists {
		if got := impl.HeightsOf(r, list); len(got) != 0 {
			t.Errorf("HeightsOf %v and %v is %v, want nil", r.Rows, list, got)
		}
	}
}

// checkNoTilingFrom checks that the region has no tiling with any of these heights.
func checkNoTilingFrom(t *testing.T, r impl.Region, lists [][]int) {
	t.Helper()
	for _, heights := range lists {
		if list, ok := impl.TilingFrom(r, heights); ok || len(list) != 0 {
			t.Errorf("TilingFrom %v and %v is %v and %v, want nil and false", r.Rows, heights, list, ok)
		}
	}
}

// checkFlipOfHeights checks that a flip changes just the height in the middle of its square, and to which side.
func checkFlipOfHeights(t *testing.T, r impl.Region, tiling []impl.Domino, c impl.Cell) {
	t.Helper()
	flipped, ok := wantedFlip(tiling, c)
	if !ok {
		return
	}
	before, after := impl.HeightsOf(r, tiling), impl.HeightsOf(r, flipped)
	if len(before) != 81 || len(after) != 81 {
		t.Fatalf("%v or %v has no heights in %v", tiling, flipped, r.Rows)
	}
	// Two dominoes to the right lie around a peak if their first cell is black, and around a pit if it is white.
	change := -4
	if impl.IsBlack(c) == slices.Contains(tiling, down(c.X, c.Y)) {
		change = 4
	}
	want := slices.Clone(before)
	want[9*(c.Y+1)+c.X+1] += change
	if !slices.Equal(after, want) {
		t.Errorf("a flip of %v at %v changes the heights %v into %v, want %v", tiling, c, before, after, want)
	}
	if got := impl.HeightSum(after) - impl.HeightSum(before); got != change {
		t.Errorf("a flip of %v at %v changes the sum of the heights by %d, want %d", tiling, c, got, change)
	}
	if list, isTiling := impl.TilingFrom(r, want); !isTiling || !slices.Equal(list, flipped) {
		t.Errorf("TilingFrom %v and %v is %v and %v, want %v", r.Rows, want, list, isTiling, flipped)
	}
}

// checkDifferent checks that each two of these heights, of all tilings of a region, differ, by fours, and by one flip if in one corner only.
func checkDifferent(t *testing.T, tilings [][]impl.Domino, heights [][]int) {
	t.Helper()
	for i, a := range heights {
		for j := range i {
			var different []int
			for k, height := range heights[j] {
				if height != a[k] {
					different = append(different, k)
				}
				if (height-a[k])%4 != 0 {
					t.Errorf("the heights of %v and %v differ by %d in the corner %d", tilings[i], tilings[j], height-a[k], k)
				}
			}
			if len(different) == 0 {
				t.Errorf("%v and %v have the same heights %v", tilings[i], tilings[j], a)
			}
			if len(different) == 1 {
				middle := different[0]
				flipped, ok := wantedFlip(tilings[i], impl.Cell{X: middle%9 - 1, Y: middle/9 - 1})
				if !ok || !slices.Equal(flipped, tilings[j]) {
					t.Errorf("the heights of %v and %v differ in the corner %d only, but no flip leads there", tilings[i], tilings[j], middle)
				}
			}
		}
	}
}

// checkHeightsOfAll checks the heights of all tilings of a region, or that it has none; it returns how many tilings have heights.
func checkHeightsOfAll(t *testing.T, r impl.Region) int {
	t.Helper()
	lines := impl.RegionText(r)
	tilings := wantedList(lines)
	if !shownSimple(lines) {
		checkNoHeights(t, r, tilings)
		for _, tiling := range tilings {
			checkNoTilingFrom(t, r, [][]int{wantedHeights(tiling)})
		}
		return 0
	}
	heights := make([][]int, len(tilings))
	for i, tiling := range tilings {
		heights[i] = checkHeights(t, r, tiling)
		if len(heights[i]) != 81 {
			return 0
		}
		checkSides(t, lines, tiling, heights[i])
		for _, c := range impl.FlipsOf(tiling) {
			checkFlipOfHeights(t, r, tiling, c)
		}
	}
	if len(tilings) <= 60 {
		checkDifferent(t, tilings, heights)
	}
	return len(tilings)
}

// heightCase is a floor, one of its tilings as a text, and the heights of its corners, row by row, with a point where there is none.
type heightCase struct {
	name   string
	lines  []string
	tiling string
	want   []string
}

// heightsByHand returns floors whose heights were worked out by hand.
func heightsByHand() []heightCase {
	columns, rows := linesOf("##", 3), linesOf("###", 2)
	return []heightCase{
		{"one domino across", []string{"##"}, "0,0r", []string{"0 -1 0", "1 2 1"}},
		{"one domino down", linesOf("#", 2), "0,0d", []string{"0 -1", "1 -2", "0 -1"}},
		{"one domino across that begins with a white cell", []string{".##"}, "1,0r", []string{". 0 1 0", ". -1 -2 -1"}},
		{"one domino down that begins with a white cell", []string{"", "#", "#"}, "0,1d", []string{"", "0 1", "-1 2", "0 1"}},
		{"the last two cells of the first row", []string{"......##"}, "6,0r", []string{". . . . . . 0 -1 0", ". . . . . . 1 2 1"}},
		{"the last two cells of the first column", append(linesOf("", 6), "#", "#"), "0,6d", []string{"", "", "", "", "", "", "0 -1", "1 -2", "0 -1"}},
		{"the last two cells of the last row", append(linesOf("", 7), "......##"), "6,7r", []string{"", "", "", "", "", "", "", ". . . . . . 0 1 0", ". . . . . . -1 -2 -1"}},
		{"the last two cells of the last column", append(linesOf("", 6), ".......#", ".......#"), "7,6d", []string{"", "", "", "", "", "", ". . . . . . . 0 1", ". . . . . . . -1 2", ". . . . . . . 0 1"}},
		{"a square, across", linesOf("##", 2), "0,0r 0,1r", []string{"0 -1 0", "1 2 1", "0 -1 0"}},
		{"a square, down", linesOf("##", 2), "0,0d 1,0d", []string{"0 -1 0", "1 -2 1", "0 -1 0"}},
		{"a square that begins with a white cell, across", []string{"", "", "", "", "...##", "...##"}, "3,4r 3,5r", []string{"", "", "", "", ". . . 0 1 0", ". . . -1 -2 -1", ". . . 0 1 0"}},
		{"a square that begins with a white cell, down", []string{"", "", "", "", "...##", "...##"}, "3,4d 4,4d", []string{"", "", "", "", ". . . 0 1 0", ". . . -1 2 -1", ". . . 0 1 0"}},
		{"the last square, across", append(linesOf("", 6), "......##", "......##"), "6,6r 6,7r", []string{"", "", "", "", "", "", ". . . . . . 0 -1 0", ". . . . . . 1 2 1", ". . . . . . 0 -1 0"}},
		{"two columns, all across", columns, "0,0r 0,1r 0,2r", []string{"0 -1 0", "1 2 1", "0 -1 0", "1 2 1"}},
		{"two columns, two down below", columns, "0,0r 0,1d 1,1d", []string{"0 -1 0", "1 2 1", "0 3 0", "1 2 1"}},
		{"two columns, two down above", columns, "0,0d 1,0d 0,2r", []string{"0 -1 0", "1 -2 1", "0 -1 0", "1 2 1"}},
		{"two rows, two across to the left", rows, "0,0r 2,0d 0,1r", []string{"0 -1 0 -1", "1 2 1 -2", "0 -1 0 -1"}},
		{"two rows, two across to the right", rows, "0,0d 1,0r 1,1r", []string{"0 -1 0 -1", "1 -2 -3 -2", "0 -1 0 -1"}},
		{"two rows, all down", rows, "0,0d 1,0d 2,0d", []string{"0 -1 0 -1", "1 -2 1 -2", "0 -1 0 -1"}},
		{"a step", []string{"##", ".##", "..##"}, "0,0r 1,1r 2,2r", []string{"0 -1 0", "1 2 1 2", ". 3 4 3 4", ". . 5 6 5"}},
		{"a step to the other side", []string{"..##", ".##", "##"}, "2,0r 1,1r 0,2r", []string{". . 0 -1 0", ". 2 1 2 1", "4 3 4 3", "5 6 5"}},
	}
}

// heightsShown returns the heights of all corners that the rows show.
func heightsShown(rows []string) []int {
	heights := slices.Repeat([]int{-1000}, 81)
	for y, row := range rows {
		for x, field := range strings.Fields(row) {
			if height, err := strconv.Atoi(field); err == nil {
				heights[9*y+x] = height
			}
		}
	}
	return heights
}

// tilingNamed returns the tiling of the lines with this text.
func tilingNamed(t *testing.T, lines []string, text string) []impl.Domino {
	t.Helper()
	for _, tiling := range wantedList(lines) {
		if impl.TilingText(tiling) == text {
			return tiling
		}
	}
	t.Fatalf("%q has no tiling %q", lines, text)
	return nil
}

func TestHeightsOf(t *testing.T) {
	if impl.NoHeight != -1000 {
		t.Errorf("NoHeight is %d, want -1000", impl.NoHeight)
	}
	for _, c := range heightsByHand() {
		r, tiling, want := regionOf(c.lines), tilingNamed(t, c.lines, c.tiling), heightsShown(c.want)
		if got := impl.HeightsOf(r, tiling); !slices.Equal(got, want) {
			t.Errorf("%s: HeightsOf %q and %q is %v, want %v", c.name, c.lines, c.tiling, got, want)
		}
		if list, ok := impl.TilingFrom(r, want); !ok || impl.TilingText(list) != c.tiling {
			t.Errorf("%s: TilingFrom %q and %v is %v and %v, want %q", c.name, c.lines, want, list, ok, c.tiling)
		}
		checkHeightsOfAll(t, r)
	}
}

func TestHeightsOfFloors(t *testing.T) {
	var floors [][]string
	for _, c := range allFloorCases() {
		floors = append(floors, c.lines)
	}
	for _, c := range slices.Concat(untileableFloors(), tileableFloors(), nearLimit()) {
		floors = append(floors, c.lines)
	}
	for _, c := range slices.Concat(floorsInOnePart(), floorsInParts()) {
		floors = append(floors, c.lines)
	}
	for _, c := range listedFloors() {
		floors = append(floors, c.lines)
	}
	high := 0
	for _, lines := range append(floors, smallFloors()...) {
		for _, r := range allTurns(regionOf(lines)) {
			if impl.CountTilings(r) <= 40 && checkHeightsOfAll(t, r) > 0 {
				high++
			}
		}
	}
	if high < 100 {
		t.Errorf("only %d floors have heights", high)
	}
}

func TestHeightsOfRectangles(t *testing.T) {
	for width := 1; width <= 8; width++ {
		for height := 1; height <= 8; height++ {
			r, count := impl.Rectangle(width, height), rectangleCounts()[height-1][width-1]
			if count <= 300 {
				if got := checkHeightsOfAll(t, r); got != count {
					t.Errorf("%d of %d tilings of %v have heights", got, count, r.Rows)
				}
				continue
			}
			tiling, _ := impl.FirstTiling(r)
			for seed := range uint32(4) {
				_, tiling = randomFlips(t, r, tiling, 40, seed)
				checkSides(t, impl.RegionText(r), tiling, checkHeights(t, r, tiling))
				for _, c := range validCells() {
					checkFlipOfHeights(t, r, tiling, c)
				}
			}
		}
	}
}

func TestHeightsOfTheFullBoard(t *testing.T) {
	rows, columns := rowsAndColumns(8, 8)
	border := "0 -1 0 -1 0 -1 0 -1 0"
	wantRows := append(slices.Repeat([]string{border, "1 2 1 2 1 2 1 2 1"}, 4), border)
	wantColumns := append(slices.Repeat([]string{border, "1 -2 1 -2 1 -2 1 -2 1"}, 4), border)
	r := impl.Rectangle(8, 8)
	if got := impl.HeightsOf(r, rows); !slices.Equal(got, heightsShown(wantRows)) {
		t.Errorf("HeightsOf the full board in rows is %v", got)
	}
	if got := impl.HeightsOf(r, columns); !slices.Equal(got, heightsShown(wantColumns)) {
		t.Errorf("HeightsOf the full board in columns is %v", got)
	}
	for _, tiling := range [][]impl.Domino{rows, columns} {
		checkHeights(t, r, tiling)
		checkChangedHeights(t, r, tiling)
	}
}

func TestHeightsOfAllWindows(t *testing.T) {
	high, rest := 0, 0
	for pattern := range 1 << 12 {
		for _, r := range []impl.Region{windowRegion(0, 0, pattern, false), windowRegion(4, 5, pattern, false), windowRegion(3, 2, pattern, false)} {
			if checkHeightsOfAll(t, r) > 0 {
				high++
			} else if impl.IsTileable(r) {
				rest++
			}
		}
	}
	if high < 300 || rest < 300 {
		t.Errorf("only %d regions have heights, and %d ones have none but tilings", high, rest)
	}
}

// grownRegions returns n regions that grow by dominoes as long as they stay simple.
func grownRegions(n int) []impl.Region {
	var regions []impl.Region
	for seed := range uint32(n) {
		r := regionOf([]string{"", "", "", "...##"})
		for _, d := range mixedDominoes(linesOf(fullLine, 8), seed) {
			under := shownUnder(d)
			if impl.HasCell(r, under[0]) || impl.HasCell(r, under[1]) {
				continue
			}
			more, _ := impl.WithCell(r, under[0], true)
			more, _ = impl.WithCell(more, under[1], true)
			if shownSimple(impl.RegionText(more)) {
				r = more
			}
		}
		regions = append(regions, r)
	}
	return regions
}

func TestHeightsOfGrownRegions(t *testing.T) {
	steep, great := 0, 0
	for _, r := range grownRegions(150) {
		tiling, ok := impl.FirstTiling(r)
		if !ok {
			t.Fatalf("%v has no tiling", r.Rows)
		}
		if impl.CountTilings(r) <= 60 {
			checkHeightsOfAll(t, r)
		}
		heights := checkHeights(t, r, tiling)
		checkSides(t, impl.RegionText(r), tiling, heights)
		for _, c := range impl.FlipsOf(tiling) {
			checkFlipOfHeights(t, r, tiling, c)
		}
		if slices.Max(heights) > 5 {
			steep++
		}
		if len(tiling) > 20 {
			great++
		}
	}
	if steep < 40 || great < 40 {
		t.Errorf("only %d regions have a height of more than 5, and %d ones more than 20 dominoes", steep, great)
	}
}

func TestHeightsOfMixedRegions(t *testing.T) {
	regions := tiledRegions(80)
	for _, share := range []uint32{9, 12, 13, 14, 15} {
		regions = append(regions, mixedRegions(120, share)...)
	}
	for _, r := range regions {
		if impl.CountTilings(r) <= 60 {
			checkHeightsOfAll(t, r)
		}
	}
}

func TestHeightsOfMovedRegions(t *testing.T) {
	for _, c := range heightsByHand()[8:] {
		base := regionOf(c.lines)
		for _, tiling := range wantedList(c.lines) {
			heights := impl.HeightsOf(base, tiling)
			for right := range 4 {
				if slices.Max(base.Rows)<<right > 255 {
					continue
				}
				moved := impl.Region{Rows: slices.Clone(base.Rows)}
				var list []impl.Domino
				for y := range moved.Rows {
					moved.Rows[y] <<= right
				}
				for _, d := range tiling {
					list = append(list, impl.Domino{X: d.X + right, Y: d.Y, Down: d.Down})
				}
				got, want := impl.HeightsOf(moved, list), slices.Repeat([]int{-1000}, 81)
				for i, height := range heights {
					// One side to the right, black and white are exchanged, and so are peaks and pits.
					if height != -1000 && right%2 == 1 {
						height = -height
					}
					if height != -1000 {
						want[i+right] = height
					}
				}
				if !slices.Equal(got, want) {
					t.Errorf("HeightsOf %v and %v is %v, want %v", moved.Rows, list, got, want)
				}
			}
		}
	}
}

func TestHeightsOfListsThatAreNoTilings(t *testing.T) {
	floors := [][]string{{"##"}, {"#", "#"}, linesOf("##", 2), linesOf("##", 3), linesOf("###", 2), linesOf("####", 4), {".##.", "####", "####", ".##."}, {"##", ".##", "..##"}, append(linesOf("", 6), "......##", "......##")}
	for _, lines := range floors {
		r, tilings := regionOf(lines), wantedList(lines)
		for _, tiling := range tilings {
			// One domino is the same list backwards.
			checkNoHeights(t, r, slices.DeleteFunc(noTilingsOf(lines, tiling), func(list []impl.Domino) bool { return slices.Equal(list, tiling) }))
		}
		checkNoHeights(t, r, append(listsToKeep()[3:], nil))
		for _, d := range allDominoes() {
			for i := range tilings[0] {
				list := slices.Replace(slices.Clone(tilings[0]), i, i+1, d)
				isTiling := slices.ContainsFunc(tilings, func(tiling []impl.Domino) bool { return slices.Equal(tiling, list) })
				if got := impl.HeightsOf(r, list); (len(got) == 81) != isTiling {
					t.Errorf("HeightsOf %q and %v is %v", lines, list, got)
				}
			}
		}
	}
}

func TestHeightsOfAllListsOfSmallFloors(t *testing.T) {
	for _, lines := range smallFloors() {
		r, simple := regionOf(lines), shownSimple(lines)
		tilings := wantedList(lines)
		for _, list := range sublists(dominoesOn(lines)) {
			isTiling := slices.ContainsFunc(tilings, func(tiling []impl.Domino) bool { return slices.Equal(tiling, list) })
			if isTiling && simple {
				checkHeights(t, r, list)
			} else if got := impl.HeightsOf(r, list); len(got) != 0 {
				t.Errorf("HeightsOf %q and %v is %v, want nil", lines, list, got)
			}
		}
	}
}

func TestHeightsOfTilingsInAnotherOrder(t *testing.T) {
	for _, lines := range [][]string{linesOf("##", 2), linesOf("###", 2), linesOf("####", 2), {"##", ".##", "..##"}} {
		r := regionOf(lines)
		for _, tiling := range wantedList(lines) {
			for _, order := range permutations(tiling) {
				if slices.Equal(order, tiling) {
					checkHeights(t, r, order)
				} else {
					checkNoHeights(t, r, [][]impl.Domino{order})
				}
			}
		}
	}
}

// simpleFloors returns simple floors with tilings, no two of which have the same cells.
func simpleFloors() [][]string {
	return [][]string{
		{"##"},
		{"#", "#"},
		{".##"},
		{"", "##"},
		linesOf("##", 2),
		linesOf(".##", 2),
		{"", "##", "##"},
		{"", ".##", ".##"},
		append(linesOf("", 6), "......##", "......##"),
		linesOf("##", 3),
		linesOf("###", 2),
		linesOf("####", 2),
		{".##.", "####", "####", ".##."},
		{"##", ".##", "..##"},
		{"..##", ".##", "##"},
		{"#", "###", ".##"},
	}
}

func TestHeightsOfTilingsOfAnotherRegion(t *testing.T) {
	for i, lines := range simpleFloors() {
		for j, other := range simpleFloors() {
			if i == j {
				continue
			}
			r := regionOf(lines)
			for _, tiling := range wantedList(other) {
				checkNoHeights(t, r, [][]impl.Domino{tiling})
				checkNoTilingFrom(t, r, [][]int{impl.HeightsOf(regionOf(other), tiling)})
			}
		}
	}
}

// namedFloor is a floor, and what it is.
type namedFloor struct {
	name  string
	lines []string
}

// floorsThatAreNotSimple returns floors in pieces, with holes, or that touch themselves.
func floorsThatAreNotSimple() []namedFloor {
	return []namedFloor{
		{"two dominoes apart", []string{"##.##"}},
		{"two dominoes that touch in a corner", []string{"##", "..##"}},
		{"two dominoes that touch in the other corner", []string{"..##", "##"}},
		{"two dominoes down that touch in a corner", []string{"#", "#", ".#", ".#"}},
		{"two squares that touch in a corner", []string{"##", "##", "..##", "..##"}},
		{"two squares at both ends of the board", append(append([]string{"##", "##"}, linesOf("", 4)...), "......##", "......##")},
		{"the end of a row and the start of the next one", []string{"......##", "##"}},
		{"a ring", []string{"###", "#.#", "###"}},
		{"a hole around which dominoes cannot run", []string{"####", "##.##", "####"}},
		{"a gap that touches the outside in a corner", []string{"###", "#.##", "##"}},
		{"a gap in a corner", []string{"####", "##.##", ".##"}},
		{"a gap in a corner, more tilings", []string{"#####", "#####", "##.##", ".##"}},
		{"a gap in a corner of the board", append(linesOf("", 4), "...#####", "...#####", "...##.##", "....##.#")},
	}
}

func TestHeightsOfRegionsThatAreNotSimple(t *testing.T) {
	touching := 0
	for _, c := range floorsThatAreNotSimple() {
		for _, r := range allTurns(regionOf(c.lines)) {
			lines := impl.RegionText(r)
			tilings := wantedList(lines)
			checkNoHeights(t, r, append(tilings, nil))
			for _, tiling := range tilings {
				// Where the region only touches itself, there are such heights, but the document asks for simple regions.
				checkNoTilingFrom(t, r, [][]int{wantedHeights(tiling)})
				if impl.CountPieces(r) == 1 && impl.CountHoles(r) == 0 {
					touching++
				}
			}
		}
	}
	if touching < 10 {
		t.Errorf("only %d tilings are of regions that touch themselves", touching)
	}
}

// someHeights returns heights of tilings, and lists of as many numbers.
func someHeights() [][]int {
	rows, columns := rowsAndColumns(8, 8)
	lists := [][]int{make([]int, 81), slices.Repeat([]int{-1000}, 81), slices.Repeat([]int{3}, 81), wantedHeights(rows), wantedHeights(columns)}
	for _, lines := range simpleFloors() {
		lists = append(lists, wantedHeights(wantedList(lines)[0]))
	}
	return lists
}

func TestHeightsOfRegionsWithoutCells(t *testing.T) {
	for _, r := range emptyRegions() {
		checkNoHeights(t, r, append(listsToKeep(), nil, []impl.Domino{}))
		checkNoTilingFrom(t, r, append(someHeights(), nil, []int{}, []int{-1000}))
	}
}

func TestHeightsRejectInvalidRegions(t *testing.T) {
	lists := append(listsToKeep(), nil, []impl.Domino{down(0, 0), down(1, 0)})
	rows, columns := rowsAndColumns(8, 8)
	for _, r := range invalidRegions() {
		checkNoHeights(t, r, append(lists, rows, columns))
		checkNoTilingFrom(t, r, append(someHeights(), nil, []int{}))
	}
	// A ninth row makes a region invalid, even if it has no cells.
	for _, lines := range simpleFloors() {
		long := impl.Region{Rows: append(regionOf(lines).Rows, make([]int, 9-len(lines))...)}
		for _, tiling := range wantedList(lines) {
			checkNoHeights(t, long, [][]impl.Domino{tiling})
			checkNoTilingFrom(t, long, [][]int{wantedHeights(tiling)})
		}
	}
}

func TestHeightsWithMissingRows(t *testing.T) {
	for _, lines := range simpleFloors() {
		rows := regionOf(lines).Rows
		for n := range 9 - len(rows) {
			r := impl.Region{Rows: append(slices.Clone(rows), make([]int, n)...)}
			for _, tiling := range wantedList(lines) {
				checkHeights(t, r, tiling)
			}
		}
	}
}

// changedHeights returns lists made of heights, shifted, cut, or changed at one corner.
func changedHeights(heights []int) [][]int {
	lists := [][]int{nil, {}, heights[:80], heights[1:], heights[:64], append(slices.Clone(heights), -1000), append(slices.Clone(heights), 0), append([]int{-1000}, heights...), slices.Concat(heights, heights)}
	for _, n := range []int{1, -1, 2, 3, -3, 4, -4, 8, 1000, -1000, 1 << 32, math.MaxInt, math.MinInt} {
		shifted, all := slices.Clone(heights), slices.Clone(heights)
		for i := range heights {
			all[i] += n
			if heights[i] != -1000 {
				shifted[i] += n
			}
		}
		lists = append(lists, shifted, all)
	}
	for i, height := range heights {
		for _, n := range []int{height + 1, height - 1, height + 2, height - 2, height + 3, height + 4, height - 4, height + 6, height - 6, height + 8, -height, 0, -1000, 1000, math.MinInt, math.MaxInt} {
			if n != height {
				lists = append(lists, slices.Replace(slices.Clone(heights), i, i+1, n))
			}
		}
	}
	return lists
}

// checkChangedHeights checks that of the heights of a tiling, changed at one corner or shifted, only those to which a flip leads are heights of a tiling.
func checkChangedHeights(t *testing.T, r impl.Region, tiling []impl.Domino) {
	t.Helper()
	var near [][]impl.Domino
	var heights [][]int
	for _, c := range validCells() {
		if flipped, ok := wantedFlip(tiling, c); ok {
			near, heights = append(near, flipped), append(heights, wantedHeights(flipped))
		}
	}
	found := make([]bool, len(near))
	for _, changed := range changedHeights(wantedHeights(tiling)) {
		i := slices.IndexFunc(heights, func(other []int) bool { return slices.Equal(other, changed) })
		if i < 0 {
			checkNoTilingFrom(t, r, [][]int{changed})
			continue
		}
		found[i] = true
		if list, ok := impl.TilingFrom(r, changed); !ok || !slices.Equal(list, near[i]) {
			t.Errorf("TilingFrom %v and %v is %v and %v, want %v", r.Rows, changed, list, ok, near[i])
		}
	}
	if slices.Contains(found, false) {
		t.Errorf("not every flip of %v in %v is among the changed heights", tiling, r.Rows)
	}
}

func TestTilingFromChangedHeights(t *testing.T) {
	for _, lines := range simpleFloors() {
		tilings := wantedList(lines)
		for i := 0; i < len(tilings); i += 3 {
			checkChangedHeights(t, regionOf(lines), tilings[i])
		}
	}
}

func TestTilingFromAllHeightsOfOneDomino(t *testing.T) {
	r, found := impl.Rectangle(2, 1), 0
	for i := range 1 << 12 {
		heights := slices.Repeat([]int{impl.NoHeight}, 81)
		for k, corner := range []int{0, 1, 2, 9, 10, 11} {
			heights[corner] = i>>(2*k)&3 - 1
		}
		if list, ok := impl.TilingFrom(r, heights); ok {
			found++
			if impl.TilingText(list) != "0,0r" || !slices.Equal(heights, heightsShown([]string{"0 -1 0", "1 2 1"})) {
				t.Errorf("TilingFrom a domino and %v is %v", heights, list)
			}
		} else if len(list) != 0 {
			t.Errorf("TilingFrom a domino and %v is %v and false", heights, list)
		}
	}
	if found != 1 {
		t.Errorf("%d heights are those of a domino, want 1", found)
	}
}

func TestTilingFromHeightsOfRegionsWithoutTilings(t *testing.T) {
	for _, c := range untileableFloors() {
		for _, r := range allTurns(regionOf(c.lines)) {
			checkNoTilingFrom(t, r, someHeights())
			checkNoHeights(t, r, append(listsToKeep(), dominoesOn(impl.RegionText(r)), impl.MatchRegion(r)))
		}
	}
}

func TestHeightSum(t *testing.T) {
	cases := []struct {
		name    string
		heights []int
		want    int
	}{
		{"no list", nil, 0},
		{"an empty list", []int{}, 0},
		{"one height", []int{5}, 5},
		{"a negative height", []int{-5}, -5},
		{"a zero", []int{0}, 0},
		{"NoHeight", []int{-1000}, 0},
		{"only NoHeight", slices.Repeat([]int{-1000}, 81), 0},
		{"NoHeight between heights", []int{3, -1000, -1}, 2},
		{"NoHeight first", []int{-1000, 7, 7}, 14},
		{"NoHeight last", []int{7, -8, -1000}, -1},
		{"beside NoHeight", []int{-999, -1001}, -2000},
		{"the opposite of NoHeight", []int{1000}, 1000},
		{"the opposite of NoHeight and NoHeight", []int{1000, -1000}, 1000},
		{"a sum of NoHeight", []int{-500, -500}, -1000},
		{"a sum of NoHeight on the way", []int{-500, -500, 1}, -999},
		{"more than 81 heights", slices.Repeat([]int{2, -1000, -3}, 100), -100},
		{"great numbers", []int{math.MaxInt, -1000, math.MinInt}, -1},
		{"great numbers that wrap around", []int{math.MaxInt, 1}, math.MinInt},
		{"a square", heightsShown([]string{"0 -1 0", "1 2 1", "0 -1 0"}), 2},
		{"a square, down", heightsShown([]string{"0 -1 0", "1 -2 1", "0 -1 0"}), -2},
	}
	for _, c := range cases {
		if got := impl.HeightSum(c.heights); got != c.want {
			t.Errorf("%s: HeightSum of %v is %d, want %d", c.name, c.heights, got, c.want)
		}
	}
}

// numbersWithSpare returns a list with memory behind it, and all of the memory.
func numbersWithSpare(list []int) ([]int, []int) {
	memory := append(slices.Clone(list), slices.Repeat([]int{-77}, 12)...)
	return memory[:len(list)], memory
}

func TestHeightFunctionsLeaveArguments(t *testing.T) {
	regions := append(invalidRegions(), emptyRegions()...)
	for _, lines := range append(simpleFloors(), []string{"###", "#.#", "###"}, []string{"##.##"}, linesOf("###", 3)) {
		regions = append(regions, regionOf(lines))
	}
	for _, from := range regions {
		r, rowMemory := withSpare(from.Rows)
		rowsBefore := slices.Clone(rowMemory)
		for _, one := range append(listsToKeep(), impl.ListTilings(from)...) {
			list, memory := listWithSpare(one)
			before := slices.Clone(memory)
			overwriteNumbers(impl.HeightsOf(r, list))
			if !slices.Equal(memory, before) {
				t.Errorf("the list %v became %v", before, memory)
			}
			for _, some := range [][]int{{}, {3, -1000, -1}, make([]int, 81), wantedHeights(impl.SortDominoes(one))} {
				heights, numbers := numbersWithSpare(some)
				numbersBefore := slices.Clone(numbers)
				tiling, _ := impl.TilingFrom(r, heights)
				overwriteDominoes(tiling[:cap(tiling)])
				impl.HeightSum(heights)
				if !slices.Equal(numbers, numbersBefore) {
					t.Errorf("the heights %v became %v", numbersBefore, numbers)
				}
			}
		}
		if !slices.Equal(rowMemory, rowsBefore) {
			t.Errorf("the rows %v became %v", rowsBefore, rowMemory)
		}
	}
}

func TestHeightFunctionsReturnNewMemory(t *testing.T) {
	for _, lines := range simpleFloors() {
		for _, tiling := range wantedList(lines) {
			r, _ := withSpare(regionOf(lines).Rows)
			list, memory := listWithSpare(tiling)
			first, again := impl.HeightsOf(r, list), impl.HeightsOf(r, list)
			want := wantedHeights(tiling)
			heights, numbers := numbersWithSpare(want)
			overwriteNumbers(first)
			one, _ := impl.TilingFrom(r, heights)
			other, _ := impl.TilingFrom(r, heights)
			overwriteDominoes(one[:cap(one)])
			overwrite(r)
			overwriteDominoes(memory)
			overwriteNumbers(numbers)
			if !slices.Equal(again, want) || !slices.Equal(other, tiling) {
				t.Errorf("a changed argument or other result of %q changes %v and %v", lines, again, other)
			}
			checkHeights(t, regionOf(lines), tiling)
		}
	}
}

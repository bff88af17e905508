package tests

import (
	"math"
	"math/bits"
	"slices"
	"strings"
	"testing"

	"loop.example/g03300/impl"
)

// bitsOf returns the cells that the lines show as bits, that of x, y being 8*y + x.
func bitsOf(lines []string) uint64 {
	var cells uint64
	for _, c := range cellsShown(lines) {
		cells |= 1 << (8*c.Y + c.X)
	}
	return cells
}

// bitsUnder returns the cells that a domino on the board covers as bits.
func bitsUnder(d impl.Domino) uint64 {
	under := shownUnder(d)
	return 1<<(8*under[0].Y+under[0].X) | 1<<(8*under[1].Y+under[1].X)
}

// waysToLay returns in how many ways n dominoes lie on the cells, by trying out what lies on the first one.
func waysToLay(n int, cells uint64) int {
	if n == 0 {
		return 1
	}
	if n < 0 || n > bits.OnesCount64(cells)/2 {
		return 0
	}
	first := bits.TrailingZeros64(cells)
	rest := cells &^ (1 << first)
	ways := waysToLay(n, rest)
	if right := first + 1; right%8 != 0 && rest&(1<<right) != 0 {
		ways += waysToLay(n-1, rest&^(1<<right))
	}
	if below := first + 8; below < 64 && rest&(1<<below) != 0 {
		ways += waysToLay(n-1, rest&^(1<<below))
	}
	return ways
}

// waysToTile returns in how many ways dominoes cover all of the cells.
func waysToTile(cells uint64) int {
	count := bits.OnesCount64(cells)
	if count%2 != 0 {
		return 0
	}
	return waysToLay(count/2, cells)
}

// checkTilings compares CountTilings and IsTileable with the number of tilings that is wanted.
func checkTilings(t *testing.T, r impl.Region, want int) {
	t.Helper()
	if got := impl.CountTilings(r); got != want {
		t.Errorf("CountTilings of %v is %d, want %d", r.Rows, got, want)
	}
	if got := impl.IsTileable(r); got != (want > 0) {
		t.Errorf("IsTileable of %v is %v, but it has %d tilings", r.Rows, got, want)
	}
}

// countCase is a floor and the number of its tilings.
type countCase struct {
	name  string
	lines []string
	want  int
}

// untileableFloors returns floors that are not balanced, and balanced ones that have no tiling.
func untileableFloors() []countCase {
	return []countCase{
		{"one cell", []string{"#"}, 0},
		{"the last cell", append(linesOf(emptyLine, 7), ".......#"), 0},
		{"three cells", []string{"###"}, 0},
		{"balanced, two cells apart", []string{"#..#"}, 0},
		{"two cells of one color", []string{"#.#"}, 0},
		{"two cells that touch in a corner", []string{"#", ".#"}, 0},
		{"the end of a row and the start of the next one", []string{".......#", "#......."}, 0},
		{"balanced, the ends of a row", []string{"#......#"}, 0},
		{"balanced, the ends of a column", []string{"#", "", "", "", "", "", "", "#"}, 0},
		{"balanced, in the first row and the last one", []string{"...#", "", "", "", "", "", "", "...#"}, 0},
		{"an odd column at the right side", linesOf(".......#", 7), 0},
		{"an odd last row", append(linesOf(emptyLine, 7), ".#######"), 0},
		{"a square of nine cells", linesOf("###", 3), 0},
		{"three cells around one", []string{"###", ".#"}, 0},
		{"the board without two corners", append(append([]string{".#######"}, linesOf(fullLine, 6)...), "#######."), 0},
		{"the board without the other two corners", append(append([]string{"#######."}, linesOf(fullLine, 6)...), ".#######"), 0},
		{"all black cells", board(), 0},
		{"balanced, with two ends at each of two cells", []string{".#..#", "######"}, 0},
		{"balanced, with a corner cut off", append([]string{"#.######", ".#######", "##.#.###"}, linesOf(fullLine, 5)...), 0},
		{"balanced, of two odd pieces", []string{"###..###"}, 0},
		{"balanced, of two pieces of which one cannot be tiled", []string{".#..#", "######", "", "##"}, 0},
		{"balanced, with a cell in the hole", []string{"#####", "#...#", "#.#.#", "#...#", "####"}, 0},
	}
}

// tileableFloors returns floors that have tilings: in the last column and row, in pieces, and with holes.
func tileableFloors() []countCase {
	return []countCase{
		{"two cells across", []string{"##"}, 1},
		{"two cells down", []string{"#", "#"}, 1},
		{"the last two cells of a row", []string{"......##"}, 1},
		{"two cells of the last column", []string{".......#", ".......#"}, 1},
		{"the last two cells of the last column", append(linesOf(emptyLine, 6), ".......#", ".......#"), 1},
		{"the last two cells of the last row", append(linesOf(emptyLine, 7), "......##"), 1},
		{"the last column", linesOf(".......#", 8), 1},
		{"the first column", linesOf("#", 8), 1},
		{"the last row", append(linesOf(emptyLine, 7), fullLine), 1},
		{"the last two columns", linesOf("......##", 8), 34},
		{"the last two rows", append(linesOf(emptyLine, 6), fullLine, fullLine), 34},
		{"both side columns", linesOf("#......#", 8), 1},
		{"the last column and the first one, a row lower", []string{".......#", "#......#", "#"}, 1},
		{"the last two columns and the first two, a row lower", []string{"......##", "##....##", "##"}, 4},
		{"the last square", append(linesOf(emptyLine, 6), "......##", "......##"), 2},
		{"a snake", []string{fullLine, ".......#", fullLine, "#", fullLine}, 1},
		{"a longer snake", []string{fullLine, ".......#", fullLine, "#", fullLine, ".......#", ".......#"}, 1},
		{"two squares that touch in a corner", []string{"##", "##", "..##", "..##"}, 4},
		{"pieces in all corners", []string{"##....##", "##....##", "", "", "", "", "##....##", "##....##"}, 16},
		{"rows apart", []string{"####", "", "####", "", "####"}, 1},
		{"a ring", []string{"###", "#.#", "###"}, 2},
		{"a ring in the last corner", []string{"", "", "", "", "", ".....###", ".....#.#", ".....###"}, 2},
		{"the greatest ring", append(append([]string{fullLine}, linesOf("#......#", 6)...), fullLine), 2},
		{"a ring of two cells", append(append([]string{fullLine, fullLine}, linesOf("##....##", 4)...), fullLine, fullLine), 66564},
		{"the board with a hole", append(append(linesOf(fullLine, 3), "###..###", "###..###"), linesOf(fullLine, 3)...), 1113032},
		{"two rings", []string{"###.###", "#.#.#.#", "###.###"}, 4},
		{"two holes", []string{"######", "#.##.#", "######"}, 6},
		{"a ring in a hole", []string{"#######", "#.....#", "#.###.#", "#.#.#.#", "#.###.#", "#.....#", "#######"}, 4},
		{"a domino in a hole", []string{"######", "#....#", "#.##.#", "#....#", "######"}, 2},
		{"a diamond of order 1", []string{"##", "##"}, 2},
		{"a diamond of order 2", []string{".##.", "####", "####", ".##."}, 8},
		{"a diamond of order 3", []string{"..##..", ".####.", "######", "######", ".####.", "..##.."}, 64},
		{"a diamond of order 4", []string{"...##...", "..####..", ".######.", fullLine, fullLine, ".######.", "..####..", "...##..."}, 1024},
		{"the board without the corners of the first row", append([]string{".######."}, linesOf(fullLine, 7)...), 2436304},
	}
}

func TestCountTilings(t *testing.T) {
	for _, c := range slices.Concat(untileableFloors(), tileableFloors()) {
		r := regionOf(c.lines)
		if got := impl.CountTilings(r); got != c.want {
			t.Errorf("%s: CountTilings of %q is %d, want %d", c.name, c.lines, got, c.want)
		}
		checkTilings(t, r, c.want)
		if balanced := c.want > 0 || strings.HasPrefix(c.name, "balanced"); impl.IsBalanced(r) != balanced {
			t.Errorf("%s: IsBalanced of %q is not %v", c.name, c.lines, balanced)
		}
		if got := waysToTile(bitsOf(c.lines)); got != c.want {
			t.Errorf("%s: there are %d ways to tile %q, want %d", c.name, got, c.lines, c.want)
		}
	}
}

// rectangleCounts returns the numbers of tilings of all rectangles, by height and width from 1 on.
func rectangleCounts() [8][8]int {
	return [8][8]int{
		{0, 1, 0, 1, 0, 1, 0, 1},
		{1, 2, 3, 5, 8, 13, 21, 34},
		{0, 3, 0, 11, 0, 41, 0, 153},
		{1, 5, 11, 36, 95, 281, 781, 2245},
		{0, 8, 0, 95, 0, 1183, 0, 14824},
		{1, 13, 41, 281, 1183, 6728, 31529, 167089},
		{0, 21, 0, 781, 0, 31529, 0, 1292697},
		{1, 34, 153, 2245, 14824, 167089, 1292697, 12988816},
	}
}

func TestRectangleCount(t *testing.T) {
	for y, row := range rectangleCounts() {
		for x, want := range row {
			width, height := x+1, y+1
			if got := impl.RectangleCount(width, height); got != want {
				t.Errorf("RectangleCount(%d, %d) is %d, want %d", width, height, got, want)
			}
			lines := linesOf(fullLine[:width], height)
			checkTilings(t, regionOf(lines), want)
			low := append(linesOf(emptyLine, 8-height), linesOf(emptyLine[width:]+fullLine[:width], height)...)
			checkTilings(t, regionOf(low), want)
			if want < 200000 && waysToTile(bitsOf(lines)) != want {
				t.Errorf("there are %d ways to tile %q, want %d", waysToTile(bitsOf(lines)), lines, want)
			}
		}
	}
}

func TestRectangleCountRejects(t *testing.T) {
	for _, n := range []int{0, 9, 10, 16, 64, -1, -2, -8, 1 << 32, math.MaxInt, math.MinInt} {
		for _, m := range []int{1, 2, 3, 7, 8, 9, 0, -1, n} {
			if got := impl.RectangleCount(n, m); got != 0 {
				t.Errorf("RectangleCount(%d, %d) is %d, want 0", n, m, got)
			}
			if got := impl.RectangleCount(m, n); got != 0 {
				t.Errorf("RectangleCount(%d, %d) is %d, want 0", m, n, got)
			}
		}
	}
}

func TestCountsOfTheEmptyRegion(t *testing.T) {
	for _, r := range emptyRegions() {
		checkTilings(t, r, 1)
		for _, n := range []int{math.MinInt, -2, -1, 0, 1, 2, 8, math.MaxInt} {
			want := 0
			if n == 0 {
				want = 1
			}
			if got := impl.CountPartials(r, n); got != want {
				t.Errorf("CountPartials of %v and %d is %d, want %d", r.Rows, n, got, want)
			}
		}
		for _, d := range append(allDominoes(), invalidDominoes()...) {
			if got := impl.CountWith(r, d); got != 0 {
				t.Errorf("CountWith of %v and %v is %d, want 0", r.Rows, d, got)
			}
		}
	}
}

// smallFloors returns floors with few dominoes, so that all lists of them can be gone through.
func smallFloors() [][]string {
	return [][]string{
		{"#"},
		{"##"},
		{"###"},
		{"#.#"},
		{".......#", "#......."},
		{".......#", "#......#", "#"},
		{".......#", ".......#", "......##"},
		{"", "", "", "", "", "", "......##", "......##"},
		{"", "", "", "", "", "", "", "########"},
		{"########"},
		{"#", "#", "#", "#", "#", "#", "#", "#"},
		{"##", "##"},
		{"###", "###"},
		{"####", "####"},
		{"###", "###", "###"},
		{"###", "#.#", "###"},
		{"##", ".##", "..##"},
		{"##..##", "##..##"},
		{".#..#.", "######"},
		{"#####", "#...#", "#.#.#", "#...#", "#####"},
	}
}

func TestCountsOfAllListsOfSmallFloors(t *testing.T) {
	for _, lines := range smallFloors() {
		r, all := regionOf(lines), dominoesOn(lines)
		tilings, with, partials := 0, map[impl.Domino]int{}, map[int]int{}
		for _, list := range sublists(all) {
			if impl.IsPartial(r, list) {
				partials[len(list)]++
			}
			if impl.IsTiling(r, list) {
				tilings++
				for _, d := range list {
					with[d]++
				}
			}
		}
		checkTilings(t, r, tilings)
		for _, d := range allDominoes() {
			if got := impl.CountWith(r, d); got != with[d] {
				t.Errorf("CountWith of %q and %v is %d, want %d", lines, d, got, with[d])
			}
		}
		if impl.CountCells(r) > 16 {
			clear(partials)
		}
		for n := -2; n <= len(all)+2; n++ {
			if got := impl.CountPartials(r, n); got != partials[n] {
				t.Errorf("CountPartials of %q and %d is %d, want %d", lines, n, got, partials[n])
			}
		}
	}
}

// checkEachCell compares the tilings that contain the dominoes over each cell with all tilings.
func checkEachCell(t *testing.T, r impl.Region) {
	t.Helper()
	total, lines := impl.CountTilings(r), impl.RegionText(r)
	covered := map[impl.Cell]int{}
	for _, d := range allDominoes() {
		count := impl.CountWith(r, d)
		if count < 0 || count > total {
			t.Errorf("%v has %d tilings, but %d ones with %v", r.Rows, total, count, d)
		}
		under := shownUnder(d)
		covered[under[0]] += count
		covered[under[1]] += count
	}
	for _, c := range validCells() {
		want := 0
		if shows(lines, c) {
			want = total
		}
		if covered[c] != want {
			t.Errorf("%v has %d tilings, but dominoes cover %v in %d ones, want %d", r.Rows, total, c, covered[c], want)
		}
	}
}

func TestEachCellIsCoveredByOneDominoOfEachTiling(t *testing.T) {
	for _, c := range slices.Concat(untileableFloors(), tileableFloors()) {
		checkEachCell(t, regionOf(c.lines))
	}
	for _, c := range allFloorCases() {
		checkEachCell(t, regionOf(c.lines))
	}
	for width := 1; width <= 8; width++ {
		for height := 1; height <= 8; height++ {
			checkEachCell(t, impl.Rectangle(width, height))
		}
	}
	for _, share := range []uint32{8, 12, 14, 15} {
		for _, r := range mixedRegions(60, share) {
			checkEachCell(t, r)
		}
	}
}

func TestCountTilingsOfAllWindows(t *testing.T) {
	for pattern := range 1 << 12 {
		first, last := windowRegion(0, 0, pattern, false), windowRegion(4, 5, pattern, false)
		want := waysToTile(bitsOf(impl.RegionText(first)))
		checkTilings(t, first, want)
		checkTilings(t, last, want)
		checkTilings(t, windowRegion(2, 3, pattern, false), want)
	}
}

// mirrored returns a region with left and right exchanged.
func mirrored(r impl.Region) impl.Region {
	lines := impl.RegionText(r)
	for y, line := range lines {
		letters := []byte(line)
		slices.Reverse(letters)
		lines[y] = string(letters)
	}
	return regionOf(lines)
}

// upsideDown returns a region with the first row of the board and the last one exchanged, and so on.
func upsideDown(r impl.Region) impl.Region {
	rows := append(slices.Clone(r.Rows), make([]int, 8-len(r.Rows))...)
	slices.Reverse(rows)
	return impl.Region{Rows: rows}
}

// turned returns a region with rows and columns exchanged.
func turned(r impl.Region) impl.Region {
	lines := impl.RegionText(r)
	columns := make([]string, 8)
	for x := range columns {
		var column strings.Builder
		for _, line := range lines {
			column.WriteByte(line[x])
		}
		columns[x] = column.String()
	}
	return regionOf(columns)
}

func TestCountTilingsOfMixedRegions(t *testing.T) {
	tileable := 0
	for _, share := range []uint32{6, 9, 11, 13, 14, 15} {
		for _, r := range mixedRegions(160, share) {
			want := waysToTile(bitsOf(impl.RegionText(r)))
			if want > 0 {
				tileable++
			}
			checkTilings(t, r, want)
			checkTilings(t, mirrored(r), want)
			checkTilings(t, upsideDown(r), want)
			checkTilings(t, turned(r), want)
		}
	}
	if tileable < 20 {
		t.Errorf("only %d of the regions have tilings", tileable)
	}
}

// tiledRegions returns n regions of dominoes that do not overlap, always the same ones.
func tiledRegions(n int) []impl.Region {
	regions := make([]impl.Region, n)
	for i := range regions {
		var list []impl.Domino
		for _, d := range mixedDominoes(linesOf(fullLine, 8), uint32(i))[:20+i] {
			if longer := append(list, d); !hasOverlaps(longer) {
				list = longer
			}
		}
		rows := make([]int, 8)
		for _, d := range list {
			for _, c := range shownUnder(d) {
				rows[c.Y] |= 1 << c.X
			}
		}
		regions[i] = impl.Region{Rows: rows}
	}
	return regions
}

func TestCountsOfTiledRegions(t *testing.T) {
	for _, r := range tiledRegions(80) {
		cells := bitsOf(impl.RegionText(r))
		want := waysToTile(cells)
		if want == 0 {
			t.Fatalf("%v has no tiling", r.Rows)
		}
		checkTilings(t, r, want)
		checkEachCell(t, r)
		for _, d := range dominoesOn(impl.RegionText(r)) {
			if got, want := impl.CountWith(r, d), waysToTile(cells&^bitsUnder(d)); got != want {
				t.Errorf("CountWith of %v and %v is %d, want %d", r.Rows, d, got, want)
			}
		}
	}
}

func TestCountWith(t *testing.T) {
	full, square := linesOf(fullLine, 8), []string{"##", "##"}
	ring := []string{"###", "#.#", "###"}
	cases := []struct {
		name  string
		lines []string
		d     impl.Domino
		want  int
	}{
		{"in one of two tilings", square, across(0, 0), 1},
		{"in the other one", square, down(1, 0), 1},
		{"in the only tiling", []string{"##"}, across(0, 0), 1},
		{"in the only tiling, down", []string{"#", "#"}, down(0, 0), 1},
		{"in two of three tilings", []string{"##", "##", "##"}, across(0, 0), 2},
		{"in one of three tilings", []string{"##", "##", "##"}, across(0, 1), 1},
		{"in no tiling", []string{"####"}, across(1, 0), 0},
		{"in no tiling, down", linesOf("#", 4), down(0, 1), 0},
		{"a region without tilings", []string{"###"}, across(0, 0), 0},
		{"balanced without tilings", []string{".#..#", "######"}, across(2, 1), 0},
		{"around a hole", ring, across(0, 0), 1},
		{"over a hole", ring, across(0, 1), 0},
		{"out of a hole", ring, down(1, 1), 0},
		{"the second cell outside", square, across(1, 0), 0},
		{"the second cell below", square, down(0, 1), 0},
		{"both cells outside", square, across(4, 4), 0},
		{"the first cell outside", []string{".###", "####"}, across(0, 0), 0},
		{"the first cell outside, and the rest can be tiled", []string{".##"}, across(0, 0), 0},
		{"the second cell outside, and the rest can be tiled", []string{"#.##"}, across(0, 0), 0},
		{"a cell in a row that is missing", []string{"###", "..."}, down(0, 0), 0},
		{"a piece of two", []string{"##.##", "##.##"}, across(3, 1), 2},
		{"a corner of the board", full, across(0, 0), 6494408},
		{"another corner of the board", full, down(7, 6), 6494408},
		{"the last row", full, across(6, 7), 6494408},
		{"the middle of the board", full, across(3, 3), 2688584},
		{"out of the last column", full, across(7, 3), 0},
		{"out of the last row", full, down(3, 7), 0},
		{"into the first column", full, across(-1, 3), 0},
		{"into the first row", full, down(3, -1), 0},
		{"out of the last column with a cell left", []string{".......#", ""}, across(7, 0), 0},
		{"out of the last column into the next row", []string{".......#", "#"}, across(7, 0), 0},
	}
	for _, c := range cases {
		if got := impl.CountWith(regionOf(c.lines), c.d); got != c.want {
			t.Errorf("%s: CountWith of %q and %v is %d, want %d", c.name, c.lines, c.d, got, c.want)
		}
	}
}

func TestCountWithRejectsInvalidDominoes(t *testing.T) {
	regions := append(emptyRegions(), regionOf(linesOf(fullLine, 8)), impl.Rectangle(2, 2), impl.Rectangle(1, 1))
	// Without its valid cell alone, each of these regions could be tiled.
	odd := [][]string{
		{"#"},
		{"###"},
		{".......#"},
		append(linesOf(emptyLine, 7), "#......."),
		append(linesOf(emptyLine, 7), ".......#"),
		linesOf(".......#", 7),
		linesOf("#######", 7),
	}
	for _, lines := range odd {
		regions = append(regions, regionOf(lines))
	}
	for _, r := range regions {
		for _, d := range invalidDominoes() {
			if got := impl.CountWith(r, d); got != 0 {
				t.Errorf("CountWith of %v and %v, which is not valid, is %d", r.Rows, d, got)
			}
		}
	}
}

func TestCountPartials(t *testing.T) {
	square := linesOf("####", 4)
	ofSquare := []int{1, 24, 224, 1044, 2593, 3388, 2150, 552, 36}
	cases := []struct {
		name  string
		lines []string
		want  []int
	}{
		{"one cell", []string{"#"}, []int{1}},
		{"two cells", []string{"##"}, []int{1, 1}},
		{"two cells down", []string{"#", "#"}, []int{1, 1}},
		{"two cells apart", []string{"#.#"}, []int{1}},
		{"three cells", []string{"###"}, []int{1, 2}},
		{"four cells in a row", []string{"####"}, []int{1, 3, 1}},
		{"a row", []string{fullLine}, []int{1, 7, 15, 10, 1}},
		{"a column", linesOf("#", 8), []int{1, 7, 15, 10, 1}},
		{"the last row", append(linesOf(emptyLine, 7), fullLine), []int{1, 7, 15, 10, 1}},
		{"the last column", linesOf(".......#", 8), []int{1, 7, 15, 10, 1}},
		{"the end of a row and the start of the next one", []string{".......#", "#......."}, []int{1}},
		{"the last column and the first one", []string{".......#", "#......#", "#"}, []int{1, 2, 1}},
		{"a square", []string{"##", "##"}, []int{1, 4, 2}},
		{"three rows", []string{"##", "##", "##"}, []int{1, 7, 11, 3}},
		{"a square of nine cells", linesOf("###", 3), []int{1, 12, 44, 56, 18}},
		{"a ring", []string{"###", "#.#", "###"}, []int{1, 8, 20, 16, 2}},
		{"two squares", []string{"##.##", "##.##"}, []int{1, 8, 20, 16, 4}},
		{"balanced without tilings", []string{".#..#", "######"}, []int{1, 7, 13, 4}},
		{"16 cells in a square", square, ofSquare},
		{"16 cells in the last square", append(linesOf(emptyLine, 4), linesOf("....####", 4)...), ofSquare},
		{"16 cells in two rows", linesOf(fullLine, 2), []int{1, 22, 191, 838, 1982, 2504, 1577, 424, 34}},
		{"16 cells in the last two columns", linesOf("......##", 8), []int{1, 22, 191, 838, 1982, 2504, 1577, 424, 34}},
		{"16 black cells", board()[:4], []int{1}},
		{"16 cells around a hole", []string{"#####", "#...#", "#...#", "#...#", "#####"}, []int{1, 16, 104, 352, 660, 672, 336, 64, 2}},
	}
	for _, c := range cases {
		r := regionOf(c.lines)
		for n := -3; n <= 20; n++ {
			want := 0
			if n >= 0 && n < len(c.want) {
				want = c.want[n]
			}
			if got := impl.CountPartials(r, n); got != want {
				t.Errorf("%s: CountPartials of %q and %d is %d, want %d", c.name, c.lines, n, got, want)
			}
			if got := waysToLay(n, bitsOf(c.lines)); got != want {
				t.Errorf("%s: there are %d ways to lay %d dominoes on %q, want %d", c.name, got, n, c.lines, want)
			}
		}
	}
}

// checkPartials compares CountPartials with trying out, for all numbers of dominoes and some for which there is no list.
func checkPartials(t *testing.T, r impl.Region) {
	t.Helper()
	cells := bitsOf(impl.RegionText(r))
	count := bits.OnesCount64(cells)
	numbers := []int{math.MinInt, math.MinInt + 1, -256, -2, -1, 64, 256, 1 << 32, math.MaxInt - 1, math.MaxInt}
	for n := range count + 2 {
		numbers = append(numbers, n)
	}
	for _, n := range numbers {
		want := 0
		if count <= 16 {
			want = waysToLay(n, cells)
		}
		if got := impl.CountPartials(r, n); got != want {
			t.Errorf("CountPartials of %v, which has %d cells, and %d is %d, want %d", r.Rows, count, n, got, want)
		}
	}
	if got, want := impl.CountPartials(r, count/2), impl.CountTilings(r); count <= 16 && count%2 == 0 && got != want {
		t.Errorf("CountPartials of %v and half of its cells is %d, but it has %d tilings", r.Rows, got, want)
	}
}

func TestCountPartialsOfMixedRegions(t *testing.T) {
	exact, more := 0, 0
	for _, share := range []uint32{3, 5, 7, 10, 13} {
		for _, r := range mixedRegions(160, share) {
			checkPartials(t, r)
			switch count := impl.CountCells(r); {
			case count == 16:
				exact++
			case count > 16:
				more++
			}
		}
	}
	for _, r := range tiledRegions(40) {
		checkPartials(t, r)
	}
	if exact < 10 || more < 10 {
		t.Errorf("%d regions have 16 cells and %d ones more", exact, more)
	}
}

func TestCountPartialsOfMoreThan16Cells(t *testing.T) {
	floors := [][]string{
		append(linesOf("####", 4), "#"),
		append(linesOf("####", 4), ".......#"),
		append(linesOf("####", 4), "", "", "", ".......#"),
		append(linesOf(fullLine, 2), "#"),
		linesOf("###", 6),
		append(board()[:4], "#"),
		board(),
		linesOf(fullLine, 8),
	}
	for _, lines := range floors {
		r := regionOf(lines)
		for n := -2; n <= 34; n++ {
			if got := impl.CountPartials(r, n); got != 0 {
				t.Errorf("CountPartials of %q and %d is %d, want 0", lines, n, got)
			}
		}
		checkPartials(t, r)
	}
}

func TestCountPartialsOfAllWindows(t *testing.T) {
	for pattern := range 1 << 12 {
		for _, r := range []impl.Region{windowRegion(0, 0, pattern, false), windowRegion(4, 5, pattern, false)} {
			cells := bitsOf(impl.RegionText(r))
			for n := range 8 {
				if got, want := impl.CountPartials(r, n), waysToLay(n, cells); got != want {
					t.Errorf("CountPartials of %v and %d is %d, want %d", r.Rows, n, got, want)
				}
			}
		}
	}
}

func TestCountsRejectInvalidRegions(t *testing.T) {
	for _, r := range invalidRegions() {
		checkTilings(t, r, 0)
		for _, n := range []int{-1, 0, 1, 2, 8} {
			if got := impl.CountPartials(r, n); got != 0 {
				t.Errorf("CountPartials of %v and %d is %d, want 0", r.Rows, n, got)
			}
		}
		for _, d := range append(allDominoes(), invalidDominoes()...) {
			if got := impl.CountWith(r, d); got != 0 {
				t.Errorf("CountWith of %v and %v is %d, want 0", r.Rows, d, got)
			}
		}
	}
}

func TestCountFunctionsLeaveArguments(t *testing.T) {
	regions := append(invalidRegions(), emptyRegions()...)
	for _, c := range slices.Concat(untileableFloors(), tileableFloors()) {
		regions = append(regions, regionOf(c.lines))
	}
	for _, from := range regions {
		r, memory := withSpare(from.Rows)
		before := slices.Clone(memory)
		total := impl.CountTilings(r)
		impl.IsTileable(r)
		for _, d := range append(allDominoes(), across(7, 0), down(0, 7), across(-1, 0)) {
			impl.CountWith(r, d)
		}
		for n := -1; n <= 9; n++ {
			impl.CountPartials(r, n)
		}
		if !slices.Equal(memory, before) {
			t.Errorf("the argument %v became %v", before, memory)
		}
		if again := impl.CountTilings(r); again != total {
			t.Errorf("CountTilings of %v is %d, and %d the second time", from.Rows, total, again)
		}
	}
}

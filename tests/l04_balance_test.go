package tests

import (
	"slices"
	"testing"

	"loop.example/g03300/impl"
)

// floorCase is a floor and what it consists of.
type floorCase struct {
	name   string
	lines  []string
	pieces int
	holes  int
	simple bool
}

// floorsWithoutHoles returns floors without cells, in one piece, in several ones, and with gaps that are no holes.
func floorsWithoutHoles() []floorCase {
	return []floorCase{
		{"no rows", nil, 0, 0, false},
		{"an empty row", []string{emptyLine}, 0, 0, false},
		{"empty rows", linesOf(emptyLine, 8), 0, 0, false},
		{"all 64 cells", linesOf(fullLine, 8), 1, 0, true},
		{"the last row missing", linesOf(fullLine, 7), 1, 0, true},
		{"the last row empty", append(linesOf(fullLine, 7), emptyLine), 1, 0, true},
		{"the first row empty", append([]string{emptyLine}, linesOf(fullLine, 7)...), 1, 0, true},
		{"the first cell", []string{"#"}, 1, 0, true},
		{"the last cell", append(linesOf(emptyLine, 7), ".......#"), 1, 0, true},
		{"two cells in a row", []string{"", "...##"}, 1, 0, true},
		{"two cells in a column", []string{"...#", "...#"}, 1, 0, true},
		{"a square in the middle", []string{"", "", "", "...###", "...###", "...###"}, 1, 0, true},
		{"a comb", []string{"#.#.#.#", "#######", "#.#.#.#"}, 1, 0, true},
		{"a snake", []string{fullLine, ".......#", fullLine, "#", fullLine, ".......#", fullLine}, 1, 0, true},
		{"a spiral", []string{fullLine, ".......#", "######.#", "#....#.#", "#.##.#.#", "#.####.#", "#......#", fullLine}, 1, 0, true},
		{"two cells apart", []string{"#.#"}, 2, 0, false},
		{"three rows apart", []string{"####", "", "####", "", "####"}, 3, 0, false},
		{"the ends of a row", []string{"#......#"}, 2, 0, false},
		{"the ends of a column", []string{"#", "", "", "", "", "", "", "#"}, 2, 0, false},
		{"the end of a row and the start of the next one", []string{".......#", "#......."}, 2, 0, false},
		{"two cells that touch in a corner", []string{"#", ".#"}, 2, 0, false},
		{"two cells that touch in the other corner", []string{".#", "#"}, 2, 0, false},
		{"two squares that touch in a corner", []string{"##", "##", "..##", "..##"}, 2, 0, false},
		{"a diagonal", []string{"#", ".#", "..#", "...#", "....#", ".....#", "......#", ".......#"}, 8, 0, false},
		{"the other diagonal", []string{".......#", "......#", ".....#", "....#", "...#", "..#", ".#", "#"}, 8, 0, false},
		{"all black cells", board(), 32, 0, false},
		{"all white cells", append(board()[1:], board()[0]), 32, 0, false},
		{"a gap at the left side", append([]string{fullLine, ".#######"}, linesOf(fullLine, 6)...), 1, 0, true},
		{"a gap at the upper side", append([]string{"###.####"}, linesOf(fullLine, 7)...), 1, 0, true},
		{"a gap at the right side", append(linesOf(fullLine, 6), "#######.", fullLine), 1, 0, true},
		{"a gap at the lower side", append(linesOf(fullLine, 7), "######.#"), 1, 0, true},
		{"gaps in all corners", append(append([]string{".######."}, linesOf(fullLine, 6)...), ".######."), 1, 0, true},
		{"a gap that leads inside", []string{fullLine, fullLine, "...#####", "##.#####", fullLine}, 1, 0, true},
	}
}

// floorsThatTouchThemselves returns floors without holes that touch themselves at a corner.
func floorsThatTouchThemselves() []floorCase {
	return []floorCase{
		{"the first cell out", append([]string{".#######", "#.######"}, linesOf(fullLine, 6)...), 1, 0, false},
		{"the upper right cell out", append([]string{"#######.", "######.#"}, linesOf(fullLine, 6)...), 1, 0, false},
		{"the lower left cell out", append(linesOf(fullLine, 6), "#.######", ".#######"), 1, 0, false},
		{"the last cell out", append(linesOf(fullLine, 6), "######.#", "#######."), 1, 0, false},
		{"a gap at the left side", append([]string{fullLine, fullLine, ".#######", "#.######"}, linesOf(fullLine, 4)...), 1, 0, false},
		{"a gap at the right side", append([]string{fullLine, "######.#", "#######."}, linesOf(fullLine, 5)...), 1, 0, false},
		{"a gap at the upper side", append([]string{"##.#####", "#.######"}, linesOf(fullLine, 6)...), 1, 0, false},
		{"a gap at the lower side", append(linesOf(fullLine, 6), "#.######", "##.#####"), 1, 0, false},
		{"a way of corners to the side", []string{".#######", "#.######", "##.#####", "###.####", "####.###", fullLine}, 1, 0, false},
		{"a small floor", []string{".##", "#.#", "###"}, 1, 0, false},
		{"a small floor, the other way round", []string{"##.", "#.#", "###"}, 1, 0, false},
		{"a small floor in the last corner", []string{"", "", "", "", "", ".....###", ".....#.#", ".....##."}, 1, 0, false},
		{"a small floor at the missing rows", []string{"###", "#.#", ".##"}, 1, 0, false},
	}
}

// floorsWithHoles returns floors with holes, with and without several pieces and corners at which they touch themselves.
func floorsWithHoles() []floorCase {
	return []floorCase{
		{"a ring", []string{"###", "#.#", "###"}, 1, 1, false},
		{"a ring in the last corner", []string{"", "", "", "", "", ".....###", ".....#.#", ".....###"}, 1, 1, false},
		{"the greatest ring", append(append([]string{fullLine}, linesOf("#......#", 6)...), fullLine), 1, 1, false},
		{"a hole of two cells", []string{"####", "#..#", "####"}, 1, 1, false},
		{"a bent hole", []string{"####", "#..#", "##.#", ".###"}, 1, 1, false},
		{"a hole of cells that touch in a corner", []string{"####", "#.##", "##.#", "####"}, 1, 1, false},
		{"a hole of cells that touch in the other corner", []string{"####", "##.#", "#.##", "####"}, 1, 1, false},
		{"a long hole of corners", []string{fullLine, "#.#.#.##", "##.#.#.#", fullLine}, 1, 1, false},
		{"two holes", []string{"#####", "#.#.#", "#####"}, 1, 2, false},
		{"two holes in a column", []string{"###", "#.#", "###", "#.#", "###"}, 1, 2, false},
		{"nine holes", []string{"#######", "#.#.#.#", "#######", "#.#.#.#", "#######", "#.#.#.#", "#######"}, 1, 9, false},
		{"holes and gaps", []string{"#.######", "###..###", fullLine, "#.######", "#.####.#", "######.#", "###.####", ".#######"}, 1, 4, false},
		{"a cell in a hole", []string{"#####", "#...#", "#.#.#", "#...#", "#####"}, 2, 1, false},
		{"two cells in a hole", []string{"######", "#....#", "#.##.#", "#....#", "######"}, 2, 1, false},
		{"a cell in a hole of corners", []string{"#####", "##.##", "#.#.#", "##.##", "#####"}, 2, 1, false},
		{"a ring in a hole", []string{"#######", "#.....#", "#.###.#", "#.#.#.#", "#.###.#", "#.....#", "#######"}, 2, 2, false},
		{"two rings", []string{"###.###", "#.#.#.#", "###.###"}, 2, 2, false},
		{"two rings that touch in a corner", []string{"###", "#.#", "###", "...###", "...#.#", "...###"}, 2, 2, false},
		{"a hole at a corner of the floor", []string{"###.", "#.##", "####"}, 1, 1, false},
		{"a hole and a corner", []string{".######", "#.###.#", "#######"}, 1, 1, false},
		{"a hole and the other corner", []string{"######.", "#.###.#", "#######"}, 1, 1, false},
		{"a hole beside a gap at the left side", []string{"#####", ".#.##", "#####"}, 1, 1, false},
	}
}

// allFloorCases returns the cases of all tables.
func allFloorCases() []floorCase {
	return slices.Concat(floorsWithoutHoles(), floorsThatTouchThemselves(), floorsWithHoles())
}

func TestPiecesAndHoles(t *testing.T) {
	for _, c := range allFloorCases() {
		r := regionOf(c.lines)
		if got := impl.CountPieces(r); got != c.pieces {
			t.Errorf("%s: CountPieces of %q is %d, want %d", c.name, c.lines, got, c.pieces)
		}
		if got := impl.CountHoles(r); got != c.holes {
			t.Errorf("%s: CountHoles of %q is %d, want %d", c.name, c.lines, got, c.holes)
		}
		if got := impl.IsSimple(r); got != c.simple {
			t.Errorf("%s: IsSimple of %q is %v, want %v", c.name, c.lines, got, c.simple)
		}
	}
}

func TestBlackExcess(t *testing.T) {
	cases := []struct {
		lines []string
		want  int
	}{
		{nil, 0},
		{[]string{emptyLine}, 0},
		{linesOf(emptyLine, 8), 0},
		{linesOf(fullLine, 8), 0},
		{linesOf(fullLine, 7), 0},
		{[]string{"#"}, 1},
		{[]string{".#"}, -1},
		{[]string{"", "#"}, -1},
		{append(linesOf(emptyLine, 7), ".......#"), 1},
		{[]string{"##"}, 0},
		{[]string{"#", "#"}, 0},
		{[]string{"###", "###", "###"}, 1},
		{[]string{".###", ".###", ".###"}, -1},
		{[]string{"###", "#.#", "###"}, 0},
		{[]string{"#......#"}, 0},
		{append(append([]string{".#######"}, linesOf(fullLine, 6)...), "#######."), -2},
		{append(append([]string{"#######."}, linesOf(fullLine, 6)...), ".#######"), 2},
		{board(), 32},
		{append(board()[1:], board()[0]), -32},
	}
	for _, c := range cases {
		r := regionOf(c.lines)
		if got := impl.BlackExcess(r); got != c.want {
			t.Errorf("BlackExcess of %q is %d, want %d", c.lines, got, c.want)
		}
		if got := impl.IsBalanced(r); got != (c.want == 0) {
			t.Errorf("IsBalanced of %q is %v, want %v", c.lines, got, c.want == 0)
		}
	}
}

// partsOf returns all cells of the lines that show the sign, in parts that touch in sides or, if corners is true, in sides or corners.
func partsOf(lines []string, sign byte, corners bool) [][]impl.Cell {
	var parts [][]impl.Cell
	for y, line := range lines {
		for x := range line {
			if line[x] != sign {
				continue
			}
			c := impl.Cell{X: x, Y: y}
			part := []impl.Cell{c}
			var apart [][]impl.Cell
			for _, other := range parts {
				if touches(other, c, corners) {
					part = append(part, other...)
				} else {
					apart = append(apart, other)
				}
			}
			parts = append(apart, part)
		}
	}
	return parts
}

// touches reports whether a cell of part touches c in a side, or in a corner if corners is true.
func touches(part []impl.Cell, c impl.Cell, corners bool) bool {
	return slices.ContainsFunc(part, func(d impl.Cell) bool {
		right, down := max(d.X-c.X, c.X-d.X), max(d.Y-c.Y, c.Y-d.Y)
		return right+down == 1 || corners && right == 1 && down == 1
	})
}

// withRing returns the text of the square of all valid cells with a ring of points around it.
func withRing(r impl.Region) []string {
	ring := []string{".........."}
	for _, line := range slices.Concat(impl.RegionText(r), linesOf(emptyLine, 8-len(r.Rows))) {
		ring = append(ring, "."+line+".")
	}
	return append(ring, "..........")
}

// byIndex returns the cells in ascending order of CellIndex.
func byIndex(cells []impl.Cell) []impl.Cell {
	return slices.SortedFunc(slices.Values(cells), func(a, b impl.Cell) int {
		return impl.CellIndex(a) - impl.CellIndex(b)
	})
}

// checkFloor compares everything that Chapter 4 says of r with counts in its text.
func checkFloor(t *testing.T, r impl.Region) {
	t.Helper()
	lines := withRing(r)
	pieces, rest := partsOf(lines, '#', false), partsOf(lines, '.', true)
	if got := impl.CountPieces(r); got != len(pieces) {
		t.Errorf("CountPieces of %v is %d, want %d", r.Rows, got, len(pieces))
	}
	if got := impl.CountHoles(r); got != len(rest)-1 {
		t.Errorf("CountHoles of %v is %d, want %d", r.Rows, got, len(rest)-1)
	}
	// A floor is simple just if it and the rest are in one part each even if corners do not count.
	simple := len(pieces) == 1 && len(partsOf(lines, '.', false)) == 1
	if got := impl.IsSimple(r); got != simple {
		t.Errorf("IsSimple of %v is %v, want %v", r.Rows, got, simple)
	}
	if want := cellsMinusPairsPlusSquares(lines); impl.CountPieces(r)-impl.CountHoles(r) != want {
		t.Errorf("%v has %d pieces and %d holes, but cells minus pairs plus squares are %d", r.Rows, impl.CountPieces(r), impl.CountHoles(r), want)
	}
}

// cellsMinusPairsPlusSquares counts in the text of a floor with a ring.
func cellsMinusPairsPlusSquares(lines []string) int {
	sum := 0
	for y := range len(lines) - 1 {
		for x := range len(lines[y]) - 1 {
			here := lines[y][x] == '#'
			right, below := lines[y][x+1] == '#', lines[y+1][x] == '#'
			if here {
				sum++
			}
			if here && right {
				sum--
			}
			if here && below {
				sum--
			}
			if here && right && below && lines[y+1][x+1] == '#' {
				sum++
			}
		}
	}
	return sum
}

func TestCellsMinusPairsPlusSquares(t *testing.T) {
	for _, c := range allFloorCases() {
		checkFloor(t, regionOf(c.lines))
	}
	for _, lines := range shownRegions() {
		checkFloor(t, regionOf(lines))
	}
}

// windowRegion returns the region with 4 times 3 cells from x, y on whose bits are set in pattern, and with all cells around them if full is true.
func windowRegion(x, y, pattern int, full bool) impl.Region {
	rows := make([]int, 8)
	if full {
		rows = slices.Repeat([]int{255}, 8)
	}
	for row := range 3 {
		rows[y+row] &^= 15 << x
		rows[y+row] |= pattern >> (4 * row) & 15 << x
	}
	return impl.Region{Rows: rows}
}

func TestCellsMinusPairsPlusSquaresOfAllWindows(t *testing.T) {
	for pattern := range 1 << 12 {
		checkFloor(t, windowRegion(0, 0, pattern, false))
		checkFloor(t, windowRegion(0, 0, pattern, true))
		checkFloor(t, windowRegion(2, 3, pattern, true))
		checkFloor(t, windowRegion(4, 5, pattern, true))
	}
}

// mixedRegions returns n regions in which the given share of 16 cells belongs on average, always the same ones.
func mixedRegions(n int, share uint32) []impl.Region {
	state := share
	regions := make([]impl.Region, n)
	for i := range regions {
		rows := make([]int, 1+i%8)
		for y := range rows {
			for x := range 8 {
				state = state*1664525 + 1013904223
				if state>>28 < share {
					rows[y] |= 1 << x
				}
			}
		}
		regions[i] = impl.Region{Rows: rows}
	}
	return regions
}

func TestCellsMinusPairsPlusSquaresOfMixedRegions(t *testing.T) {
	for _, share := range []uint32{3, 6, 8, 10, 12, 14} {
		for _, r := range mixedRegions(200, share) {
			checkFloor(t, r)
		}
	}
}

// excessShown returns the number of black cells that the lines show minus that of white ones.
func excessShown(lines []string) int {
	excess, colors := 0, board()
	for _, c := range cellsShown(lines) {
		if colors[c.Y][c.X] == '#' {
			excess++
		} else {
			excess--
		}
	}
	return excess
}

func TestBlackExcessOfMixedRegions(t *testing.T) {
	for _, r := range mixedRegions(400, 8) {
		want := excessShown(impl.RegionText(r))
		if got := impl.BlackExcess(r); got != want {
			t.Errorf("BlackExcess of %v is %d, want %d", r.Rows, got, want)
		}
		if got := impl.IsBalanced(r); got != (want == 0) {
			t.Errorf("IsBalanced of %v is %v, want %v", r.Rows, got, want == 0)
		}
	}
}

func TestPieceOf(t *testing.T) {
	cases := []struct {
		lines []string
		c     impl.Cell
		want  []string
	}{
		{[]string{"#.#"}, impl.Cell{X: 0, Y: 0}, []string{"#"}},
		{[]string{"#.#"}, impl.Cell{X: 2, Y: 0}, []string{"..#"}},
		{[]string{"###", "###"}, impl.Cell{X: 1, Y: 1}, []string{"###", "###"}},
		{linesOf(fullLine, 8), impl.Cell{X: 3, Y: 4}, linesOf(fullLine, 8)},
		{[]string{"#", ".#"}, impl.Cell{X: 0, Y: 0}, []string{"#"}},
		{[]string{"#", ".#"}, impl.Cell{X: 1, Y: 1}, []string{"", ".#"}},
		{[]string{".#", "#"}, impl.Cell{X: 1, Y: 0}, []string{".#"}},
		{[]string{".#", "#"}, impl.Cell{X: 0, Y: 1}, []string{"", "#"}},
		{[]string{"##", "##", "..##", "..##"}, impl.Cell{X: 2, Y: 3}, []string{"", "", "..##", "..##"}},
		{[]string{".......#", "#......."}, impl.Cell{X: 7, Y: 0}, []string{".......#"}},
		{[]string{"#######", "......#", "#####.#", "#...#.#", "#.###.#", "#.....#", "#######"}, impl.Cell{X: 3, Y: 4}, []string{"#######", "......#", "#####.#", "#...#.#", "#.###.#", "#.....#", "#######"}},
		{[]string{"#####", "#...#", "#.#.#", "#...#", "#####"}, impl.Cell{X: 2, Y: 2}, []string{"", "", "..#"}},
		{[]string{"#####", "#...#", "#.#.#", "#...#", "#####"}, impl.Cell{X: 4, Y: 4}, []string{"#####", "#...#", "#...#", "#...#", "#####"}},
		{[]string{"##.##", ".#.#", ".#.#"}, impl.Cell{X: 4, Y: 0}, []string{"...##", "...#", "...#"}},
	}
	for _, c := range cases {
		if got := impl.PieceOf(regionOf(c.lines), c.c); !slices.Equal(got, cellsShown(c.want)) {
			t.Errorf("PieceOf %q and %v is %v, want %q", c.lines, c.c, got, c.want)
		}
	}
}

func TestPieceOfEachCell(t *testing.T) {
	regions := mixedRegions(200, 9)
	for _, c := range allFloorCases() {
		regions = append(regions, regionOf(c.lines))
	}
	for _, r := range regions {
		want := map[impl.Cell][]impl.Cell{}
		for _, piece := range partsOf(impl.RegionText(r), '#', false) {
			for _, c := range piece {
				want[c] = byIndex(piece)
			}
		}
		for _, c := range validCells() {
			if got := impl.PieceOf(r, c); !slices.Equal(got, want[c]) {
				t.Errorf("PieceOf %v and %v is %v, want %v", r.Rows, c, got, want[c])
			}
		}
	}
}

func TestPieceOfRejects(t *testing.T) {
	cases := []struct {
		lines []string
		c     impl.Cell
	}{
		{nil, impl.Cell{X: 0, Y: 0}},
		{[]string{emptyLine}, impl.Cell{X: 0, Y: 0}},
		{[]string{"#.#"}, impl.Cell{X: 1, Y: 0}},
		{[]string{"#.#"}, impl.Cell{X: 3, Y: 0}},
		{[]string{"#.#"}, impl.Cell{X: 0, Y: 1}},
		{[]string{"###", "#.#", "###"}, impl.Cell{X: 1, Y: 1}},
		{linesOf(fullLine, 7), impl.Cell{X: 4, Y: 7}},
	}
	for _, c := range cases {
		if got := impl.PieceOf(regionOf(c.lines), c.c); len(got) != 0 {
			t.Errorf("PieceOf %q and %v is %v, want nil", c.lines, c.c, got)
		}
	}
	for _, c := range invalidCells() {
		for _, r := range []impl.Region{{}, {Rows: []int{5}}, regionOf(linesOf(fullLine, 8))} {
			if got := impl.PieceOf(r, c); len(got) != 0 {
				t.Errorf("PieceOf %v and the cell %v, which is not valid, is %v", r.Rows, c, got)
			}
		}
	}
}

func TestBalanceRejectsInvalidRegions(t *testing.T) {
	for _, r := range invalidRegions() {
		if got := impl.BlackExcess(r); got != 0 {
			t.Errorf("BlackExcess of %v is %d, want 0", r.Rows, got)
		}
		if impl.IsBalanced(r) {
			t.Errorf("IsBalanced of %v is true", r.Rows)
		}
		if got := impl.CountPieces(r); got != 0 {
			t.Errorf("CountPieces of %v is %d, want 0", r.Rows, got)
		}
		if got := impl.CountHoles(r); got != 0 {
			t.Errorf("CountHoles of %v is %d, want 0", r.Rows, got)
		}
		if impl.IsSimple(r) {
			t.Errorf("IsSimple of %v is true", r.Rows)
		}
		for _, c := range append(validCells(), impl.Cell{X: 0, Y: 8}, impl.Cell{X: 8, Y: 0}, impl.Cell{X: -1, Y: 0}) {
			if got := impl.PieceOf(r, c); len(got) != 0 {
				t.Errorf("PieceOf %v and %v is %v, want nil", r.Rows, c, got)
			}
		}
	}
}

func TestPieceOfReturnsNewMemory(t *testing.T) {
	r, memory := withSpare([]int{7, 5, 7})
	before := slices.Clone(memory)
	want := cellsShown([]string{"###", "#.#", "###"})
	first := impl.PieceOf(r, impl.Cell{X: 1, Y: 0})
	all := first[:cap(first)]
	for i := range all {
		all[i] = impl.Cell{X: 6, Y: 6}
	}
	if again := impl.PieceOf(r, impl.Cell{X: 1, Y: 0}); !slices.Equal(again, want) {
		t.Error("a changed piece changes a later one", again)
	}
	second := impl.PieceOf(r, impl.Cell{X: 0, Y: 1})
	overwrite(r)
	if !slices.Equal(second, want) {
		t.Error("a changed region changes a piece", second)
	}
	copy(memory, before)
	if again := impl.PieceOf(r, impl.Cell{X: 2, Y: 2}); !slices.Equal(again, want) || !slices.Equal(memory, before) {
		t.Error("a call depends on one before it, or changes its argument", again, memory)
	}
}

func TestBalanceFunctionsLeaveArguments(t *testing.T) {
	regions := append(invalidRegions(), mixedRegions(50, 9)...)
	for _, c := range allFloorCases() {
		regions = append(regions, regionOf(c.lines))
	}
	for _, from := range regions {
		r, memory := withSpare(from.Rows)
		before := slices.Clone(memory)
		impl.BlackExcess(r)
		impl.IsBalanced(r)
		impl.CountPieces(r)
		impl.CountHoles(r)
		impl.IsSimple(r)
		for _, c := range []impl.Cell{{X: 0, Y: 0}, {X: 7, Y: 7}, {X: 1, Y: 1}, {X: 8, Y: 8}} {
			impl.PieceOf(r, c)
		}
		if !slices.Equal(memory, before) {
			t.Errorf("the argument %v became %v", before, memory)
		}
	}
}

package tests

import (
	"maps"
	"slices"
	"testing"

	"loop.example/g03300/impl"
)

// joinedCells returns, for each cell of the board by its index, the index of the other cell under its domino; -1 where no domino lies.
func joinedCells(list []impl.Domino) [64]int {
	var joined [64]int
	for i := range joined {
		joined[i] = -1
	}
	for _, d := range list {
		under := shownUnder(d)
		first, second := 8*under[0].Y+under[0].X, 8*under[1].Y+under[1].X
		joined[first], joined[second] = second, first
	}
	return joined
}

// flipBetween returns the first cell of the square in which alone two tilings of the same floor differ, and whether there is one.
func flipBetween(a, b [64]int) (impl.Cell, bool) {
	var cells []impl.Cell
	for i := range a {
		if a[i] != b[i] {
			cells = append(cells, impl.Cell{X: i % 8, Y: i / 8})
		}
		if len(cells) > 4 {
			return impl.Cell{}, false
		}
	}
	if len(cells) != 4 || !slices.Equal(cells, squareOf(cells[0])) {
		return impl.Cell{}, false
	}
	return cells[0], true
}

// flipTable has the tilings of a floor in order, and for each one the cells at which flips lead to others, by the index of these.
type flipTable struct {
	tilings [][]impl.Domino
	cells   []map[int]impl.Cell
}

// flipTableOf returns the table of the floor that the lines show, found by comparing each tiling with each other one; without cells if there are more than 300 tilings.
func flipTableOf(lines []string) flipTable {
	table := flipTable{tilings: wantedList(lines)}
	if len(table.tilings) > 300 {
		return table
	}
	joined := make([][64]int, len(table.tilings))
	table.cells = make([]map[int]impl.Cell, len(table.tilings))
	for i, list := range table.tilings {
		joined[i], table.cells[i] = joinedCells(list), map[int]impl.Cell{}
		for j := range i {
			if c, ok := flipBetween(joined[i], joined[j]); ok {
				table.cells[i][j], table.cells[j][i] = c, c
			}
		}
	}
	return table
}

// compareWays compares two lists of cells element by element, by the indexes of the cells.
func compareWays(a, b []impl.Cell) int {
	return slices.CompareFunc(a, b, func(c, d impl.Cell) int { return 8*(c.Y-d.Y) + c.X - d.X })
}

// firstWays returns, for each tiling from which flips lead to the goal, the first one of the ways with the fewest cells.
func (f flipTable) firstWays(goal int) map[int][]impl.Cell {
	ways := map[int][]impl.Cell{goal: {}}
	for last := ways; len(last) > 0; {
		next := map[int][]impl.Cell{}
		for i, cells := range f.cells {
			if _, known := ways[i]; known {
				continue
			}
			for j, c := range cells {
				rest, ok := last[j]
				way := append([]impl.Cell{c}, rest...)
				if old, isFound := next[i]; ok && (!isFound || compareWays(way, old) < 0) {
					next[i] = way
				}
			}
		}
		ways = maps.Clone(ways)
		maps.Copy(ways, next)
		last = next
	}
	return ways
}

// countParts returns into how many parts flips divide the tilings: each one gets the least index in its part.
func (f flipTable) countParts() int {
	least := make([]int, len(f.tilings))
	for i := range least {
		least[i] = i
	}
	for changed := true; changed; {
		changed = false
		for i, cells := range f.cells {
			for j := range cells {
				if least[j] < least[i] {
					least[i], changed = least[j], true
				}
			}
		}
	}
	parts := 0
	for i := range least {
		if least[i] == i {
			parts++
		}
	}
	return parts
}

// neighbors returns the indexes of the tilings to which one flip leads, in ascending order.
func (f flipTable) neighbors(i int) []int {
	return slices.Sorted(maps.Keys(f.cells[i]))
}

// checkWay compares FlipDistance and FlipWay with the way that is wanted, or with none if ok is false.
func checkWay(t *testing.T, r impl.Region, a, b []impl.Domino, want []impl.Cell, ok bool) {
	t.Helper()
	distance := -1
	if ok {
		distance = len(want)
	}
	if got := impl.FlipDistance(r, a, b); got != distance {
		t.Errorf("FlipDistance in %v from %v to %v is %d, want %d", r.Rows, a, b, got, distance)
	}
	got, isWay := impl.FlipWay(r, a, b)
	if isWay != ok || !slices.Equal(got, want) {
		t.Errorf("FlipWay in %v from %v to %v is %v and %v, want %v and %v", r.Rows, a, b, got, isWay, want, ok)
	}
	if last, done := impl.FlipAll(a, got); ok && (!done || !slices.Equal(last, b)) {
		t.Errorf("FlipAll of %v at %v is %v and %v, want %v", a, got, last, done, b)
	}
}

// checkNeighbors compares FlipNeighbors with the indexes that are wanted.
func checkNeighbors(t *testing.T, r impl.Region, list []impl.Domino, want []int) {
	t.Helper()
	if got := impl.FlipNeighbors(r, list); !slices.Equal(got, want) {
		t.Errorf("FlipNeighbors in %v of %v is %v, want %v", r.Rows, list, got, want)
	}
}

// checkParts compares CountFlipParts with the number that is wanted.
func checkParts(t *testing.T, r impl.Region, want int) {
	t.Helper()
	if got := impl.CountFlipParts(r); got != want {
		t.Errorf("CountFlipParts of %v is %d, want %d", r.Rows, got, want)
	}
}

// checkWays compares everything that Chapter 12 says of a region with what its tilings tell, for all ways if there are few tilings, and some if there are many; it returns the table.
func checkWays(t *testing.T, r impl.Region) flipTable {
	t.Helper()
	table := flipTableOf(impl.RegionText(r))
	count := len(table.tilings)
	if count > 300 {
		checkNoWays(t, r, [][]impl.Domino{table.tilings[0], table.tilings[300], table.tilings[count-1]})
		return table
	}
	step := 1 + count/12
	if count > 60 {
		step = count / 2
	}
	for goal := 0; goal < count; goal += step {
		ways := table.firstWays(goal)
		// Going backwards takes other tilings, the last one among them.
		for i := count - 1; i >= 0; i -= step {
			way, ok := ways[i]
			checkWay(t, r, table.tilings[i], table.tilings[goal], way, ok)
		}
		way, ok := ways[goal]
		checkWay(t, r, table.tilings[goal], table.tilings[goal], way, ok)
	}
	for i, tiling := range table.tilings {
		if i%step == 0 || count < 60 {
			checkNeighbors(t, r, tiling, table.neighbors(i))
		}
	}
	checkParts(t, r, table.countParts())
	if count > 0 && impl.CountHoles(r) == 0 {
		checkParts(t, r, 1)
	}
	return table
}

// checkNoWays checks that none of these lists is a tiling of the region that has neighbors or a way.
func checkNoWays(t *testing.T, r impl.Region, lists [][]impl.Domino) {
	t.Helper()
	for _, a := range lists {
		checkNeighbors(t, r, a, nil)
		for _, b := range lists {
			checkWay(t, r, a, b, nil, false)
		}
	}
	if tilings := impl.ListTilings(r); len(tilings) == 0 {
		checkParts(t, r, 0)
	}
}

// allTurns returns the region as it is, mirrored, upside down, and turned.
func allTurns(r impl.Region) []impl.Region {
	return []impl.Region{r, mirrored(r), upsideDown(r), turned(r)}
}

// wayCase is a floor, the indexes of two of its tilings, and the cells of the way between them, or "none".
type wayCase struct {
	name     string
	lines    []string
	from, to int
	want     string
}

// waysByHand returns ways in floors whose tilings listedFloors shows, and in some others.
func waysByHand() []wayCase {
	square, columns, rows, five := linesOf("##", 2), linesOf("##", 3), linesOf("###", 2), linesOf("####", 2)
	two, low := linesOf("##.##", 2), []string{"......##", "......##", "##", "##"}
	ring, oneHole := []string{"###", "#.#", "###"}, []string{"####", "##.##", "####"}
	return []wayCase{
		{"no cells", nil, 0, 0, ""},
		{"one tiling", []string{"##"}, 0, 0, ""},
		{"a square, to itself", square, 0, 0, ""},
		{"a square, to itself, down", square, 1, 1, ""},
		{"a square, across to down", square, 0, 1, "0,0"},
		{"a square, down to across", square, 1, 0, "0,0"},
		{"the last square", append(linesOf(emptyLine, 6), "......##", "......##"), 0, 1, "6,6"},
		{"the last square, back", append(linesOf(emptyLine, 6), "......##", "......##"), 1, 0, "6,6"},
		{"two columns, upwards", columns, 1, 2, "0,1 0,0"},
		{"two columns, downwards", columns, 2, 1, "0,0 0,1"},
		{"two columns, the first flip", columns, 0, 2, "0,0"},
		{"two columns, the second flip", columns, 0, 1, "0,1"},
		{"two rows, to the right", rows, 0, 1, "0,0 1,0"},
		{"two rows, to the left", rows, 1, 0, "1,0 0,0"},
		{"four columns, three flips", five, 0, 2, "0,0 2,0 1,0"},
		{"four columns, three flips back", five, 2, 0, "1,0 0,0 2,0"},
		{"four columns, the first one of two ways", five, 1, 3, "0,0 2,0"},
		{"four columns, the first one of two ways back", five, 3, 1, "0,0 2,0"},
		{"four columns, all across to all down", five, 0, 4, "0,0 2,0"},
		{"two squares, both", two, 0, 3, "0,0 3,0"},
		{"two squares, both back", two, 3, 0, "0,0 3,0"},
		{"two squares, the first one back and the second one", two, 2, 1, "0,0 3,0"},
		{"two squares, the second one", two, 0, 1, "3,0"},
		{"the row above is first, not the column to the left", low, 0, 3, "6,0 0,2"},
		{"the row above is first, back", low, 3, 0, "6,0 0,2"},
		{"a square of 16 cells, the first tiling to the last one", linesOf("####", 4), 0, 35, "0,0 2,0 0,2 2,2"},
		{"a square of 16 cells, the last tiling to the first one", linesOf("####", 4), 35, 0, "0,0 2,0 0,2 2,2"},
		{"a ring", ring, 0, 1, "none"},
		{"a ring, back", ring, 1, 0, "none"},
		{"a ring, to itself", ring, 1, 1, ""},
		{"a ring in the last corner", []string{"", "", "", "", "", ".....###", ".....#.#", ".....###"}, 0, 1, "none"},
		{"a ring and a square", []string{"###.##", "#.#.##", "###"}, 0, 1, "4,0"},
		{"a ring and a square, the ring as well", []string{"###.##", "#.#.##", "###"}, 0, 2, "none"},
		{"a ring and a square, both", []string{"###.##", "#.#.##", "###"}, 0, 3, "none"},
		{"a hole around which dominoes cannot run", oneHole, 1, 2, "0,1 0,0"},
		{"a hole around which dominoes cannot run, back", oneHole, 2, 1, "0,0 0,1"},
	}
}

func TestFlipWay(t *testing.T) {
	for _, c := range waysByHand() {
		r := regionOf(c.lines)
		tilings := wantedList(c.lines)
		from, to := tilings[c.from], tilings[c.to]
		way, ok := impl.FlipWay(r, from, to)
		if ok != (c.want != "none") || ok && cellsText(way) != c.want || !ok && len(way) != 0 {
			t.Errorf("%s: FlipWay in %q from %v to %v is %v and %v, want %q", c.name, c.lines, from, to, way, ok, c.want)
		}
		distance := -1
		if ok {
			distance = len(way)
		}
		if got := impl.FlipDistance(r, from, to); got != distance {
			t.Errorf("%s: FlipDistance in %q from %v to %v is %d, want %d", c.name, c.lines, from, to, got, distance)
		}
	}
}

func TestFlipNeighbors(t *testing.T) {
	cases := []struct {
		name  string
		lines []string
		want  [][]int
	}{
		{"no cells", nil, [][]int{{}}},
		{"rows without cells", linesOf(emptyLine, 8), [][]int{{}}},
		{"one domino", []string{"##"}, [][]int{{}}},
		{"a step", []string{"##", ".##", "..##"}, [][]int{{}}},
		{"a square", linesOf("##", 2), [][]int{{1}, {0}}},
		{"the last square", append(linesOf(emptyLine, 6), "......##", "......##"), [][]int{{1}, {0}}},
		{"two columns", linesOf("##", 3), [][]int{{1, 2}, {0}, {0}}},
		{"two rows", linesOf("###", 2), [][]int{{2}, {2}, {0, 1}}},
		{"four columns", linesOf("####", 2), [][]int{{1, 3}, {0, 4}, {4}, {0, 4}, {1, 2, 3}}},
		{"two squares", linesOf("##.##", 2), [][]int{{1, 2}, {0, 3}, {0, 3}, {1, 2}}},
		{"a ring", []string{"###", "#.#", "###"}, [][]int{{}, {}}},
		{"a ring and a square", []string{"###.##", "#.#.##", "###"}, [][]int{{1}, {0}, {3}, {2}}},
		{"a diamond", []string{".##.", "####", "####", ".##."}, [][]int{{1, 4}, {0, 5}, {3, 5, 6}, {2, 7}, {0, 5}, {1, 2, 4}, {2, 7}, {3, 6}}},
	}
	for _, c := range cases {
		r := regionOf(c.lines)
		tilings := wantedList(c.lines)
		if len(tilings) != len(c.want) {
			t.Fatalf("%s: there are %d tilings of %q", c.name, len(tilings), c.lines)
		}
		for i, tiling := range tilings {
			if got := impl.FlipNeighbors(r, tiling); !slices.Equal(got, c.want[i]) {
				t.Errorf("%s: FlipNeighbors in %q of %v is %v, want %v", c.name, c.lines, tiling, got, c.want[i])
			}
		}
	}
}

// partCase is a floor, the number of its tilings, and the number of parts into which flips divide them.
type partCase struct {
	name           string
	lines          []string
	tilings, parts int
}

// floorsInOnePart returns floors with and without holes whose tilings are in one part.
func floorsInOnePart() []partCase {
	return []partCase{
		{"no cells", nil, 1, 1},
		{"rows without cells", linesOf(emptyLine, 8), 1, 1},
		{"one domino", []string{"##"}, 1, 1},
		{"a snake", []string{fullLine, ".......#", fullLine, "#", fullLine}, 1, 1},
		{"a square", linesOf("##", 2), 2, 1},
		{"two columns", linesOf("##", 8), 34, 1},
		{"three rows", linesOf(fullLine, 3), 153, 1},
		{"a square of 16 cells", linesOf("####", 4), 36, 1},
		{"four rows", linesOf("######", 4), 281, 1},
		{"a diamond of order 3", []string{"..##..", ".####.", "######", "######", ".####.", "..##.."}, 64, 1},
		{"long ways", []string{"######", ".######", "#######", "#######", "######", ".######"}, 127, 1},
		{"two squares", linesOf("##.##", 2), 4, 1},
		{"two squares that touch in a corner", []string{"##", "##", "..##", "..##"}, 4, 1},
		{"pieces in all corners", []string{"##....##", "##....##", "", "", "", "", "##....##", "##....##"}, 16, 1},
		{"eight pieces", append(slices.Repeat([]string{"##.##.##", "##.##.##", ""}, 2), "##.##", "##.##"), 256, 1},
		{"a gap that touches the outside in a corner", []string{"###", "#.##", "##"}, 1, 1},
		{"a gap in a corner, two tilings", []string{"####", "##.##", ".##"}, 2, 1},
		{"a gap in a corner, more tilings", []string{"#####", "#####", "##.##", ".##"}, 15, 1},
		{"a long gap in a corner", []string{"####", "#####", "##..#", "####"}, 12, 1},
		{"a hole and one tiling", []string{"####", ".#.##", ".###"}, 1, 1},
		{"two holes and one tiling", []string{"#.###", "###.#", "#.###", "###.#"}, 1, 1},
		{"a hole and three tilings", []string{"####", "##.##", "####"}, 3, 1},
		{"a hole and six tilings", []string{"####", "##.##", "#####", "..#"}, 6, 1},
		{"a hole and twelve tilings", []string{"####", "##.##", "####", "####"}, 12, 1},
		{"a hole of two cells", []string{".####", "##.##", "##.##", "####"}, 9, 1},
		{"a piece with a hole, and another piece", []string{"###.#", "###.#", "#.##", "###"}, 3, 1},
	}
}

// floorsInParts returns floors with holes whose tilings are in several parts.
func floorsInParts() []partCase {
	return []partCase{
		{"a ring", []string{"###", "#.#", "###"}, 2, 2},
		{"a ring in the last corner", []string{"", "", "", "", "", ".....###", ".....#.#", ".....###"}, 2, 2},
		{"a long ring", []string{"#####", "#...#", "#####"}, 2, 2},
		{"the greatest ring", append(append([]string{fullLine}, linesOf("#......#", 6)...), fullLine), 2, 2},
		{"two rings", []string{"###.###", "#.#.#.#", "###.###"}, 4, 4},
		{"two rings that touch in a corner", []string{"###", "#.#", "###", "...###", "...#.#", "...###"}, 4, 4},
		{"a ring in a hole", []string{"#######", "#.....#", "#.###.#", "#.#.#.#", "#.###.#", "#.....#", "#######"}, 4, 4},
		{"a domino in a hole", []string{"######", "#....#", "#.##.#", "#....#", "######"}, 2, 2},
		{"a ring and a square", []string{"###.##", "#.#.##", "###"}, 4, 2},
		{"a ring, six squares and two dominoes", []string{"###.##", "#.#.##.#", "###....#", "...##.##", "##.##.##", "##...", "...##.##", "##.##.##"}, 128, 2},
		{"a ring with a tail", []string{"####", "#.##", "###"}, 3, 2},
		{"a ring at a corner of the floor", []string{"#####", "#.###", "#####"}, 8, 2},
		{"a hole of two cells", []string{"####", "####", "#..#", "####"}, 6, 2},
		{"a hole of cells that touch in a corner", []string{"###.", "#.##", "##.#", ".###"}, 2, 2},
		{"a hole of cells that touch in a corner, more tilings", []string{"#####", "#.###", "##.##", ".###"}, 5, 2},
		{"two holes, one part for each tiling", []string{"..###", "###.#", "#.###", "###"}, 3, 3},
		{"two holes, parts of different sizes", []string{"#####", "###.#", "#.###", "###"}, 6, 3},
		{"two holes, two parts", []string{"#####", "#.#.#", "#####", ".#"}, 2, 2},
		{"two holes, ten tilings", []string{"#####", "#.###", "###.#", "#####"}, 10, 3},
		{"a hole and 27 tilings", []string{"#####", "#####", "##.##", "####"}, 27, 2},
		{"a wide ring", []string{"#####", "#####", "##.##", "#####", "#####"}, 196, 3},
	}
}

func TestCountFlipParts(t *testing.T) {
	for _, c := range slices.Concat(floorsInOnePart(), floorsInParts()) {
		r := regionOf(c.lines)
		if got := impl.CountFlipParts(r); got != c.parts {
			t.Errorf("%s: CountFlipParts of %q is %d, want %d", c.name, c.lines, got, c.parts)
		}
		if got := waysToTile(bitsOf(c.lines)); got != c.tilings {
			t.Errorf("%s: there are %d tilings of %q, want %d", c.name, got, c.lines, c.tilings)
		}
	}
}

func TestWaysOfFloors(t *testing.T) {
	var floors [][]string
	for _, c := range slices.Concat(tileableFloors(), untileableFloors()) {
		if c.want < 2000 {
			floors = append(floors, c.lines)
		}
	}
	for _, c := range listedFloors() {
		floors = append(floors, c.lines)
	}
	for _, c := range slices.Concat(floorsInOnePart(), floorsInParts()) {
		floors = append(floors, c.lines)
	}
	for _, lines := range floors {
		for _, r := range allTurns(regionOf(lines)) {
			// The turns of a floor with many tilings take long, and show no more than the floor itself.
			if table := checkWays(t, r); len(table.tilings) > 60 {
				break
			}
		}
	}
	for _, c := range allFloorCases() {
		if impl.CountTilings(regionOf(c.lines)) < 2000 {
			checkWays(t, regionOf(c.lines))
		}
	}
	for width := 1; width <= 8; width++ {
		for height := 1; height <= 8; height++ {
			if rectangleCounts()[height-1][width-1] < 2000 {
				checkWays(t, impl.Rectangle(width, height))
			}
		}
	}
}

func TestWaysOfAllWindows(t *testing.T) {
	inParts := 0
	for pattern := range 1 << 12 {
		table := checkWays(t, windowRegion(0, 0, pattern, false))
		if table.countParts() > 1 {
			inParts++
		}
		checkWays(t, windowRegion(4, 5, pattern, false))
	}
	// Of the floors in a window of 4 times 3 cells, only rings have several parts.
	if inParts == 0 {
		t.Error("no floor has several parts")
	}
}

func TestWaysOfMixedRegions(t *testing.T) {
	regions := tiledRegions(60)
	for _, share := range []uint32{9, 13, 14, 15} {
		regions = append(regions, mixedRegions(80, share)...)
	}
	long, inParts, holesInOnePart := 0, 0, 0
	for _, r := range regions {
		if impl.CountTilings(r) > 2000 {
			continue
		}
		table := checkWays(t, r)
		switch parts := table.countParts(); {
		case len(table.tilings) > 300:
			long++
		case parts > 1:
			inParts++
		case parts == 1 && impl.CountHoles(r) > 0 && len(table.tilings) > 1:
			holesInOnePart++
		}
	}
	if long < 5 || inParts < 10 || holesInOnePart < 10 {
		t.Errorf("only %d regions have more than 300 tilings, %d have several parts, and %d have holes and one part", long, inParts, holesInOnePart)
	}
}

func TestWaysNearTheLimit(t *testing.T) {
	for _, c := range nearLimit() {
		table := checkWays(t, regionOf(c.lines))
		if len(table.tilings) != c.want {
			t.Errorf("%s: there are %d tilings of %q", c.name, len(table.tilings), c.lines)
		}
		if got := impl.CountFlipParts(regionOf(c.lines)); (got == 0) != (c.want > 300) {
			t.Errorf("%s: CountFlipParts of %q is %d", c.name, c.lines, got)
		}
	}
}

func TestWaysOfRegionsWithMoreThanMaxListTilings(t *testing.T) {
	regions := []impl.Region{
		impl.Rectangle(8, 8),
		impl.Rectangle(6, 6),
		impl.Rectangle(8, 4),
		regionOf(append(append([]string{fullLine, fullLine}, linesOf("##....##", 4)...), fullLine, fullLine)),
		regionOf([]string{"...##...", "..####..", ".######.", fullLine, fullLine, ".######.", "..####..", "...##..."}),
	}
	for _, r := range regions {
		first, _ := impl.FirstTiling(r)
		next, ok := impl.FlipAt(first, impl.FlipsOf(first)[0])
		if !ok || !impl.IsTiling(r, next) {
			t.Fatalf("a flip of the first tiling of %v is %v and %v", r.Rows, next, ok)
		}
		checkNoWays(t, r, [][]impl.Domino{first, next, nil})
		checkParts(t, r, 0)
	}
}

func TestFlipsLeadToAllTilingsOfRegionsWithoutHoles(t *testing.T) {
	regions := append(tiledRegions(80), impl.Rectangle(4, 4), impl.Rectangle(3, 6), impl.Rectangle(8, 2))
	for _, share := range []uint32{12, 13, 14} {
		regions = append(regions, mixedRegions(400, share)...)
	}
	for _, c := range slices.Concat(tileableFloors(), nearLimit()) {
		regions = append(regions, regionOf(c.lines))
	}
	for _, c := range floorsInOnePart() {
		regions = append(regions, regionOf(c.lines))
	}
	ways := 0
	for _, r := range regions {
		tilings := impl.ListTilings(r)
		if impl.CountHoles(r) > 0 || len(tilings) == 0 {
			continue
		}
		checkParts(t, r, 1)
		step := 1 + len(tilings)/4
		for i := 0; i < len(tilings); i += step {
			for j := len(tilings) - 1; j >= 0; j -= step {
				way, ok := impl.FlipWay(r, tilings[i], tilings[j])
				if last, done := impl.FlipAll(tilings[i], way); !ok || !done || !slices.Equal(last, tilings[j]) {
					t.Errorf("FlipWay in %v from %v to %v is %v and %v", r.Rows, tilings[i], tilings[j], way, ok)
				}
				ways++
			}
		}
	}
	if ways < 1000 {
		t.Errorf("there are only %d ways", ways)
	}
}

// firstWayByTrying returns the first list of n cells, in order, at which flips lead from a tiling to another one, by trying out all cells.
func firstWayByTrying(from, to []impl.Domino, n int) ([]impl.Cell, bool) {
	if n == 0 {
		return nil, slices.Equal(from, to)
	}
	for _, c := range validCells() {
		if next, ok := wantedFlip(from, c); ok {
			if way, isWay := firstWayByTrying(next, to, n-1); isWay {
				return append([]impl.Cell{c}, way...), true
			}
		}
	}
	return nil, false
}

func TestWaysByTryingAllCells(t *testing.T) {
	floors := [][]string{
		linesOf("##", 2), linesOf("##", 3), linesOf("###", 2), linesOf("####", 2), linesOf("##", 5),
		linesOf("##.##", 2), {"......##", "......##", "##", "##"}, {".##.", "####", "####", ".##."},
		{"###.##", "#.#.##", "###"}, {"####", "##.##", "####"}, {"#####", "#.###", "#####"}, {"#####", "#.###", "##.##", ".###"},
	}
	longest := 0
	for _, lines := range floors {
		r, tilings := regionOf(lines), wantedList(lines)
		for _, from := range tilings {
			for _, to := range tilings {
				distance := impl.FlipDistance(r, from, to)
				longest = max(longest, distance)
				// Without a way, no number of cells up to the greatest one that others need leads there.
				for n := range 5 {
					want, ok := firstWayByTrying(from, to, n)
					if ok && (distance < 0 || distance > n) {
						t.Fatalf("FlipDistance in %q from %v to %v is %d, but %v leads there", lines, from, to, distance, want)
					}
					if n == distance {
						checkWay(t, r, from, to, want, ok)
						break
					}
				}
			}
		}
	}
	if longest < 4 {
		t.Errorf("the longest way has only %d cells", longest)
	}
}

func TestFlipDistancesAreDistances(t *testing.T) {
	for _, lines := range [][]string{linesOf("####", 4), linesOf("#######", 2), {"####", "##.##", "####", "####"}, {"#####", "#.###", "#####", "###"}, {"#####", "###.#", "#.###", "###"}} {
		r, tilings := regionOf(lines), wantedList(lines)
		distances := make([][]int, len(tilings))
		for i, a := range tilings {
			near := impl.FlipNeighbors(r, a)
			for j, b := range tilings {
				distance := impl.FlipDistance(r, a, b)
				if (distance == 0) != (i == j) || (distance == 1) != slices.Contains(near, j) || distance < -1 {
					t.Errorf("FlipDistance in %q from %v to %v is %d, and the neighbors are %v", lines, a, b, distance, near)
				}
				distances[i] = append(distances[i], distance)
			}
		}
		for i, row := range distances {
			for j, distance := range row {
				if distance != distances[j][i] {
					t.Errorf("FlipDistance in %q is %d, and %d in the other direction", lines, distance, distances[j][i])
				}
				for k, rest := range distances[j] {
					if distance >= 0 && rest >= 0 && (row[k] < 0 || row[k] > distance+rest) {
						t.Errorf("FlipDistance in %q is %d, though %d and %d flips lead there", lines, row[k], distance, rest)
					}
				}
			}
		}
	}
}

// noTilingsOf returns lists that are not in the list of the tilings of a floor, made of one of them.
func noTilingsOf(lines []string, tiling []impl.Domino) [][]impl.Domino {
	backwards := slices.Clone(tiling)
	slices.Reverse(backwards)
	last := len(tiling) - 1
	lists := [][]impl.Domino{
		nil,
		{},
		backwards,
		tiling[:last],
		tiling[1:],
		append(slices.Clone(tiling), tiling[last]),
		append(slices.Clone(tiling), across(7, 0)),
		append(slices.Clone(tiling), down(0, 6)),
		append([]impl.Domino{down(-1, -1)}, tiling...),
		append([]impl.Domino{tiling[0]}, tiling...),
		append([]impl.Domino{tiling[last]}, tiling[:last]...),
		dominoesOn(lines),
		allDominoes(),
		invalidDominoes(),
	}
	for i, d := range tiling {
		d.Down = !d.Down
		lists = append(lists, slices.Replace(slices.Clone(tiling), i, i+1, d))
	}
	// Tilings of other floors: moved to the right and down, and of the full board.
	var moved []impl.Domino
	for _, d := range tiling {
		moved = append(moved, impl.Domino{X: d.X + 1, Y: d.Y + 1, Down: d.Down})
	}
	rows, columns := rowsAndColumns(8, 8)
	return append(lists, moved, rows, columns)
}

func TestWaysOfListsThatAreNoTilings(t *testing.T) {
	floors := [][]string{linesOf("##", 2), linesOf("##", 3), linesOf("###", 2), linesOf("####", 4), linesOf("##.##", 2), {"###", "#.#", "###"}, {"####", "##.##", "####"}, {".##.", "####", "####", ".##."}}
	for _, lines := range floors {
		r, tilings := regionOf(lines), wantedList(lines)
		for i := 0; i < len(tilings); i += 1 + len(tilings)/4 {
			wrong := noTilingsOf(lines, tilings[i])
			checkNoWays(t, r, wrong)
			for _, list := range wrong {
				for _, j := range []int{0, i, len(tilings) - 1} {
					checkWay(t, r, tilings[j], list, nil, false)
					checkWay(t, r, list, tilings[j], nil, false)
				}
			}
		}
	}
}

func TestWaysOfTilingsInAnotherOrder(t *testing.T) {
	lines := []string{"####", "#..#", "####"}
	r, square := regionOf(lines), impl.Rectangle(2, 2)
	for _, tiling := range wantedList(lines) {
		for _, order := range permutations(tiling) {
			if slices.Equal(order, tiling) {
				checkNeighbors(t, r, order, nil)
				checkWay(t, r, order, tiling, nil, true)
				continue
			}
			checkNoWays(t, r, [][]impl.Domino{order})
			checkWay(t, r, order, tiling, nil, false)
			checkWay(t, r, tiling, order, nil, false)
		}
	}
	rows, columns := []impl.Domino{across(0, 0), across(0, 1)}, []impl.Domino{down(0, 0), down(1, 0)}
	checkWay(t, square, rows, columns, []impl.Cell{{X: 0, Y: 0}}, true)
	for _, other := range [][]impl.Domino{{across(0, 1), across(0, 0)}, {down(1, 0), down(0, 0)}} {
		// The same flip is possible in these lists, but they are not sorted.
		checkNoWays(t, square, [][]impl.Domino{other})
		checkWay(t, square, other, rows, nil, false)
		checkWay(t, square, other, columns, nil, false)
		checkWay(t, square, rows, other, nil, false)
		checkWay(t, square, columns, other, nil, false)
	}
}

func TestWaysOfTilingsOfAnotherRegion(t *testing.T) {
	floors := [][]string{nil, {"##"}, {"#", "#"}, linesOf("##", 2), linesOf("##", 3), linesOf("###", 2), linesOf("####", 2), {"###", "#.#", "###"}, {"", "##", "##"}, {".##", ".##"}}
	for i, lines := range floors {
		r, tilings := regionOf(lines), wantedList(lines)
		for j, other := range floors {
			if i == j {
				continue
			}
			for _, list := range wantedList(other) {
				checkNoWays(t, r, [][]impl.Domino{list})
				checkWay(t, r, tilings[0], list, nil, false)
				checkWay(t, r, list, tilings[0], nil, false)
			}
		}
	}
}

func TestWaysOfRegionsWithoutCells(t *testing.T) {
	for _, r := range emptyRegions() {
		for _, none := range [][]impl.Domino{nil, {}, allDominoes()[:0]} {
			checkNeighbors(t, r, none, nil)
			checkWay(t, r, none, nil, nil, true)
			checkWay(t, r, none, []impl.Domino{}, nil, true)
			checkWay(t, r, none, []impl.Domino{across(0, 0)}, nil, false)
			checkWay(t, r, []impl.Domino{across(7, 0)}, none, nil, false)
		}
		checkNoWays(t, r, [][]impl.Domino{{across(0, 0)}, {{}}, invalidDominoes()})
		checkParts(t, r, 1)
	}
}

func TestWaysOfRegionsWithoutTilings(t *testing.T) {
	for _, c := range untileableFloors() {
		for _, r := range allTurns(regionOf(c.lines)) {
			checkNoWays(t, r, append(listsToKeep(), dominoesOn(c.lines), impl.MatchRegion(r)))
			checkParts(t, r, 0)
		}
	}
}

func TestWaysRejectInvalidRegions(t *testing.T) {
	lists := append(listsToKeep(), []impl.Domino{down(0, 0), down(1, 0)}, []impl.Domino{across(0, 0), across(0, 1), across(0, 2), across(0, 3), across(0, 4), across(0, 5), across(0, 6)})
	for _, r := range invalidRegions() {
		checkNoWays(t, r, lists)
		checkParts(t, r, 0)
	}
}

func TestWaysWithMissingRows(t *testing.T) {
	for _, c := range slices.Concat(floorsInOnePart(), floorsInParts()) {
		short := regionOf(c.lines)
		full := impl.Region{Rows: append(slices.Clone(short.Rows), make([]int, 8-len(short.Rows))...)}
		tilings := wantedList(c.lines)
		first, last := tilings[0], tilings[len(tilings)-1]
		checkParts(t, full, c.parts)
		way, ok := impl.FlipWay(short, first, last)
		checkWay(t, full, first, last, way, ok)
		checkNeighbors(t, full, last, impl.FlipNeighbors(short, last))
	}
}

func TestWayFunctionsLeaveArguments(t *testing.T) {
	regions := append(invalidRegions(), emptyRegions()...)
	for _, c := range slices.Concat(floorsInOnePart(), floorsInParts()[:8]) {
		regions = append(regions, regionOf(c.lines))
	}
	for _, from := range regions {
		r, rowMemory := withSpare(from.Rows)
		rowsBefore := slices.Clone(rowMemory)
		lists := listsToKeep()[:5]
		if tilings := impl.ListTilings(from); len(tilings) > 0 {
			lists = append(lists, tilings[0], tilings[len(tilings)-1])
		}
		for _, one := range lists {
			for _, other := range lists {
				a, memory := listWithSpare(one)
				b, otherMemory := listWithSpare(other)
				before, otherBefore := slices.Clone(memory), slices.Clone(otherMemory)
				overwriteNumbers(impl.FlipNeighbors(r, a))
				impl.FlipDistance(r, a, b)
				way, _ := impl.FlipWay(r, a, b)
				overwriteCells(way)
				if !slices.Equal(memory, before) || !slices.Equal(otherMemory, otherBefore) {
					t.Errorf("the arguments %v and %v became %v and %v", before, otherBefore, memory, otherMemory)
				}
			}
		}
		impl.CountFlipParts(r)
		if !slices.Equal(rowMemory, rowsBefore) {
			t.Errorf("the rows %v became %v", rowsBefore, rowMemory)
		}
	}
}

// overwriteNumbers changes everything in the memory of a list of numbers, behind them as well.
func overwriteNumbers(list []int) {
	for i := range list[:cap(list)] {
		list[:cap(list)][i] = -9
	}
}

func TestWayFunctionsReturnNewMemory(t *testing.T) {
	for _, c := range slices.Concat(floorsInOnePart(), floorsInParts()) {
		tilings := wantedList(c.lines)
		last := tilings[len(tilings)-1]
		r, _ := withSpare(regionOf(c.lines).Rows)
		a, memory := listWithSpare(tilings[0])
		b, otherMemory := listWithSpare(last)
		neighbors, again := impl.FlipNeighbors(r, a), impl.FlipNeighbors(r, a)
		way, _ := impl.FlipWay(r, a, b)
		second, _ := impl.FlipWay(r, a, b)
		wantNeighbors, wantWay := slices.Clone(neighbors), slices.Clone(way)
		overwriteNumbers(neighbors)
		overwriteCells(way)
		overwrite(r)
		overwriteDominoes(memory)
		overwriteDominoes(otherMemory)
		if !slices.Equal(again, wantNeighbors) || !slices.Equal(second, wantWay) {
			t.Errorf("%s: a changed argument or other result changes %v and %v", c.name, again, second)
		}
		checkNeighbors(t, regionOf(c.lines), tilings[0], wantNeighbors)
		if third, _ := impl.FlipWay(regionOf(c.lines), tilings[0], last); !slices.Equal(third, wantWay) {
			t.Errorf("%s: a changed result changes the later way %v", c.name, third)
		}
	}
}

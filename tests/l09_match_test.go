package tests

import (
	"math/bits"
	"slices"
	"strings"
	"testing"

	"loop.example/g03300/impl"
)

// greatestOver returns the greatest number of dominoes that lie on the cells, by trying out what lies on the first one; known has what was found before.
func greatestOver(cells uint64, known map[uint64]int) int {
	if cells == 0 {
		return 0
	}
	if most, ok := known[cells]; ok {
		return most
	}
	first := bits.TrailingZeros64(cells)
	rest := cells &^ (1 << first)
	most := greatestOver(rest, known)
	if right := first + 1; right%8 != 0 && rest&(1<<right) != 0 {
		most = max(most, 1+greatestOver(rest&^(1<<right), known))
	}
	if below := first + 8; below < 64 && rest&(1<<below) != 0 {
		most = max(most, 1+greatestOver(rest&^(1<<below), known))
	}
	known[cells] = most
	return most
}

// neighborsShown returns the cells of the lines beside a valid cell, row by row.
func neighborsShown(lines []string, c impl.Cell) []impl.Cell {
	var cells []impl.Cell
	for _, n := range [...]impl.Cell{{X: c.X, Y: c.Y - 1}, {X: c.X - 1, Y: c.Y}, {X: c.X + 1, Y: c.Y}, {X: c.X, Y: c.Y + 1}} {
		if n.X >= 0 && n.Y >= 0 && shows(lines, n) {
			cells = append(cells, n)
		}
	}
	return cells
}

// findPlace looks for a white cell for a black one, as the document says it, and reports whether there is one; blackOf has the black cells of the covered white ones.
func findPlace(lines []string, black impl.Cell, blackOf map[impl.Cell]impl.Cell, tried map[impl.Cell]bool) bool {
	for _, white := range neighborsShown(lines, black) {
		if tried[white] {
			continue
		}
		tried[white] = true
		if other, ok := blackOf[white]; !ok || findPlace(lines, other, blackOf, tried) {
			blackOf[white] = black
			return true
		}
	}
	return false
}

// wantedMatch returns the list that MatchRegion has to build.
func wantedMatch(lines []string) []impl.Domino {
	blackOf, colors := map[impl.Cell]impl.Cell{}, board()
	for _, c := range cellsShown(lines) {
		if colors[c.Y][c.X] == '#' {
			findPlace(lines, c, blackOf, map[impl.Cell]bool{})
		}
	}
	return slices.DeleteFunc(allDominoes(), func(d impl.Domino) bool {
		under := shownUnder(d)
		first, isFirstWhite := blackOf[under[0]]
		second, isSecondWhite := blackOf[under[1]]
		return !(isFirstWhite && first == under[1]) && !(isSecondWhite && second == under[0])
	})
}

// hasPlace reports whether two cells of the lines that no domino of list covers have a side in common.
func hasPlace(lines []string, list []impl.Domino) bool {
	uncovered := shownUncovered(lines, list)
	for _, c := range uncovered {
		for _, n := range neighborsShown(lines, c) {
			if slices.Contains(uncovered, n) {
				return true
			}
		}
	}
	return false
}

// checkExtend compares CanExtend and IsMostPartial with what is wanted of a list.
func checkExtend(t *testing.T, r impl.Region, list []impl.Domino, extend, most bool) {
	t.Helper()
	if got := impl.CanExtend(r, list); got != extend {
		t.Errorf("CanExtend of %v and %v is %v, want %v", r.Rows, list, got, extend)
	}
	if got := impl.IsMostPartial(r, list); got != most {
		t.Errorf("IsMostPartial of %v and %v is %v, want %v", r.Rows, list, got, most)
	}
}

// checkMatch compares MostDominoes and MatchRegion of a region with what is wanted, and then CanExtend and IsMostPartial of that list and of shorter ones.
func checkMatch(t *testing.T, r impl.Region) {
	t.Helper()
	lines := impl.RegionText(r)
	most, want := greatestOver(bitsOf(lines), map[uint64]int{}), wantedMatch(lines)
	if got := impl.MostDominoes(r); got != most {
		t.Errorf("MostDominoes of %v is %d, want %d", r.Rows, got, most)
	}
	list := impl.MatchRegion(r)
	if !slices.Equal(list, want) {
		t.Errorf("MatchRegion of %v is %v, want %v", r.Rows, list, want)
	}
	if len(list) != most || !impl.IsPartial(r, list) {
		t.Errorf("MatchRegion of %v is %v, but %d dominoes fit", r.Rows, list, most)
	}
	checkExtend(t, r, list, false, true)
	for i := range list {
		// Where one domino was, it can be put back.
		checkExtend(t, r, slices.Delete(slices.Clone(list), i, i+1), true, false)
	}
	checkExtend(t, r, nil, most > 0, most == 0)
	if tileable := 2*most == impl.CountCells(r); impl.IsTileable(r) != tileable {
		t.Errorf("%v has %d cells, and %d dominoes fit, but IsTileable is %v", r.Rows, impl.CountCells(r), most, !tileable)
	}
}

// checkTurnedMatches checks a region and the regions that mirrors make of it, which have the same greatest number.
func checkTurnedMatches(t *testing.T, r impl.Region) {
	t.Helper()
	most := impl.MostDominoes(r)
	for _, same := range []impl.Region{r, mirrored(r), upsideDown(r), turned(r), mirrored(upsideDown(r))} {
		checkMatch(t, same)
		if got := impl.MostDominoes(same); got != most {
			t.Errorf("MostDominoes of %v is %d, but that of %v is %d", same.Rows, got, r.Rows, most)
		}
	}
}

// matchCase is a floor and the text of the list that MatchRegion builds.
type matchCase struct {
	name  string
	lines []string
	want  string
}

// floorsWithoutDominoes returns floors on which no domino lies.
func floorsWithoutDominoes() []matchCase {
	return []matchCase{
		{"no cells", []string{}, ""},
		{"rows without cells", linesOf(emptyLine, 8), ""},
		{"a black cell", []string{"#"}, ""},
		{"a white cell", []string{".#"}, ""},
		{"the last cell, which is black", append(linesOf(emptyLine, 7), ".......#"), ""},
		{"the last cell of the first row, which is white", []string{".......#"}, ""},
		{"the first cell of the last row, which is white", append(linesOf(emptyLine, 7), "#"), ""},
		{"several black cells", []string{"#.#.#", "", "#.#.#"}, ""},
		{"several white cells", []string{".#.#.", "", ".#.#."}, ""},
		{"several cells of both colors", []string{"#..#..#", "", "..#..#", "", "#......#"}, ""},
		{"black cells that touch in a corner", []string{"#", ".#"}, ""},
		{"white cells that touch in a corner", []string{".#", "#"}, ""},
		{"white cells that touch in a corner, the other way", []string{".#", "..#"}, ""},
		{"cells in a diagonal", []string{"#", ".#", "..#", "...#", "....#", ".....#", "......#", ".......#"}, ""},
		{"all black cells", board(), ""},
		{"the end of a row and the start of the next one", []string{".......#", "#......."}, ""},
		{"the ends of a row", []string{"#......#"}, ""},
		{"the ends of a column", []string{"#", "", "", "", "", "", "", "#"}, ""},
	}
}

// floorsWithDominoes returns floors on which a few dominoes lie.
func floorsWithDominoes() []matchCase {
	return []matchCase{
		{"two cells across, black first", []string{"##"}, "0,0r"},
		{"two cells across, white first", []string{".##"}, "1,0r"},
		{"two cells down, black first", []string{"#", "#"}, "0,0d"},
		{"two cells down, white first", []string{".#", ".#"}, "1,0d"},
		{"the last two cells of the last row", append(linesOf(emptyLine, 7), "......##"), "6,7r"},
		{"the last two cells of the last column", append(linesOf(emptyLine, 6), ".......#", ".......#"), "7,6d"},
		{"a white cell between two black ones", []string{"###"}, "0,0r"},
		{"a black cell between two white ones", []string{".###"}, "1,0r"},
		{"a black cell below a white one and above one", []string{".#", ".#", ".#"}, "1,0d"},
		{"a black cell beside a white one and above one", []string{"##", "#"}, "0,0r"},
		{"a black cell below a white one and beside one", []string{".#", "##"}, "1,0d"},
		{"a black cell with white ones to the left and below", []string{".##", "..#"}, "1,0r"},
		{"four white cells around a black one", []string{".#", "###", ".#"}, "1,0d"},
		{"four black cells around a white one", []string{"..#", ".###", "..#"}, "2,0d"},
		{"four cells in a row", []string{"####"}, "0,0r 2,0r"},
		{"five cells, black first", []string{"#####"}, "0,0r 2,0r"},
		{"five cells, white first", []string{".#####"}, "1,0r 3,0r"},
		{"a square", []string{"##", "##"}, "0,0d 1,0d"},
		{"a square, white first", []string{".##", ".##"}, "1,0d 2,0d"},
		{"the last square", append(linesOf(emptyLine, 6), "......##", "......##"), "6,6d 7,6d"},
		{"two rows", []string{"###", "###"}, "0,0d 1,0d 2,0d"},
		{"a dead end before the way", linesOf("###", 3), "0,0r 2,0d 0,1d 1,1d"},
		{"a ring", []string{"###", "#.#", "###"}, "0,0d 1,0r 2,1d 0,2r"},
		{"a way of four cells", []string{".###", ".#"}, "1,0d 2,0r"},
		{"a way of six cells", []string{".#####", ".#"}, "1,0d 2,0r 4,0r"},
		{"a way of eight cells to the last column", []string{".#######", ".#"}, "1,0d 2,0r 4,0r 6,0r"},
		{"a dead end of eight cells from the last row", []string{"##", ".#", ".#", ".#", ".#", ".#", ".#", ".#"}, "0,0r 1,1d 1,3d 1,5d"},
		{"a way around a ring and a cell in the hole", []string{"#####", "#...#", "#.#.#", "#...#", "#####"}, "0,0d 1,0r 3,0r 4,1d 0,2d 4,3d 0,4r 2,4r"},
		{"a square of 16 cells", linesOf("####", 4), "0,0d 1,0r 3,0d 1,1d 2,1d 0,2d 3,2d 1,3r"},
		{"cells apart from two dominoes", []string{"#.##..#", "", "..#..##"}, "2,0r 5,2r"},
		{"three pieces", []string{"###.##", "###.##", "", "", "", "", "###.....", "......##"}, "0,0d 1,0d 2,0d 4,0d 5,0d 0,6r 6,7r"},
		{"balanced, with two ends at each of two cells", []string{".#..#", "######"}, "1,0d 4,0d 2,1r"},
		{"balanced, of two odd pieces", []string{"###..###"}, "0,0r 5,0r"},
	}
}

func TestMatchRegion(t *testing.T) {
	for _, c := range slices.Concat(floorsWithoutDominoes(), floorsWithDominoes()) {
		r := regionOf(c.lines)
		if got := impl.TilingText(impl.MatchRegion(r)); got != c.want {
			t.Errorf("%s: MatchRegion of %q has the text %q, want %q", c.name, c.lines, got, c.want)
		}
		if got, want := impl.MostDominoes(r), len(strings.Fields(c.want)); got != want {
			t.Errorf("%s: MostDominoes of %q is %d, want %d", c.name, c.lines, got, want)
		}
		checkTurnedMatches(t, r)
	}
}

func TestMatchesOfRegionsWithoutCells(t *testing.T) {
	for _, r := range emptyRegions() {
		if most, list := impl.MostDominoes(r), impl.MatchRegion(r); most != 0 || len(list) != 0 {
			t.Errorf("MostDominoes and MatchRegion of %v are %d and %v, want no dominoes", r.Rows, most, list)
		}
		for _, none := range [][]impl.Domino{nil, {}} {
			checkExtend(t, r, none, false, true)
		}
		for _, d := range append(allDominoes(), invalidDominoes()...) {
			checkExtend(t, r, []impl.Domino{d}, false, false)
		}
	}
}

func TestMatchesOfSingleCells(t *testing.T) {
	for _, c := range validCells() {
		r, _ := impl.WithCell(impl.Region{}, c, true)
		checkMatch(t, r)
		if got := impl.MostDominoes(r); got != 0 {
			t.Errorf("MostDominoes of the cell %v is %d, want 0", c, got)
		}
		for _, d := range allDominoes() {
			checkExtend(t, r, []impl.Domino{d}, false, false)
		}
	}
}

func TestMatchesOfPairsOfCells(t *testing.T) {
	for _, c := range validCells() {
		for _, other := range validCells() {
			r, _ := impl.WithCell(impl.Region{}, c, true)
			r, _ = impl.WithCell(r, other, true)
			want := 0
			if haveSideInCommon(c, other) {
				want = 1
			}
			if most, list := impl.MostDominoes(r), impl.MatchRegion(r); most != want || len(list) != want {
				t.Errorf("MostDominoes and MatchRegion of %v and %v are %d and %v, want %d dominoes", c, other, most, list, want)
			}
			checkExtend(t, r, nil, want == 1, want == 0)
		}
	}
}

func TestMatchOfTheFullBoard(t *testing.T) {
	r := regionOf(linesOf(fullLine, 8))
	checkTurnedMatches(t, r)
	list := impl.MatchRegion(r)
	if impl.MostDominoes(r) != 32 || len(list) != 32 || !impl.IsTiling(r, list) {
		t.Errorf("MatchRegion of the full board is %v", list)
	}
	want := "0,0d 1,0r 3,0r 5,0r 7,0d 1,1r 3,1r 5,1r 0,2d 1,2r 3,2r 5,2d 6,2d 7,2d 1,3d 2,3r 4,3d 0,4d 2,4r 5,4r 7,4d 1,5r 3,5r 5,5r 0,6d 1,6d 2,6d 3,6d 4,6d 5,6r 7,6d 5,7r"
	if got := impl.TilingText(list); got != want {
		t.Errorf("MatchRegion of the full board has the text %q, want %q", got, want)
	}
}

func TestMatchesOfRectangles(t *testing.T) {
	for width := 1; width <= 8; width++ {
		for height := 1; height <= 8; height++ {
			r := impl.Rectangle(width, height)
			checkTurnedMatches(t, r)
			if got, want := impl.MostDominoes(r), width*height/2; got != want {
				t.Errorf("MostDominoes of %d times %d cells is %d, want %d", width, height, got, want)
			}
		}
	}
}

func TestMatchesOfFloors(t *testing.T) {
	for _, lines := range slices.Concat(shownRegions(), smallFloors()) {
		checkTurnedMatches(t, regionOf(lines))
	}
	for _, c := range allFloorCases() {
		checkTurnedMatches(t, regionOf(c.lines))
	}
	for _, c := range slices.Concat(untileableFloors(), tileableFloors(), nearLimit()) {
		r := regionOf(c.lines)
		checkTurnedMatches(t, r)
		if got, half := impl.MostDominoes(r), impl.CountCells(r)/2; got > half || c.want > 0 && got < half {
			t.Errorf("%s: MostDominoes of %q is %d, but it has %d tilings", c.name, c.lines, got, c.want)
		}
	}
}

func TestMostDominoesOfBalancedFloorsWithoutTilings(t *testing.T) {
	cases := []countCase{
		{"two cells apart", []string{"#..#"}, 0},
		{"two ends at each of two cells", []string{".#..#", "######"}, 3},
		{"two odd pieces", []string{"###..###"}, 2},
		{"one piece of two cannot be tiled", []string{".#..#", "######", "", "##"}, 4},
		{"a cell in the hole", []string{"#####", "#...#", "#.#.#", "#...#", "####"}, 7},
		{"a corner cut off", append([]string{"#.######", ".#######", "##.#.###"}, linesOf(fullLine, 5)...), 29},
	}
	for _, c := range cases {
		r := regionOf(c.lines)
		if !impl.IsBalanced(r) || 2*c.want >= impl.CountCells(r) {
			t.Errorf("%s: %q is not balanced, or tiled by %d dominoes", c.name, c.lines, c.want)
		}
		if got := impl.MostDominoes(r); got != c.want {
			t.Errorf("%s: MostDominoes of %q is %d, want %d", c.name, c.lines, got, c.want)
		}
		checkMatch(t, r)
	}
}

func TestMatchesOfAllWindows(t *testing.T) {
	for pattern := range 1 << 12 {
		for _, r := range []impl.Region{windowRegion(0, 0, pattern, false), windowRegion(4, 5, pattern, false), windowRegion(1, 3, pattern, false)} {
			checkMatch(t, r)
		}
	}
}

func TestMatchesOfMixedRegions(t *testing.T) {
	regions, short := tiledRegions(80), 0
	for _, share := range []uint32{4, 7, 9, 11, 13, 14, 15} {
		regions = append(regions, mixedRegions(80, share)...)
	}
	for _, r := range regions {
		checkTurnedMatches(t, r)
		lines := impl.RegionText(r)
		if excess := excessShown(lines); impl.MostDominoes(r) < (len(cellsShown(lines))-max(excess, -excess))/2 {
			short++
		}
	}
	if short < 100 {
		t.Errorf("on only %d of the regions, cells of both colors stay free", short)
	}
}

func TestNoPartialListOfSmallFloorsIsLonger(t *testing.T) {
	for _, lines := range smallFloors() {
		r, most := regionOf(lines), 0
		lists := sublists(dominoesOn(lines))
		for _, list := range lists {
			if !hasOverlaps(list) {
				most = max(most, len(list))
			}
		}
		if got := impl.MostDominoes(r); got != most {
			t.Errorf("MostDominoes of %q is %d, want %d", lines, got, most)
		}
		for _, list := range lists {
			partial := !hasOverlaps(list)
			checkExtend(t, r, list, partial && hasPlace(lines, list), partial && len(list) == most)
		}
	}
}

func TestPartialListsOfMixedRegions(t *testing.T) {
	stuck := 0
	for i, r := range append(mixedRegions(120, 13), tiledRegions(40)...) {
		lines := impl.RegionText(r)
		most := greatestOver(bitsOf(lines), map[uint64]int{})
		var list []impl.Domino
		for _, d := range mixedDominoes(lines, uint32(i)) {
			longer := inBoardOrder(append(slices.Clone(list), d))
			if hasOverlaps(longer) {
				checkExtend(t, r, longer, false, false)
				continue
			}
			list = longer
			checkExtend(t, r, list, hasPlace(lines, list), len(list) == most)
		}
		if len(list) < most {
			stuck++
		}
		if len(list) > 1 {
			checkExtend(t, r, append(slices.Clone(list[1:]), list[0]), false, false)
		}
	}
	if stuck < 20 {
		t.Errorf("only %d of the lists cannot be extended and are not greatest ones", stuck)
	}
}

func TestCanExtendAndIsMostPartial(t *testing.T) {
	square, row, column := []string{"##", "##"}, []string{"######"}, linesOf("#", 6)
	low := append(linesOf(emptyLine, 6), "......##", "......##")
	cases := []struct {
		name         string
		lines        []string
		list         []impl.Domino
		extend, most bool
	}{
		{"no dominoes", square, nil, true, false},
		{"one domino fewer", square, []impl.Domino{across(0, 0)}, true, false},
		{"one domino fewer, the other one", square, []impl.Domino{across(0, 1)}, true, false},
		{"one domino fewer, down", square, []impl.Domino{down(1, 0)}, true, false},
		{"a greatest list", square, []impl.Domino{across(0, 0), across(0, 1)}, false, true},
		{"another greatest list", square, []impl.Domino{down(0, 0), down(1, 0)}, false, true},
		{"a greatest list in another order", square, []impl.Domino{across(0, 1), across(0, 0)}, false, false},
		{"a greatest list in another order, down", square, []impl.Domino{down(1, 0), down(0, 0)}, false, false},
		{"the same domino twice", square, []impl.Domino{across(0, 0), across(0, 0)}, false, false},
		{"two dominoes that overlap", square, []impl.Domino{across(0, 0), down(0, 0)}, false, false},
		{"a domino outside of the region", square, []impl.Domino{across(0, 0), across(4, 4)}, false, false},
		{"half of a domino outside of the region", square, []impl.Domino{across(1, 0)}, false, false},
		{"a domino that is not valid behind", square, []impl.Domino{across(0, 0), across(7, 1)}, false, false},
		{"a domino that is not valid ahead", square, []impl.Domino{across(-1, 0), across(0, 0)}, false, false},
		{"a domino that is not valid alone", square, []impl.Domino{down(0, 7)}, false, false},
		{"ahead of the others", row, []impl.Domino{across(2, 0), across(4, 0)}, true, false},
		{"between the others", row, []impl.Domino{across(0, 0), across(4, 0)}, true, false},
		{"behind the others", row, []impl.Domino{across(0, 0), across(2, 0)}, true, false},
		{"ahead of the others, down", column, []impl.Domino{down(0, 2), down(0, 4)}, true, false},
		{"between the others, down", column, []impl.Domino{down(0, 0), down(0, 4)}, true, false},
		{"behind the others, down", column, []impl.Domino{down(0, 0), down(0, 2)}, true, false},
		{"behind the others, out of order", row, []impl.Domino{across(2, 0), across(0, 0)}, false, false},
		{"stuck", []string{"####"}, []impl.Domino{across(1, 0)}, false, false},
		{"stuck, down", linesOf("#", 4), []impl.Domino{down(0, 1)}, false, false},
		{"stuck with one domino fewer", row, []impl.Domino{across(1, 0), across(3, 0)}, false, false},
		{"stuck with free cells that touch in a corner", []string{".##", "##."}, []impl.Domino{down(1, 0)}, false, false},
		{"a greatest list with free cells", []string{"###"}, []impl.Domino{across(0, 0)}, false, true},
		{"another greatest list with free cells", []string{"###"}, []impl.Domino{across(1, 0)}, false, true},
		{"a greatest list with free cells of both colors", []string{"###..###"}, []impl.Domino{across(1, 0), across(5, 0)}, false, true},
		{"a cell that stays free", []string{"#####"}, []impl.Domino{across(0, 0), across(3, 0)}, false, true},
		{"free cells in the first column", []string{"#######", "#"}, []impl.Domino{across(1, 0), across(3, 0), across(5, 0)}, true, false},
		{"free cells in the last column and the first one, a row lower", []string{".......#", "#"}, nil, false, true},
		{"the last two cells of the last row", append(linesOf(emptyLine, 7), "......##"), nil, true, false},
		{"the last two cells of the last column", append(linesOf(emptyLine, 6), ".......#", ".......#"), nil, true, false},
		{"the last domino of the last row", low, []impl.Domino{across(6, 6)}, true, false},
		{"the last domino of the last column", low, []impl.Domino{down(6, 6)}, true, false},
		{"the last square", low, []impl.Domino{across(6, 6), across(6, 7)}, false, true},
		{"a piece without dominoes", []string{"##.##"}, []impl.Domino{across(0, 0)}, true, false},
		{"around a hole", []string{"###", "#.#", "###"}, []impl.Domino{across(0, 0), down(2, 0), down(0, 1), across(1, 2)}, false, true},
		{"cells beside a hole", []string{"###", "#.#", "###"}, []impl.Domino{across(1, 0), across(0, 2)}, true, false},
		{"no domino fits", []string{"#.#", ".#"}, nil, false, true},
		{"a domino where none fits", []string{"#.#", ".#"}, []impl.Domino{across(0, 0)}, false, false},
		{"the only domino", square[:1], []impl.Domino{across(0, 0)}, false, true},
	}
	for _, c := range cases {
		r := regionOf(c.lines)
		if got := impl.CanExtend(r, c.list); got != c.extend {
			t.Errorf("%s: CanExtend of %q and %v is %v, want %v", c.name, c.lines, c.list, got, c.extend)
		}
		if got := impl.IsMostPartial(r, c.list); got != c.most {
			t.Errorf("%s: IsMostPartial of %q and %v is %v, want %v", c.name, c.lines, c.list, got, c.most)
		}
	}
}

func TestOnlyTheListInOrderIsAGreatestOne(t *testing.T) {
	r := regionOf([]string{"####", "#..#", "####"})
	list := impl.MatchRegion(r)
	if len(list) != 5 {
		t.Fatalf("MatchRegion of %v is %v, want 5 dominoes", r.Rows, list)
	}
	for _, order := range permutations(list) {
		checkExtend(t, r, order, false, slices.Equal(order, list))
	}
	for _, order := range permutations(list[:4]) {
		checkExtend(t, r, order, slices.Equal(order, list[:4]), false)
	}
}

func TestAllTilingsAreGreatestLists(t *testing.T) {
	for _, c := range tileableFloors() {
		r := regionOf(c.lines)
		for _, tiling := range impl.ListTilings(r) {
			checkExtend(t, r, tiling, false, true)
		}
	}
}

func TestMatchesRejectInvalidRegions(t *testing.T) {
	lists := append(listsToKeep(), nil, []impl.Domino{down(0, 0), down(1, 0)}, invalidDominoes()[:1])
	for _, r := range invalidRegions() {
		if most, list := impl.MostDominoes(r), impl.MatchRegion(r); most != 0 || len(list) != 0 {
			t.Errorf("MostDominoes and MatchRegion of %v, which is not valid, are %d and %v", r.Rows, most, list)
		}
		for _, list := range lists {
			checkExtend(t, r, list, false, false)
		}
	}
}

func TestListsWithInvalidDominoesAreNeitherExtendedNorGreatest(t *testing.T) {
	full, square := regionOf(linesOf(fullLine, 8)), impl.Rectangle(2, 2)
	for _, d := range invalidDominoes() {
		for _, list := range [][]impl.Domino{{d}, {d, across(0, 0)}, {across(0, 0), d}, {across(0, 0), d, across(0, 1)}, {d, across(0, 0), across(0, 1)}} {
			checkExtend(t, full, list, false, false)
			checkExtend(t, square, list, false, false)
		}
		checkExtend(t, impl.Rectangle(1, 1), []impl.Domino{d}, false, false)
		checkExtend(t, impl.Rectangle(3, 1), []impl.Domino{d}, false, false)
	}
}

func TestMatchFunctionsLeaveArguments(t *testing.T) {
	regions := append(invalidRegions(), emptyRegions()...)
	for _, c := range slices.Concat(untileableFloors(), tileableFloors()) {
		regions = append(regions, regionOf(c.lines))
	}
	for _, from := range regions {
		r, rowMemory := withSpare(from.Rows)
		rowsBefore := slices.Clone(rowMemory)
		for _, dominoes := range append(listsToKeep(), impl.MatchRegion(r)) {
			list, memory := listWithSpare(dominoes)
			before := slices.Clone(memory)
			impl.MostDominoes(r)
			impl.MatchRegion(r)
			impl.CanExtend(r, list)
			impl.IsMostPartial(r, list)
			if !slices.Equal(rowMemory, rowsBefore) || !slices.Equal(memory, before) {
				t.Errorf("the arguments %v and %v became %v and %v", rowsBefore, before, rowMemory, memory)
			}
		}
	}
}

func TestMatchRegionReturnsNewMemory(t *testing.T) {
	for _, c := range floorsWithDominoes() {
		r, _ := withSpare(regionOf(c.lines).Rows)
		first, second := impl.MatchRegion(r), impl.MatchRegion(r)
		overwrite(r)
		overwriteDominoes(first)
		// A later call could write the same dominoes again.
		if got := impl.TilingText(second); got != c.want {
			t.Errorf("%s: a changed argument or result changes another result to %q, want %q", c.name, got, c.want)
		}
		if got := impl.TilingText(impl.MatchRegion(regionOf(c.lines))); got != c.want {
			t.Errorf("%s: a changed result changes a later one to %q, want %q", c.name, got, c.want)
		}
	}
}

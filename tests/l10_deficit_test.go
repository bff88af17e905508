package tests

import (
	"math"
	"slices"
	"strconv"
	"strings"
	"testing"

	"loop.example/g03300/impl"
)

// cellsText returns the cells as a text like "0,0 2,0".
func cellsText(cells []impl.Cell) string {
	names := make([]string, len(cells))
	for i, c := range cells {
		names[i] = strconv.Itoa(c.X) + "," + strconv.Itoa(c.Y)
	}
	return strings.Join(names, " ")
}

// blacksShown returns the black cells that the lines show, row by row.
func blacksShown(lines []string) []impl.Cell {
	colors := board()
	return slices.DeleteFunc(cellsShown(lines), func(c impl.Cell) bool {
		return colors[c.Y][c.X] != '#'
	})
}

// aroundShown returns the cells of the lines beside at least one of the cells, row by row.
func aroundShown(lines []string, cells []impl.Cell) []impl.Cell {
	return slices.DeleteFunc(cellsShown(lines), func(c impl.Cell) bool {
		return !slices.ContainsFunc(cells, func(other impl.Cell) bool {
			return haveSideInCommon(c, other)
		})
	})
}

// wantedWitness returns the cells that WitnessOf has to reach: it goes over all black cells of the dominoes until none is new.
func wantedWitness(lines []string) []impl.Cell {
	list, blacks := wantedMatch(lines), blacksShown(lines)
	var reached []impl.Cell
	for _, c := range shownUncovered(lines, list) {
		if slices.Contains(blacks, c) {
			reached = append(reached, c)
		}
	}
	for before := -1; before < len(reached); {
		before = len(reached)
		for _, d := range list {
			under := shownUnder(d)
			black, white := under[0], under[1]
			if !slices.Contains(blacks, black) {
				black, white = white, black
			}
			isBeside := slices.ContainsFunc(reached, func(c impl.Cell) bool { return haveSideInCommon(c, white) })
			if isBeside && !slices.Contains(reached, black) {
				reached = append(reached, black)
			}
		}
	}
	return byIndex(reached)
}

// blacksThatCanStayFree returns the black cells of the lines without which as many dominoes fit: ways lead to just these from the free ones of any greatest list.
func blacksThatCanStayFree(lines []string) []impl.Cell {
	cells, known := bitsOf(lines), map[uint64]int{}
	most := greatestOver(cells, known)
	return slices.DeleteFunc(blacksShown(lines), func(c impl.Cell) bool {
		return greatestOver(cells&^(1<<(8*c.Y+c.X)), known) < most
	})
}

// checkProofs compares IsProofOf with a deficit for numbers of free cells below it, above it and far away.
func checkProofs(t *testing.T, r impl.Region, blacks []impl.Cell, deficit int) {
	t.Helper()
	for _, free := range []int{math.MinInt, -64, -2, -1, 0, 1, 2, deficit - 1, deficit, deficit + 1, 32, 33, 64, math.MaxInt} {
		want := free > 0 && deficit >= free
		if got := impl.IsProofOf(r, blacks, free); got != want {
			t.Errorf("IsProofOf of %v, %v and %d is %v, want %v", r.Rows, blacks, free, got, want)
		}
	}
}

// checkDeficit compares WhiteAround, Deficit and IsProofOf of a set of black cells with what is wanted.
func checkDeficit(t *testing.T, r impl.Region, blacks, around []impl.Cell, deficit int) {
	t.Helper()
	if got := impl.WhiteAround(r, blacks); !slices.Equal(got, around) {
		t.Errorf("WhiteAround of %v and %v is %v, want %v", r.Rows, blacks, got, around)
	}
	if got := impl.Deficit(r, blacks); got != deficit {
		t.Errorf("Deficit of %v and %v is %d, want %d", r.Rows, blacks, got, deficit)
	}
	checkProofs(t, r, blacks, deficit)
}

// checkWitness compares FreeBlacks and WitnessOf of a region with what is wanted, and checks that the witness is a proof.
func checkWitness(t *testing.T, r impl.Region) {
	t.Helper()
	lines := impl.RegionText(r)
	blacks := blacksShown(lines)
	free, want := len(blacks)-greatestOver(bitsOf(lines), map[uint64]int{}), wantedWitness(lines)
	if got := impl.FreeBlacks(r); got != free {
		t.Errorf("FreeBlacks of %v is %d, want %d", r.Rows, got, free)
	}
	if got := impl.WitnessOf(r); !slices.Equal(got, want) {
		t.Errorf("WitnessOf %v is %v, want %v", r.Rows, got, want)
	}
	checkDeficit(t, r, impl.WitnessOf(r), aroundShown(lines, want), free)
	around := aroundShown(lines, blacks)
	checkDeficit(t, r, blacks, around, len(blacks)-len(around))
	if most := impl.MostDominoes(r); len(blacks)-most != free {
		t.Errorf("%v has %d black cells and at most %d dominoes, but FreeBlacks is %d", r.Rows, len(blacks), most, free)
	}
}

// checkTurnedWitnesses checks a region and the regions that mirrors make of it.
func checkTurnedWitnesses(t *testing.T, r impl.Region) {
	t.Helper()
	for _, same := range []impl.Region{r, mirrored(r), upsideDown(r), turned(r), mirrored(upsideDown(r))} {
		checkWitness(t, same)
	}
}

// checkStayFree compares WitnessOf with the black cells that can stay free.
func checkStayFree(t *testing.T, r impl.Region) {
	t.Helper()
	want := blacksThatCanStayFree(impl.RegionText(r))
	if got := impl.WitnessOf(r); !slices.Equal(got, want) {
		t.Errorf("WitnessOf %v is %v, but the black cells that can stay free are %v", r.Rows, got, want)
	}
}

// setsOf returns all sets of the cells.
func setsOf(cells []impl.Cell) [][]impl.Cell {
	sets := [][]impl.Cell{nil}
	for _, c := range cells {
		for _, set := range slices.Clone(sets) {
			sets = append(sets, append(slices.Clone(set), c))
		}
	}
	return sets
}

// checkAllSets checks that as many black cells stay free as the greatest deficit of a set, and that the witness is in all sets that have it.
func checkAllSets(t *testing.T, r impl.Region) {
	t.Helper()
	lines := impl.RegionText(r)
	witness, greatest := impl.WitnessOf(r), 0
	blacks := blacksShown(lines)
	free := len(blacks) - greatestOver(bitsOf(lines), map[uint64]int{})
	for _, set := range setsOf(blacks) {
		around := aroundShown(lines, set)
		deficit := len(set) - len(around)
		checkDeficit(t, r, set, around, deficit)
		greatest = max(greatest, deficit)
		if deficit < free {
			continue
		}
		for _, c := range witness {
			if !slices.Contains(set, c) {
				t.Errorf("the deficit of %v and %v is %d, but %v of the witness is not among them", r.Rows, set, deficit, c)
			}
		}
	}
	if got := impl.FreeBlacks(r); got != greatest || got != free {
		t.Errorf("FreeBlacks of %v is %d, but %d black cells stay free, and the greatest deficit is %d", r.Rows, got, free, greatest)
	}
}

// witnessCase is a floor, its black cells that stay free, the text of its witness and that of the white cells around it.
type witnessCase struct {
	name   string
	lines  []string
	free   int
	want   string
	around string
}

// floorsWithoutWitness returns floors all of whose black cells can be covered.
func floorsWithoutWitness() []witnessCase {
	return []witnessCase{
		{"no cells", []string{}, 0, "", ""},
		{"an empty row", []string{""}, 0, "", ""},
		{"rows without cells", linesOf(emptyLine, 8), 0, "", ""},
		{"a white cell", []string{".#"}, 0, "", ""},
		{"a white cell in the second row", []string{"", "#"}, 0, "", ""},
		{"the last cell of the first row, which is white", []string{".......#"}, 0, "", ""},
		{"the first cell of the last row, which is white", append(linesOf(emptyLine, 7), "#"), 0, "", ""},
		{"white cells that touch in a corner", []string{".#", "#"}, 0, "", ""},
		{"all white cells", append(board()[1:], board()[0]), 0, "", ""},
		{"two cells across", []string{"##"}, 0, "", ""},
		{"two cells down, white first", []string{".#", ".#"}, 0, "", ""},
		{"a square", []string{"##", "##"}, 0, "", ""},
		{"a ring", []string{"###", "#.#", "###"}, 0, "", ""},
		{"the last two cells of the last row", append(linesOf(emptyLine, 7), "......##"), 0, "", ""},
		{"the last two cells of the last column", append(linesOf(emptyLine, 6), ".......#", ".......#"), 0, "", ""},
		{"the full board", linesOf(fullLine, 8), 0, "", ""},
		{"the board without two black corners", append(append([]string{".#######"}, linesOf(fullLine, 6)...), "#######."), 0, "", ""},
		{"a black cell between two white ones", []string{".###"}, 0, "", ""},
		{"four white cells around a black one", []string{".#", "###", ".#"}, 0, "", ""},
		{"one white cell more, in a row", []string{".#######"}, 0, "", ""},
		{"one white cell more, in a square", linesOf(".###", 3), 0, "", ""},
		{"one white cell more, in two holes", []string{"#####", "#.#.#", "#####"}, 0, "", ""},
		{"white cells apart from a domino", []string{"##.#.#"}, 0, "", ""},
		{"a way of three black cells to the last free white one", []string{"#####", "#.....", "", "....#.#"}, 0, "", ""},
	}
}

// floorsWithWitness returns floors with black cells that stay free.
func floorsWithWitness() []witnessCase {
	return []witnessCase{
		{"a black cell", []string{"#"}, 1, "0,0", ""},
		{"a black cell in the second row", []string{"", ".#"}, 1, "1,1", ""},
		{"the last cell, which is black", append(linesOf(emptyLine, 7), ".......#"), 1, "7,7", ""},
		{"several black cells", []string{"#.#.#", "", "#.#.#"}, 6, "0,0 2,0 4,0 0,2 2,2 4,2", ""},
		{"black cells that touch in a corner", []string{"#", ".#"}, 2, "0,0 1,1", ""},
		{"black cells that touch in the other corner", []string{"..#", ".#"}, 2, "2,0 1,1", ""},
		{"black cells in a diagonal", []string{"#", ".#", "..#", "...#", "....#", ".....#", "......#", ".......#"}, 8, "0,0 1,1 2,2 3,3 4,4 5,5 6,6 7,7", ""},
		{"a black cell and a domino that touch in a corner", []string{"#", ".##"}, 1, "0,0", ""},
		{"the ends of a row", []string{"#......#"}, 1, "0,0", ""},
		{"the ends of a column", []string{"#", "", "", "", "", "", "", "#"}, 1, "0,0", ""},
		{"a white cell between two black ones", []string{"###"}, 1, "0,0 2,0", "1,0"},
		{"a white cell above a black one and below one", []string{"#", "#", "#"}, 1, "0,0 0,2", "0,1"},
		{"three black cells around a white one", []string{"###", ".#"}, 2, "0,0 2,0 1,1", "1,0"},
		{"four black cells around a white one", []string{"..#", ".###", "..#"}, 3, "2,0 1,1 3,1 2,2", "2,1"},
		{"a way of three black cells", []string{"#####"}, 1, "0,0 2,0 4,0", "1,0 3,0"},
		{"a way of four black cells", []string{"#######"}, 1, "0,0 2,0 4,0 6,0", "1,0 3,0 5,0"},
		{"a way of four black cells in the last row", append(linesOf(emptyLine, 7), ".#######"), 1, "1,7 3,7 5,7 7,7", "2,7 4,7 6,7"},
		{"a way of four black cells in the last column", append([]string{""}, linesOf(".......#", 7)...), 1, "7,1 7,3 7,5 7,7", "7,2 7,4 7,6"},
		{"a way around corners", []string{"###", "..#", "..#", "..#", "..###"}, 1, "0,0 2,0 2,2 2,4 4,4", "1,0 2,1 2,3 3,4"},
		{"a square of nine cells", linesOf("###", 3), 1, "0,0 2,0 1,1 0,2 2,2", "1,0 0,1 2,1 1,2"},
		{"two holes", []string{".#####", ".#.#.#", ".#####"}, 1, "2,0 4,0 1,1 3,1 5,1 2,2 4,2", "1,0 3,0 5,0 1,2 3,2 5,2"},
		{"a comb", []string{"#.#.#.#", "#######", "#.#.#.#"}, 7, "0,0 2,0 4,0 6,0 1,1 3,1 5,1 0,2 2,2 4,2 6,2", "0,1 2,1 4,1 6,1"},
		{"a cell in a hole", []string{"#####", "#...#", "#.#.#", "#...#", "#####"}, 1, "2,2", ""},
		{"balanced, with a cell in the hole", []string{"#####", "#...#", "#.#.#", "#...#", "####"}, 1, "2,2", ""},
		{"balanced, two cells apart", []string{"#..#"}, 1, "0,0", ""},
		{"balanced, with two ends at each of two cells", []string{".#..#", "######"}, 1, "4,0 5,1", "4,1"},
		{"balanced, of two odd pieces", []string{"###..###"}, 1, "0,0 2,0", "1,0"},
		{"balanced, of two pieces of which one cannot be tiled", []string{".#..#", "######", "", "##"}, 1, "4,0 5,1", "4,1"},
		{"more white cells than black ones", []string{"###..#.#"}, 1, "0,0 2,0", "1,0"},
		{"many more white cells than black ones", []string{"#..#.#.#", "", ".#.#.#.#"}, 1, "0,0", ""},
		{"three pieces", []string{"###...#", "", "###"}, 3, "0,0 2,0 6,0 0,2 2,2", "1,0 1,2"},
		{"a domino and three cells", []string{"##", "", "###"}, 1, "0,2 2,2", "1,2"},
		{"a domino at the end of a way that is not reached", []string{"###", ".#.", ".#."}, 1, "0,0 2,0", "1,0"},
	}
}

func TestWitnessOf(t *testing.T) {
	for _, c := range slices.Concat(floorsWithoutWitness(), floorsWithWitness()) {
		r := regionOf(c.lines)
		if got := impl.FreeBlacks(r); got != c.free {
			t.Errorf("%s: FreeBlacks of %q is %d, want %d", c.name, c.lines, got, c.free)
		}
		witness := impl.WitnessOf(r)
		if got := cellsText(witness); got != c.want {
			t.Errorf("%s: WitnessOf %q has the cells %q, want %q", c.name, c.lines, got, c.want)
		}
		if got := cellsText(impl.WhiteAround(r, witness)); got != c.around {
			t.Errorf("%s: WhiteAround of %q and %q has the cells %q, want %q", c.name, c.lines, c.want, got, c.around)
		}
		if got := impl.Deficit(r, witness); got != c.free {
			t.Errorf("%s: Deficit of %q and %q is %d, want %d", c.name, c.lines, c.want, got, c.free)
		}
		checkTurnedWitnesses(t, r)
	}
}

func TestWitnessesOfRegionsWithoutCells(t *testing.T) {
	for _, r := range emptyRegions() {
		if free, witness := impl.FreeBlacks(r), impl.WitnessOf(r); free != 0 || len(witness) != 0 {
			t.Errorf("FreeBlacks and WitnessOf of %v are %d and %v, want no cells", r.Rows, free, witness)
		}
		for _, none := range [][]impl.Cell{nil, {}} {
			checkDeficit(t, r, none, nil, 0)
		}
		for _, c := range append(validCells(), invalidCells()...) {
			checkDeficit(t, r, []impl.Cell{c}, nil, 0)
		}
	}
}

func TestWitnessesOfSingleCells(t *testing.T) {
	for _, c := range validCells() {
		r, _ := impl.WithCell(impl.Region{}, c, true)
		checkWitness(t, r)
		for _, other := range validCells() {
			deficit := 0
			if other == c && board()[c.Y][c.X] == '#' {
				deficit = 1
			}
			checkDeficit(t, r, []impl.Cell{other}, nil, deficit)
			checkDeficit(t, r, []impl.Cell{other, other}, nil, deficit)
		}
	}
}

func TestWitnessesOfPairsOfCells(t *testing.T) {
	for _, c := range validCells() {
		for _, other := range validCells() {
			r, _ := impl.WithCell(impl.Region{}, c, true)
			r, _ = impl.WithCell(r, other, true)
			want := blacksShown(impl.RegionText(r))
			if haveSideInCommon(c, other) {
				want = nil
			}
			if free, witness := impl.FreeBlacks(r), impl.WitnessOf(r); free != len(want) || !slices.Equal(witness, want) {
				t.Errorf("FreeBlacks and WitnessOf of %v and %v are %d and %v, want %v", c, other, free, witness, want)
			}
		}
	}
}

func TestWhitesAroundEachCellOfTheFullBoard(t *testing.T) {
	r := regionOf(linesOf(fullLine, 8))
	colors := board()
	for _, c := range validCells() {
		if colors[c.Y][c.X] != '#' {
			checkDeficit(t, r, []impl.Cell{c}, nil, 0)
			continue
		}
		around := neighborsShown(linesOf(fullLine, 8), c)
		checkDeficit(t, r, []impl.Cell{c}, around, 1-len(around))
		for _, n := range around {
			without, _ := impl.WithCell(r, n, false)
			fewer := slices.DeleteFunc(slices.Clone(around), func(other impl.Cell) bool { return other == n })
			checkDeficit(t, without, []impl.Cell{c}, fewer, 1-len(fewer))
		}
		without, _ := impl.WithCell(r, c, false)
		checkDeficit(t, without, []impl.Cell{c}, nil, 0)
	}
}

func TestWitnessOfTheFullBoard(t *testing.T) {
	full := linesOf(fullLine, 8)
	r := regionOf(full)
	checkTurnedWitnesses(t, r)
	checkStayFree(t, r)
	blacks := blacksShown(full)
	whites := aroundShown(full, blacks)
	if len(blacks) != 32 || len(whites) != 32 {
		t.Fatalf("the full board has %d black cells and %d white ones", len(blacks), len(whites))
	}
	checkDeficit(t, r, blacks, whites, 0)
	checkDeficit(t, r, blacks[:31], whites, -1)
	checkDeficit(t, regionOf(board()), blacks, nil, 32)
	if free, witness := impl.FreeBlacks(regionOf(board())), impl.WitnessOf(regionOf(board())); free != 32 || !slices.Equal(witness, blacks) {
		t.Errorf("FreeBlacks and WitnessOf of all black cells are %d and %v", free, witness)
	}
	cornersOff := regionOf(append(append([]string{"#######."}, linesOf(fullLine, 6)...), ".#######"))
	checkTurnedWitnesses(t, cornersOff)
	if free, witness := impl.FreeBlacks(cornersOff), impl.WitnessOf(cornersOff); free != 2 || !slices.Equal(witness, blacks) {
		t.Errorf("FreeBlacks and WitnessOf of the board without two white corners are %d and %v, want all black cells", free, witness)
	}
}

func TestNoBlackCellOfTileableFloorsStaysFree(t *testing.T) {
	regions := tiledRegions(80)
	for _, c := range slices.Concat(tileableFloors(), nearLimit()) {
		regions = append(regions, regionOf(c.lines))
	}
	for _, r := range regions {
		if free, witness := impl.FreeBlacks(r), impl.WitnessOf(r); free != 0 || len(witness) != 0 {
			t.Errorf("FreeBlacks and WitnessOf of %v, which can be tiled, are %d and %v", r.Rows, free, witness)
		}
		checkWitness(t, r)
	}
}

func TestWitnessesOfRectangles(t *testing.T) {
	for width := 1; width <= 8; width++ {
		for height := 1; height <= 8; height++ {
			r := impl.Rectangle(width, height)
			checkTurnedWitnesses(t, r)
			if got, want := impl.FreeBlacks(r), width*height%2; got != want {
				t.Errorf("FreeBlacks of %d times %d cells is %d, want %d", width, height, got, want)
			}
			var want []impl.Cell
			if width*height%2 == 1 {
				// All other cells can be tiled, whichever black cell stays free.
				want = blacksShown(impl.RegionText(r))
			}
			if got := impl.WitnessOf(r); !slices.Equal(got, want) {
				t.Errorf("WitnessOf %d times %d cells is %v, want %v", width, height, got, want)
			}
		}
	}
}

func TestWitnessesOfFloors(t *testing.T) {
	for _, lines := range slices.Concat(shownRegions(), smallFloors()) {
		checkTurnedWitnesses(t, regionOf(lines))
		checkStayFree(t, regionOf(lines))
	}
	for _, c := range allFloorCases() {
		checkTurnedWitnesses(t, regionOf(c.lines))
	}
	for _, c := range slices.Concat(floorsWithoutDominoes(), floorsWithDominoes()) {
		checkTurnedWitnesses(t, regionOf(c.lines))
		checkStayFree(t, regionOf(c.lines))
	}
	for _, c := range untileableFloors() {
		r := regionOf(c.lines)
		checkTurnedWitnesses(t, r)
		if impl.FreeBlacks(r)+impl.FreeBlacks(mirrored(r)) == 0 {
			t.Errorf("%s: no cell of %q stays free, neither a black one nor a white one", c.name, c.lines)
		}
	}
}

func TestNoDeficitIsGreater(t *testing.T) {
	for _, c := range slices.Concat(floorsWithoutWitness(), floorsWithWitness()) {
		if len(blacksShown(c.lines)) < 12 {
			checkAllSets(t, regionOf(c.lines))
			checkStayFree(t, regionOf(c.lines))
		}
	}
	for _, lines := range smallFloors() {
		r := regionOf(lines)
		for _, same := range []impl.Region{r, mirrored(r), upsideDown(r), turned(r)} {
			checkAllSets(t, same)
		}
	}
}

func TestNoDeficitOfWindowsIsGreater(t *testing.T) {
	for pattern := range 1 << 12 {
		for _, r := range []impl.Region{windowRegion(0, 0, pattern, false), windowRegion(4, 5, pattern, false), windowRegion(1, 3, pattern, false)} {
			checkWitness(t, r)
			checkStayFree(t, r)
		}
		checkAllSets(t, windowRegion(0, 0, pattern, false))
		if pattern%5 == 0 {
			checkAllSets(t, windowRegion(3, 4, pattern, false))
		}
	}
}

func TestWitnessesOfMixedRegions(t *testing.T) {
	partly, unexpected := 0, 0
	for _, share := range []uint32{4, 7, 9, 11, 13, 14, 15} {
		for i, r := range mixedRegions(80, share) {
			checkTurnedWitnesses(t, r)
			if i%4 == 0 {
				checkStayFree(t, r)
			}
			lines, witness := impl.RegionText(r), impl.WitnessOf(r)
			if len(witness) > impl.FreeBlacks(r)+2 && len(witness)+2 < len(blacksShown(lines)) {
				partly++
			}
			if impl.FreeBlacks(r) > max(0, excessShown(lines)) {
				unexpected++
			}
		}
	}
	if partly < 30 || unexpected < 100 {
		t.Errorf("only %d of the regions have several black cells that are covered, reached and not reached, and only %d have more free black cells than their colors tell", partly, unexpected)
	}
}

func TestDeficitsOfMixedSets(t *testing.T) {
	state := uint32(10)
	for _, r := range append(mixedRegions(100, 11), mixedRegions(100, 14)...) {
		lines := impl.RegionText(r)
		free := impl.FreeBlacks(r)
		for range 12 {
			var set, shuffled []impl.Cell
			for _, c := range blacksShown(lines) {
				state = state*1664525 + 1013904223
				if state>>31 == 0 {
					continue
				}
				set = append(set, c)
				at := int(state>>8) % (len(shuffled) + 1)
				shuffled = slices.Insert(shuffled, at, c)
			}
			around := aroundShown(lines, set)
			deficit := len(set) - len(around)
			checkDeficit(t, r, set, around, deficit)
			checkDeficit(t, r, shuffled, around, deficit)
			checkDeficit(t, r, append(shuffled, set...), around, deficit)
			if deficit > free {
				t.Errorf("the deficit of %v and %v is %d, but FreeBlacks is %d", r.Rows, set, deficit, free)
			}
		}
	}
}

func TestWhiteAroundAndDeficit(t *testing.T) {
	square, row := linesOf("####", 4), []string{"###"}
	low := append(linesOf(emptyLine, 6), "......##", "......##")
	cell := func(x, y int) impl.Cell { return impl.Cell{X: x, Y: y} }
	cases := []struct {
		name    string
		lines   []string
		blacks  []impl.Cell
		around  string
		deficit int
	}{
		{"without cells", square, []impl.Cell{}, "", 0},
		{"a corner", square, []impl.Cell{cell(0, 0)}, "1,0 0,1", -1},
		{"the other corner", square, []impl.Cell{cell(3, 3)}, "3,2 2,3", -1},
		{"at a side", square, []impl.Cell{cell(2, 0)}, "1,0 3,0 2,1", -2},
		{"inside", square, []impl.Cell{cell(2, 2)}, "2,1 1,2 3,2 2,3", -3},
		{"the same cell twice", square, []impl.Cell{cell(2, 2), cell(2, 2)}, "2,1 1,2 3,2 2,3", -3},
		{"the same cell five times", square, slices.Repeat([]impl.Cell{cell(2, 2)}, 5), "2,1 1,2 3,2 2,3", -3},
		{"two cells", square, []impl.Cell{cell(0, 0), cell(1, 1)}, "1,0 0,1 2,1 1,2", -2},
		{"two cells in another order", square, []impl.Cell{cell(1, 1), cell(0, 0)}, "1,0 0,1 2,1 1,2", -2},
		{"two cells, each of them twice", square, []impl.Cell{cell(1, 1), cell(0, 0), cell(0, 0), cell(1, 1)}, "1,0 0,1 2,1 1,2", -2},
		{"two cells apart", square, []impl.Cell{cell(3, 3), cell(0, 0)}, "1,0 0,1 3,2 2,3", -2},
		{"all black cells", square, []impl.Cell{cell(0, 0), cell(2, 0), cell(1, 1), cell(3, 1), cell(0, 2), cell(2, 2), cell(1, 3), cell(3, 3)}, "1,0 3,0 0,1 2,1 1,2 3,2 0,3 2,3", 0},
		{"a white cell alone", square, []impl.Cell{cell(1, 0)}, "", 0},
		{"a white cell behind", square, []impl.Cell{cell(0, 0), cell(1, 0)}, "", 0},
		{"a white cell ahead", square, []impl.Cell{cell(1, 0), cell(0, 0)}, "", 0},
		{"a white cell in between", square, []impl.Cell{cell(0, 0), cell(1, 0), cell(2, 0)}, "", 0},
		{"a black cell outside alone", square, []impl.Cell{cell(4, 4)}, "", 0},
		{"a black cell outside behind", square, []impl.Cell{cell(0, 0), cell(4, 0)}, "", 0},
		{"a black cell outside ahead", square, []impl.Cell{cell(0, 4), cell(0, 0)}, "", 0},
		{"a black cell outside in between", square, []impl.Cell{cell(0, 0), cell(7, 7), cell(2, 0)}, "", 0},
		{"a white cell outside", square, []impl.Cell{cell(0, 0), cell(4, 1)}, "", 0},
		{"a cell that is not valid behind", square, []impl.Cell{cell(0, 0), cell(8, 0)}, "", 0},
		{"a cell that is not valid ahead", square, []impl.Cell{cell(0, 8), cell(0, 0)}, "", 0},
		{"a cell that is not valid alone", square, []impl.Cell{cell(-1, 1)}, "", 0},
		{"a black cell in a hole", []string{"###", "#.#", "###"}, []impl.Cell{cell(0, 0), cell(1, 1)}, "", 0},
		{"black cells around a hole", []string{".###", ".#.#", ".###"}, []impl.Cell{cell(2, 0), cell(1, 1), cell(3, 1), cell(2, 2)}, "1,0 3,0 1,2 3,2", 0},
		{"both ends of a row", row, []impl.Cell{cell(0, 0), cell(2, 0)}, "1,0", 1},
		{"both ends of a row in another order", row, []impl.Cell{cell(2, 0), cell(0, 0)}, "1,0", 1},
		{"both ends of a row, one of them twice", row, []impl.Cell{cell(2, 0), cell(0, 0), cell(2, 0)}, "1,0", 1},
		{"one end of a row", row, []impl.Cell{cell(0, 0)}, "1,0", 0},
		{"one end of a row twice", row, []impl.Cell{cell(2, 0), cell(2, 0)}, "1,0", 0},
		{"a single cell", []string{"#"}, []impl.Cell{cell(0, 0)}, "", 1},
		{"a single cell twice", []string{"#"}, []impl.Cell{cell(0, 0), cell(0, 0)}, "", 1},
		{"two cells that touch in a corner", []string{"#", ".#"}, []impl.Cell{cell(0, 0), cell(1, 1)}, "", 2},
		{"two cells that touch in a corner, one of them three times", []string{"#", ".#"}, []impl.Cell{cell(1, 1), cell(1, 1), cell(0, 0), cell(1, 1)}, "", 2},
		{"all four around a white cell", []string{"..#", ".###", "..#"}, []impl.Cell{cell(2, 2), cell(3, 1), cell(1, 1), cell(2, 0)}, "2,1", 3},
		{"the last cell", low, []impl.Cell{cell(7, 7)}, "7,6 6,7", -1},
		{"the last cell and another one", low, []impl.Cell{cell(7, 7), cell(6, 6)}, "7,6 6,7", 0},
		{"the last cell of the last row alone", append(linesOf(emptyLine, 7), "......##"), []impl.Cell{cell(7, 7)}, "6,7", 0},
		{"the end of a row and the start of the next one", []string{"", ".......#", "#", "#.....##"}, []impl.Cell{cell(7, 1), cell(0, 2)}, "0,3", 1},
		{"the first column and a missing row", []string{"#"}, []impl.Cell{cell(0, 2)}, "", 0},
	}
	for _, c := range cases {
		r := regionOf(c.lines)
		if got := cellsText(impl.WhiteAround(r, c.blacks)); got != c.around {
			t.Errorf("%s: WhiteAround of %q and %v has the cells %q, want %q", c.name, c.lines, c.blacks, got, c.around)
		}
		if got := impl.Deficit(r, c.blacks); got != c.deficit {
			t.Errorf("%s: Deficit of %q and %v is %d, want %d", c.name, c.lines, c.blacks, got, c.deficit)
		}
		checkProofs(t, r, c.blacks, c.deficit)
	}
}

func TestIsProofOf(t *testing.T) {
	r := regionOf([]string{"..#", ".###", "..#", "", "#####"})
	cases := []struct {
		name   string
		blacks []impl.Cell
		free   int
		want   bool
	}{
		{"the greatest number", impl.WitnessOf(r), 4, true},
		{"one less", impl.WitnessOf(r), 3, true},
		{"one more", impl.WitnessOf(r), 5, false},
		{"one", impl.WitnessOf(r), 1, true},
		{"none", impl.WitnessOf(r), 0, false},
		{"a negative number", impl.WitnessOf(r), -1, false},
		{"some black cells", []impl.Cell{{X: 2, Y: 0}, {X: 2, Y: 2}}, 1, true},
		{"some black cells, one more", []impl.Cell{{X: 2, Y: 0}, {X: 2, Y: 2}}, 2, false},
		{"some black cells, none", []impl.Cell{{X: 2, Y: 0}, {X: 2, Y: 2}}, 0, false},
		{"a deficit of 0", []impl.Cell{{X: 2, Y: 0}}, 1, false},
		{"a deficit of 0 and none", []impl.Cell{{X: 2, Y: 0}}, 0, false},
		{"a negative deficit", []impl.Cell{{X: 2, Y: 4}}, 1, false},
		{"a negative deficit and its number", []impl.Cell{{X: 2, Y: 4}}, -1, false},
		{"a negative deficit and none", []impl.Cell{{X: 2, Y: 4}}, 0, false},
		{"no cells", nil, 1, false},
		{"no cells and none", nil, 0, false},
		{"the same cell twice", []impl.Cell{{X: 2, Y: 0}, {X: 2, Y: 0}}, 1, false},
		{"a white cell as well", append(impl.WitnessOf(r), impl.Cell{X: 2, Y: 1}), 1, false},
		{"a black cell outside as well", append(impl.WitnessOf(r), impl.Cell{X: 7, Y: 7}), 1, false},
		{"a cell that is not valid as well", append(impl.WitnessOf(r), impl.Cell{X: 8, Y: 8}), 1, false},
	}
	for _, c := range cases {
		if got := impl.IsProofOf(r, c.blacks, c.free); got != c.want {
			t.Errorf("%s: IsProofOf of %v, %v and %d is %v, want %v", c.name, r.Rows, c.blacks, c.free, got, c.want)
		}
	}
}

// blacksToKeep returns lists of cells of all kinds, many of them valid sets of black cells.
func blacksToKeep() [][]impl.Cell {
	full := blacksShown(linesOf(fullLine, 8))
	return [][]impl.Cell{
		nil,
		{},
		{{X: 0, Y: 0}},
		{{X: 2, Y: 0}, {X: 0, Y: 0}},
		{{X: 2, Y: 0}, {X: 2, Y: 0}, {X: 0, Y: 0}},
		{{X: 1, Y: 0}, {X: 0, Y: 0}},
		{{X: 0, Y: 0}, {X: 8, Y: 8}},
		{{X: -1, Y: -1}, {X: 0, Y: 0}},
		full,
		append(full[16:], full[:20]...),
	}
}

func TestDeficitsOfInvalidRegions(t *testing.T) {
	for _, r := range invalidRegions() {
		if free, witness := impl.FreeBlacks(r), impl.WitnessOf(r); free != 0 || len(witness) != 0 {
			t.Errorf("FreeBlacks and WitnessOf of %v, which is not valid, are %d and %v", r.Rows, free, witness)
		}
		for _, blacks := range blacksToKeep() {
			checkDeficit(t, r, blacks, nil, 0)
		}
	}
}

func TestDeficitsOfInvalidCells(t *testing.T) {
	full, single := regionOf(linesOf(fullLine, 8)), regionOf([]string{"#"})
	first := impl.Cell{}
	for _, c := range invalidCells() {
		for _, blacks := range [][]impl.Cell{{c}, {c, first}, {first, c}, {first, c, first}, {c, c}} {
			checkDeficit(t, full, blacks, nil, 0)
			checkDeficit(t, single, blacks, nil, 0)
		}
	}
}

// cellsWithSpare returns the cells in memory with spare capacity, and all of that memory.
func cellsWithSpare(cells []impl.Cell) ([]impl.Cell, []impl.Cell) {
	memory := append(slices.Clone(cells), impl.Cell{X: 4, Y: 4}, impl.Cell{X: 5, Y: 5}, impl.Cell{X: 1, Y: 2})
	return memory[:len(cells)], memory
}

// overwriteCells changes all cells of a list and what is in the memory behind it.
func overwriteCells(list []impl.Cell) {
	for i := range list[:cap(list)] {
		list[:cap(list)][i] = impl.Cell{X: 7, Y: 6}
	}
}

func TestDeficitFunctionsLeaveArguments(t *testing.T) {
	regions := append(invalidRegions(), emptyRegions()...)
	for _, c := range slices.Concat(floorsWithoutWitness(), floorsWithWitness()) {
		regions = append(regions, regionOf(c.lines))
	}
	for _, from := range regions {
		r, rowMemory := withSpare(from.Rows)
		rowsBefore := slices.Clone(rowMemory)
		for _, cells := range append(blacksToKeep(), impl.WitnessOf(r)) {
			blacks, memory := cellsWithSpare(cells)
			before := slices.Clone(memory)
			overwriteCells(impl.WhiteAround(r, blacks))
			impl.Deficit(r, blacks)
			impl.FreeBlacks(r)
			overwriteCells(impl.WitnessOf(r))
			impl.IsProofOf(r, blacks, 1)
			if !slices.Equal(rowMemory, rowsBefore) || !slices.Equal(memory, before) {
				t.Errorf("the arguments %v and %v became %v and %v", rowsBefore, before, rowMemory, memory)
			}
		}
	}
}

func TestDeficitFunctionsReturnNewMemory(t *testing.T) {
	for _, c := range floorsWithWitness() {
		r, _ := withSpare(regionOf(c.lines).Rows)
		first, second := impl.WitnessOf(r), impl.WitnessOf(r)
		blacks, _ := cellsWithSpare(first)
		around, same := impl.WhiteAround(r, blacks), impl.WhiteAround(r, blacks)
		overwrite(r)
		overwriteCells(first)
		overwriteCells(blacks)
		overwriteCells(around)
		// A later call could write the same cells again.
		if got := cellsText(second); got != c.want {
			t.Errorf("%s: a changed argument or result changes another witness to %q, want %q", c.name, got, c.want)
		}
		if got := cellsText(same); got != c.around {
			t.Errorf("%s: a changed argument or result changes other cells around to %q, want %q", c.name, got, c.around)
		}
		r = regionOf(c.lines)
		if got := cellsText(impl.WitnessOf(r)); got != c.want {
			t.Errorf("%s: a changed result changes a later witness to %q, want %q", c.name, got, c.want)
		}
		if got := cellsText(impl.WhiteAround(r, second)); got != c.around {
			t.Errorf("%s: a changed result changes later cells around to %q, want %q", c.name, got, c.around)
		}
	}
}

package tests

import (
	"math/big"
	"math/bits"
	"slices"
	"testing"

	"loop.example/g03300/impl"
)

// shareTable has the number of tilings of a floor, and for each domino the number of those that contain it.
type shareTable struct {
	tilings int
	with    map[impl.Domino]int
}

// sharesOfList returns the table of a floor with these tilings.
func sharesOfList(tilings [][]impl.Domino) shareTable {
	shares := shareTable{tilings: len(tilings), with: map[impl.Domino]int{}}
	for _, tiling := range tilings {
		for _, d := range tiling {
			shares.with[d]++
		}
	}
	return shares
}

// waysKnown returns in how many ways dominoes cover all of the cells, by trying out what lies on the first one; known has what was found before.
func waysKnown(cells uint64, known map[uint64]int) int {
	if cells == 0 {
		return 1
	}
	if ways, ok := known[cells]; ok {
		return ways
	}
	first, ways := bits.TrailingZeros64(cells), 0
	rest := cells &^ (1 << first)
	if right := first + 1; right%8 != 0 && rest&(1<<right) != 0 {
		ways += waysKnown(rest&^(1<<right), known)
	}
	if below := first + 8; below < 64 && rest&(1<<below) != 0 {
		ways += waysKnown(rest&^(1<<below), known)
	}
	known[cells] = ways
	return ways
}

// sharesShown returns the table of the floor that the lines show, however many tilings there are.
func sharesShown(lines []string) shareTable {
	cells, known := bitsOf(lines), map[uint64]int{}
	shares := shareTable{tilings: waysKnown(cells, known), with: map[impl.Domino]int{}}
	for _, d := range dominoesOn(lines) {
		shares.with[d] = waysKnown(cells&^bitsUnder(d), known)
	}
	return shares
}

// dominoesFrom returns the dominoes that are in at least one tiling and in this number of them, in order.
func (s shareTable) dominoesFrom(least int) []impl.Domino {
	return slices.DeleteFunc(allDominoes(), func(d impl.Domino) bool {
		return s.with[d] == 0 || s.with[d] < least
	})
}

// rowsWithout returns the 8 rows of the lines without the cells of the dominoes.
func rowsWithout(lines []string, list []impl.Domino) []int {
	rows := make([]int, 8)
	for _, c := range shownUncovered(lines, list) {
		rows[c.Y] += 1 << c.X
	}
	return rows
}

// countCovering returns how many of the dominoes cover c.
func countCovering(list []impl.Domino, c impl.Cell) int {
	return countsOver(list)[c]
}

// checkDominoes compares the possible and the forced dominoes and the region that stays free with what is wanted.
func checkDominoes(t *testing.T, r impl.Region, possible, forced []impl.Domino, rows []int) {
	t.Helper()
	if got := impl.PossibleDominoes(r); !slices.Equal(got, possible) {
		t.Errorf("PossibleDominoes of %v is %v, want %v", r.Rows, got, possible)
	}
	if got := impl.ForcedDominoes(r); !slices.Equal(got, forced) {
		t.Errorf("ForcedDominoes of %v is %v, want %v", r.Rows, got, forced)
	}
	if got := impl.FreeRegion(r); !slices.Equal(got.Rows, rows) {
		t.Errorf("FreeRegion of %v is %v, want %v", r.Rows, got.Rows, rows)
	}
}

// checkShare compares ShareOf with what is wanted.
func checkShare(t *testing.T, r impl.Region, d impl.Domino, part, of int) {
	t.Helper()
	if gotPart, gotOf := impl.ShareOf(r, d); gotPart != part || gotOf != of {
		t.Errorf("ShareOf %v and %v is %d and %d, want %d and %d", r.Rows, d, gotPart, gotOf, part, of)
	}
}

// checkOver compares CountOver with what is wanted.
func checkOver(t *testing.T, r impl.Region, c impl.Cell, want int) {
	t.Helper()
	if got := impl.CountOver(r, c); got != want {
		t.Errorf("CountOver %v and %v is %d, want %d", r.Rows, c, got, want)
	}
}

// checkForced compares everything that Chapter 15 says of a valid region with what its tilings tell, and checks the promise; it returns the number of forced dominoes.
func checkForced(t *testing.T, r impl.Region, shares shareTable) int {
	t.Helper()
	lines := impl.RegionText(r)
	possible := shares.dominoesFrom(1)
	if shares.tilings == 0 {
		checkNoForced(t, r)
		return 0
	}
	forced := shares.dominoesFrom(shares.tilings)
	checkDominoes(t, r, possible, forced, rowsWithout(lines, forced))
	for _, d := range allDominoes() {
		part, of := 0, 1
		if with := shares.with[d]; with > 0 {
			share := big.NewRat(int64(with), int64(shares.tilings))
			part, of = int(share.Num().Int64()), int(share.Denom().Int64())
		}
		checkShare(t, r, d, part, of)
	}
	for _, c := range validCells() {
		checkOver(t, r, c, countCovering(possible, c))
	}
	checkRest(t, r)
	return len(forced)
}

// checkNoForced checks that a region has no tilings, as far as Chapter 15 tells.
func checkNoForced(t *testing.T, r impl.Region) {
	t.Helper()
	checkDominoes(t, r, nil, nil, slices.Clone(r.Rows))
	for _, d := range allDominoes() {
		checkShare(t, r, d, 0, 1)
	}
	for _, c := range validCells() {
		checkOver(t, r, c, 0)
	}
}

// checkRest checks the promise of a region with tilings: the region that stays free has as many of them, and nothing is forced there.
func checkRest(t *testing.T, r impl.Region) {
	t.Helper()
	possible, forced, free := impl.PossibleDominoes(r), impl.ForcedDominoes(r), impl.FreeRegion(r)
	if got, want := impl.CountTilings(free), impl.CountTilings(r); got != want {
		t.Errorf("%v stays free of %v, but it has %d tilings, want %d", free.Rows, r.Rows, got, want)
	}
	if len(free.Rows) != 8 {
		t.Errorf("%v stays free of %v, want 8 rows", free.Rows, r.Rows)
	}
	if got := impl.ForcedDominoes(free); len(got) != 0 {
		t.Errorf("%v stays free of %v, but there %v are forced", free.Rows, r.Rows, got)
	}
	if got := impl.FreeRegion(free); !slices.Equal(got.Rows, free.Rows) {
		t.Errorf("%v stays free of %v, but of that %v", free.Rows, r.Rows, got.Rows)
	}
	if got, want := len(impl.CellsOf(free)), len(impl.CellsOf(r))-2*len(forced); got != want {
		t.Errorf("%d cells of %v stay free, want %d", got, r.Rows, want)
	}
	for _, c := range cellsShown(impl.RegionText(r)) {
		over := countCovering(possible, c)
		if isForced := countCovering(forced, c) == 1; isForced != (over == 1) || isForced == impl.HasCell(free, c) || over < 1 {
			t.Errorf("%d possible dominoes of %v cover %v, and the forced ones are %v", over, r.Rows, c, forced)
		}
	}
}

// checkForcedInList checks that all tilings of the list have all forced dominoes and possible ones only, and that without the forced ones they are the tilings of the region that stays free.
func checkForcedInList(t *testing.T, r impl.Region, tilings [][]impl.Domino) {
	t.Helper()
	possible, forced := impl.PossibleDominoes(r), impl.ForcedDominoes(r)
	var rest [][]impl.Domino
	for _, tiling := range tilings {
		for _, d := range forced {
			if !slices.Contains(tiling, d) {
				t.Errorf("%v is forced in %v, but not in %v", d, r.Rows, tiling)
			}
		}
		for _, d := range tiling {
			if !slices.Contains(possible, d) {
				t.Errorf("%v is in %v, but not possible in %v", d, tiling, r.Rows)
			}
		}
		rest = append(rest, slices.DeleteFunc(slices.Clone(tiling), func(d impl.Domino) bool {
			return slices.Contains(forced, d)
		}))
	}
	if got := impl.ListTilings(impl.FreeRegion(r)); len(tilings) <= 300 && !isSameList(got, rest) {
		t.Errorf("the tilings of what stays free of %v are %v, want %v", r.Rows, got, rest)
	}
}

// forcedCase is a floor, the texts of its possible and its forced dominoes, and what stays free.
type forcedCase struct {
	name             string
	lines            []string
	possible, forced string
	free             []string
}

// forcedByHand returns floors with tilings whose forced dominoes were worked out by hand.
func forcedByHand() []forcedCase {
	empty := linesOf("", 8)
	square := "0,0r 0,0d 1,0d 0,1r"
	return []forcedCase{
		{"no cells", nil, "", "", empty},
		{"rows without cells", linesOf("", 3), "", "", empty},
		{"one domino across", []string{"##"}, "0,0r", "0,0r", empty},
		{"one domino down", []string{"#", "#"}, "0,0d", "0,0d", empty},
		{"the last two cells of the first row", []string{"......##"}, "6,0r", "6,0r", empty},
		{"the last two cells of the last column", append(linesOf("", 6), ".......#", ".......#"), "7,6d", "7,6d", empty},
		{"a row", []string{fullLine}, "0,0r 2,0r 4,0r 6,0r", "0,0r 2,0r 4,0r 6,0r", empty},
		{"the last column", linesOf(".......#", 8), "7,0d 7,2d 7,4d 7,6d", "7,0d 7,2d 7,4d 7,6d", empty},
		{"two corners", []string{"###", "#.#", "..#"}, "0,0d 1,0r 2,1d", "0,0d 1,0r 2,1d", empty},
		{"a cross", []string{".##.", "####", ".##."}, "1,0r 0,1r 2,1r 1,2r", "1,0r 0,1r 2,1r 1,2r", empty},
		{"a snake", []string{"###", "..#", "###", "#"}, "0,0r 2,0d 0,2d 1,2r", "0,0r 2,0d 0,2d 1,2r", empty},
		{"a domino down beside a square", []string{".##", "###", "#"}, "1,0r 1,0d 2,0d 0,1d 1,1r", "0,1d", linesOf(".##", 2)},
		{"a square", linesOf("##", 2), square, "", linesOf("##", 2)},
		{"a square and rows without cells", append(linesOf("##", 2), linesOf("", 6)...), square, "", linesOf("##", 2)},
		{"two columns", linesOf("##", 3), "0,0r 0,0d 1,0d 0,1r 0,1d 1,1d 0,2r", "", linesOf("##", 3)},
		{"a ring", []string{"###", "#.#", "###"}, "0,0r 0,0d 1,0r 2,0d 0,1d 2,1d 0,2r 1,2r", "", []string{"###", "#.#", "###"}},
		{"a domino above a square", []string{"#", "#", "##", "##"}, "0,0d 0,2r 0,2d 1,2d 0,3r", "0,0d", []string{"", "", "##", "##"}},
		{"a domino beside a square", []string{"####", "##"}, "0,0r 0,0d 1,0d 2,0r 0,1r", "2,0r", linesOf("##", 2)},
		{"a domino and a square apart", []string{"##.##", "...##"}, "0,0r 3,0r 3,0d 4,0d 3,1r", "0,0r", []string{"...##", "...##"}},
		{"a domino between squares", []string{"##..##", "######"}, "0,0r 0,0d 1,0d 4,0r 4,0d 5,0d 0,1r 2,1r 4,1r", "2,1r", linesOf("##..##", 2)},
		{"a domino in a hole", []string{"######", "#....#", "#.##.#", "#....#", "######"}, "0,0r 0,0d 1,0r 2,0r 3,0r 4,0r 5,0d 0,1d 5,1d 0,2d 2,2r 5,2d 0,3d 5,3d 0,4r 1,4r 2,4r 3,4r 4,4r", "2,2r", []string{"######", "#....#", "#....#", "#....#", "######"}},
	}
}

func TestForcedByHand(t *testing.T) {
	for _, c := range forcedByHand() {
		r := regionOf(c.lines)
		if got := impl.TilingText(impl.PossibleDominoes(r)); got != c.possible {
			t.Errorf("%s: PossibleDominoes of %q is %q, want %q", c.name, c.lines, got, c.possible)
		}
		if got := impl.TilingText(impl.ForcedDominoes(r)); got != c.forced {
			t.Errorf("%s: ForcedDominoes of %q is %q, want %q", c.name, c.lines, got, c.forced)
		}
		if got, want := impl.FreeRegion(r).Rows, rowsWithout(c.free, nil); !slices.Equal(got, want) {
			t.Errorf("%s: FreeRegion of %q is %v, want %v", c.name, c.lines, got, want)
		}
	}
}

func TestForcedOfFloorsByHand(t *testing.T) {
	for _, c := range forcedByHand() {
		for _, r := range allTurns(regionOf(c.lines)) {
			tilings := wantedList(impl.RegionText(r))
			checkForced(t, r, sharesOfList(tilings))
			checkForcedInList(t, r, tilings)
		}
	}
}

func TestForcedOfListedFloors(t *testing.T) {
	var floors [][]string
	for _, c := range listedFloors() {
		floors = append(floors, c.lines)
	}
	for _, c := range slices.Concat(floorsInOnePart(), floorsInParts()) {
		floors = append(floors, c.lines)
	}
	forced, rest := 0, 0
	for _, lines := range append(floors, simpleFloors()...) {
		r, tilings := regionOf(lines), wantedList(lines)
		if checkForced(t, r, sharesOfList(tilings)) > 0 {
			forced++
		} else {
			rest++
		}
		checkForcedInList(t, r, tilings)
	}
	if forced < 15 || rest < 15 {
		t.Errorf("%d floors have forced dominoes, and %d ones have none", forced, rest)
	}
}

func TestForcedOfRegionsNearTheLimit(t *testing.T) {
	more := 0
	for _, c := range nearLimit() {
		r, tilings := regionOf(c.lines), wantedList(c.lines)
		checkForced(t, r, sharesOfList(tilings))
		checkForcedInList(t, r, tilings)
		if c.want > 300 {
			more++
		}
	}
	if more < 10 {
		t.Errorf("only %d floors have more than 300 tilings", more)
	}
}

// withOneTiling returns floors that have just one tiling.
func withOneTiling() [][]string {
	floors := [][]string{
		{"#", "##", ".#"},
		{"..#", "..##", "####", "#"},
		{"#######", "......#"},
		{"#.#.#.#.", "########", ".#.#.#.#"},
		{"##", ".##", "..##", "...##", "....##", ".....##", "......##"},
	}
	for _, c := range tileableFloors() {
		if c.want == 1 {
			floors = append(floors, c.lines)
		}
	}
	return floors
}

func TestForcedOfRegionsWithOneTiling(t *testing.T) {
	for _, lines := range withOneTiling() {
		for _, r := range allTurns(regionOf(lines)) {
			tilings := wantedList(impl.RegionText(r))
			if len(tilings) != 1 {
				t.Fatalf("%q has %d tilings", lines, len(tilings))
			}
			checkDominoes(t, r, tilings[0], tilings[0], make([]int, 8))
			for _, d := range tilings[0] {
				checkShare(t, r, d, 1, 1)
			}
			for _, c := range impl.CellsOf(r) {
				checkOver(t, r, c, 1)
			}
			checkForced(t, r, sharesOfList(tilings))
		}
	}
}

func TestForcedOfRegionsWithoutCells(t *testing.T) {
	for _, r := range emptyRegions() {
		checkForced(t, r, shareTable{tilings: 1})
		checkDominoes(t, r, nil, nil, make([]int, 8))
	}
}

func TestForcedOfRegionsWithoutTilings(t *testing.T) {
	for _, c := range untileableFloors() {
		for _, r := range allTurns(regionOf(c.lines)) {
			// A region without tilings stays as it is, with as many rows.
			for len(r.Rows) <= 8 {
				checkNoForced(t, r)
				r.Rows = append(slices.Clone(r.Rows), 0)
			}
		}
	}
}

func TestForcedOfPiecesWithoutTilings(t *testing.T) {
	// The first piece alone has tilings, and a forced domino.
	for _, lines := range [][]string{{"##.#"}, {"##.###"}, {"##..##.#", "##.", "...#..#"}, {"####.#", "##"}, {"##", "", ".#..#", "######"}} {
		for _, r := range allTurns(regionOf(lines)) {
			checkNoForced(t, r)
		}
	}
}

func TestForcedRejectsInvalidRegions(t *testing.T) {
	for _, r := range invalidRegions() {
		checkNoForced(t, r)
		for _, d := range invalidDominoes()[:20] {
			checkShare(t, r, d, 0, 1)
		}
		for _, c := range invalidCells()[:20] {
			checkOver(t, r, c, 0)
		}
	}
}

func TestFreeRegionOfMissingRows(t *testing.T) {
	for _, c := range []struct {
		lines, free []string
	}{
		{nil, nil},
		{[]string{"##"}, nil},
		{[]string{"##", "##"}, []string{"##", "##"}},
		{[]string{"", "", ".##", ".##"}, []string{"", "", ".##", ".##"}},
		{[]string{"####", "##"}, []string{"##", "##"}},
		{linesOf("##", 7), linesOf("##", 7)},
		{append([]string{"##..##"}, linesOf("##", 6)...), linesOf("##", 7)},
		{linesOf("##", 8), linesOf("##", 8)},
		{append(linesOf("##", 7), "##...##"), linesOf("##", 8)},
	} {
		r, want := regionOf(c.lines), append(regionOf(c.free).Rows, make([]int, 8-len(c.free))...)
		for len(r.Rows) <= 8 {
			if got := impl.FreeRegion(r).Rows; !slices.Equal(got, want) {
				t.Errorf("FreeRegion of %v is %v, want %v", r.Rows, got, want)
			}
			r.Rows = append(r.Rows, 0)
		}
	}
}

func TestForcedOfWindows(t *testing.T) {
	forced, all := 0, 0
	for pattern := range 1 << 12 {
		for _, at := range [][2]int{{0, 0}, {4, 5}} {
			r := windowRegion(at[0], at[1], pattern, false)
			shares := sharesShown(impl.RegionText(r))
			switch count := checkForced(t, r, shares); {
			case shares.tilings > 0 && 2*count == impl.CountCells(r):
				all++
			case count > 0:
				forced++
			}
		}
	}
	if forced < 50 || all < 100 {
		t.Errorf("%d regions have forced dominoes and others, and %d ones have forced ones only", forced, all)
	}
}

func TestForcedOfMixedRegions(t *testing.T) {
	regions := append(tiledRegions(50), grownRegions(15)...)
	for _, share := range []uint32{6, 9, 11, 13, 14, 15} {
		regions = append(regions, mixedRegions(30, share)...)
	}
	forced, many := 0, 0
	for _, r := range regions {
		lines := impl.RegionText(r)
		shares := sharesShown(lines)
		if checkForced(t, r, shares) == 0 {
			continue
		}
		if shares.tilings > 300 {
			many++
		} else {
			checkForcedInList(t, r, wantedList(lines))
		}
		forced++
	}
	if forced < 50 || many < 20 {
		t.Errorf("%d regions have forced dominoes, %d of them more than 300 tilings", forced, many)
	}
}

// possibleByWays returns the dominoes of the lines that are in a tiling, in order, without counting: those of one tiling, and those along ways that alternate between its dominoes and others and lead back to their first cell.
func possibleByWays(lines []string, tiling []impl.Domino) []impl.Domino {
	partner := map[impl.Cell]impl.Cell{}
	for _, d := range tiling {
		under := shownUnder(d)
		partner[under[0]], partner[under[1]] = under[1], under[0]
	}
	return slices.DeleteFunc(dominoesOn(lines), func(d impl.Domino) bool {
		under := shownUnder(d)
		if partner[under[0]] == under[1] {
			return false
		}
		// The way goes over the domino first, and has to come back to the cell where it began.
		reached := []impl.Cell{partner[under[1]]}
		for i := 0; i < len(reached); i++ {
			for _, c := range neighborsShown(lines, reached[i]) {
				if !slices.Contains(reached, partner[c]) {
					reached = append(reached, partner[c])
				}
			}
		}
		return !slices.Contains(reached, under[0])
	})
}

// checkByWays compares the possible and the forced dominoes of a region with tilings with what ways tell.
func checkByWays(t *testing.T, r impl.Region) {
	t.Helper()
	lines := impl.RegionText(r)
	tiling := wantedMatch(lines)
	if 2*len(tiling) != len(cellsShown(lines)) {
		t.Fatalf("%v has no tiling", r.Rows)
	}
	possible := possibleByWays(lines, tiling)
	over := countsOver(possible)
	forced := slices.DeleteFunc(slices.Clone(possible), func(d impl.Domino) bool {
		under := shownUnder(d)
		return over[under[0]] != 1 || over[under[1]] != 1
	})
	checkDominoes(t, r, possible, forced, rowsWithout(lines, forced))
}

func TestPossibleDominoesByWays(t *testing.T) {
	regions := append(tiledRegions(80), grownRegions(30)...)
	for _, c := range slices.Concat(tileableFloors(), nearLimit()) {
		regions = append(regions, regionOf(c.lines))
	}
	for _, r := range regions {
		checkByWays(t, r)
	}
}

// manyTilings returns floors with more than 300 tilings, and what stays free of them.
func manyTilings() [][2][]string {
	lid := linesOf("#......#", 2)
	return [][2][]string{
		{linesOf(fullLine, 8), linesOf(fullLine, 8)},
		{linesOf("######", 6), linesOf("######", 6)},
		{linesOf(fullLine, 4), linesOf(fullLine, 4)},
		{append([]string{"#", "#"}, linesOf(fullLine, 6)...), append([]string{"", ""}, linesOf(fullLine, 6)...)},
		{append([]string{".......#", ".......#"}, linesOf(fullLine, 6)...), append([]string{"", ""}, linesOf(fullLine, 6)...)},
		{append(lid, linesOf(fullLine, 6)...), append([]string{"", ""}, linesOf(fullLine, 6)...)},
		{append(lid, linesOf(".######.", 6)...), append([]string{"", ""}, linesOf(".######.", 6)...)},
		{append(linesOf("######", 5), fullLine), linesOf("######", 6)},
		{append(linesOf("######", 6), "", "##.##.##"), linesOf("######", 6)},
		{append(linesOf("######", 6), "", "###.####"), nil},
	}
}

func TestForcedOfRegionsWithManyTilings(t *testing.T) {
	for _, floor := range manyTilings() {
		for _, r := range allTurns(regionOf(floor[0])) {
			if floor[1] == nil {
				checkNoForced(t, r)
				continue
			}
			if count := impl.CountTilings(r); count <= 300 || len(impl.ListTilings(r)) != 0 {
				t.Errorf("%v has %d tilings", r.Rows, count)
			}
			checkByWays(t, r)
		}
		if floor[1] == nil {
			continue
		}
		r := regionOf(floor[0])
		checkForced(t, r, sharesShown(floor[0]))
		if got, want := impl.FreeRegion(r).Rows, rowsWithout(floor[1], nil); !slices.Equal(got, want) {
			t.Errorf("FreeRegion of %q is %v, want %v", floor[0], got, want)
		}
	}
}

func TestPossibleDominoesOfRectangles(t *testing.T) {
	for height := 1; height <= 8; height++ {
		for width := 1; width <= 8; width++ {
			r := impl.Rectangle(width, height)
			switch {
			case width*height%2 != 0:
				checkDominoes(t, r, nil, nil, slices.Clone(r.Rows))
			case width == 1 || height == 1:
				tiling, _ := impl.FirstTiling(r)
				checkDominoes(t, r, tiling, tiling, make([]int, 8))
			default:
				// With two sides of two cells or more, each domino that fits can be continued to a tiling.
				rows := append(slices.Clone(r.Rows), make([]int, 8-height)...)
				checkDominoes(t, r, dominoesOn(impl.RegionText(r)), nil, rows)
			}
		}
	}
}

func TestShareOf(t *testing.T) {
	full, square, two := linesOf(fullLine, 8), linesOf("##", 2), linesOf("##", 3)
	for _, c := range []struct {
		name     string
		lines    []string
		d        impl.Domino
		part, of int
	}{
		{"forced", []string{"##"}, across(0, 0), 1, 1},
		{"forced, down", []string{"", "#", "#"}, down(0, 1), 1, 1},
		{"forced in a row", []string{fullLine}, across(6, 0), 1, 1},
		{"forced beside two tilings", []string{"####", "##"}, across(2, 0), 1, 1},
		{"forced beside four tilings", []string{"##..##", "######"}, across(2, 1), 1, 1},
		{"forced beside 167089 tilings", append([]string{"#", "#"}, linesOf(fullLine, 6)...), down(0, 0), 1, 1},
		{"one of two", square, across(0, 0), 1, 2},
		{"one of two, down", square, down(1, 0), 1, 2},
		{"two of three", two, across(0, 0), 2, 3},
		{"one of three", two, across(0, 1), 1, 3},
		{"one of three, down", two, down(1, 1), 1, 3},
		{"two of four", []string{"##.##", "##.##"}, down(3, 0), 1, 2},
		{"three of five", linesOf("####", 2), down(0, 0), 3, 5},
		{"two of five", linesOf("####", 2), across(0, 0), 2, 5},
		{"one of five", linesOf("####", 2), across(1, 0), 1, 5},
		{"five of five", append(linesOf("####", 2), "", "##"), across(0, 3), 1, 1},
		{"four of six", []string{"###.##", "###.##"}, down(0, 0), 2, 3},
		{"two of six", []string{"###.##", "###.##"}, across(0, 1), 1, 3},
		{"three of six", []string{"###.##", "###.##"}, across(4, 0), 1, 2},
		{"six of nine", []string{"###.###", "###.###"}, down(6, 0), 2, 3},
		{"six of 36", linesOf("####", 4), across(1, 1), 1, 6},
		{"12 of 36", linesOf("####", 4), across(0, 1), 1, 3},
		{"a half of all", full, across(0, 0), 1, 2},
		{"the last corner of the board", full, down(7, 6), 1, 2},
		{"the middle of the board", full, across(3, 3), 373, 1802},
		{"in no tiling", []string{"####"}, across(1, 0), 0, 1},
		{"in no tiling, down", linesOf("#", 4), down(0, 1), 0, 1},
		{"in no tiling between squares", []string{"##..##", "######"}, across(1, 1), 0, 1},
		{"no tilings", []string{"###"}, across(0, 0), 0, 1},
		{"balanced without tilings", []string{".#..#", "######"}, across(2, 1), 0, 1},
		{"the second cell outside", square, across(1, 0), 0, 1},
		{"the first cell outside", []string{".###", "####"}, across(0, 0), 0, 1},
		{"outside, and the rest can be tiled", []string{"#.##"}, across(0, 0), 0, 1},
		{"both cells outside", square, across(4, 4), 0, 1},
		{"below the last row", square, down(0, 1), 0, 1},
		{"no cells", nil, across(0, 0), 0, 1},
		{"out of the last column", full, across(7, 3), 0, 1},
		{"out of the last row", full, down(3, 7), 0, 1},
		{"into the first column", full, across(-1, 3), 0, 1},
		{"into the first row", full, down(3, -1), 0, 1},
		{"out of the last column into the next row", []string{".......#", "#"}, across(7, 0), 0, 1},
	} {
		if part, of := impl.ShareOf(regionOf(c.lines), c.d); part != c.part || of != c.of {
			t.Errorf("%s: ShareOf %q and %v is %d and %d, want %d and %d", c.name, c.lines, c.d, part, of, c.part, c.of)
		}
	}
}

func TestShareOfInvalidDominoes(t *testing.T) {
	floors := [][]string{nil, {"#"}, {"##"}, {"###"}, {".......#"}, linesOf("##", 2), linesOf(".......#", 7), linesOf(".......#", 8), linesOf(fullLine, 8), append(linesOf("", 7), fullLine)}
	for _, lines := range floors {
		for _, d := range invalidDominoes() {
			checkShare(t, regionOf(lines), d, 0, 1)
		}
	}
}

func TestCountOver(t *testing.T) {
	full, cross := linesOf(fullLine, 8), []string{".##.", "####", ".##."}
	for _, c := range []struct {
		name  string
		lines []string
		cell  impl.Cell
		want  int
	}{
		{"forced", []string{"##"}, impl.Cell{X: 1}, 1},
		{"beside a gap", []string{"##"}, impl.Cell{X: 2}, 0},
		{"below the last row", []string{"##"}, impl.Cell{X: 0, Y: 1}, 0},
		{"a row", []string{"####"}, impl.Cell{X: 1}, 1},
		{"a cross", cross, impl.Cell{X: 1, Y: 1}, 1},
		{"outside of a cross", cross, impl.Cell{X: 0, Y: 0}, 0},
		{"a corner of a square", linesOf("##", 2), impl.Cell{X: 1, Y: 1}, 2},
		{"a side of two columns", linesOf("##", 3), impl.Cell{X: 0, Y: 1}, 3},
		{"between squares", []string{"##..##", "######"}, impl.Cell{X: 2, Y: 1}, 1},
		{"beside a forced domino", []string{"##..##", "######"}, impl.Cell{X: 1, Y: 1}, 2},
		{"a hole", []string{"###", "#.#", "###"}, impl.Cell{X: 1, Y: 1}, 0},
		{"beside a hole", []string{"###", "#.#", "###"}, impl.Cell{X: 1, Y: 0}, 2},
		{"the middle", linesOf("####", 4), impl.Cell{X: 1, Y: 2}, 4},
		{"a corner of the board", full, impl.Cell{X: 0, Y: 0}, 2},
		{"the last corner of the board", full, impl.Cell{X: 7, Y: 7}, 2},
		{"a side of the board", full, impl.Cell{X: 7, Y: 3}, 3},
		{"the middle of the board", full, impl.Cell{X: 3, Y: 4}, 4},
		{"no tilings", linesOf("###", 3), impl.Cell{X: 1, Y: 1}, 0},
		{"a piece of two", []string{"##.#"}, impl.Cell{X: 0, Y: 0}, 0},
		{"balanced without tilings", []string{".#..#", "######"}, impl.Cell{X: 2, Y: 1}, 0},
		{"no cells", nil, impl.Cell{X: 0, Y: 0}, 0},
	} {
		if got := impl.CountOver(regionOf(c.lines), c.cell); got != c.want {
			t.Errorf("%s: CountOver %q and %v is %d, want %d", c.name, c.lines, c.cell, got, c.want)
		}
	}
}

func TestCountOverInvalidCells(t *testing.T) {
	floors := [][]string{nil, {"#"}, {"##"}, linesOf("##", 2), linesOf(".......#", 8), linesOf(fullLine, 8), append(linesOf("", 7), fullLine)}
	for _, lines := range floors {
		for _, c := range invalidCells() {
			checkOver(t, regionOf(lines), c, 0)
		}
	}
}

// regionsToKeep returns regions of all kinds, with and without forced dominoes.
func regionsToKeep() []impl.Region {
	regions := append(invalidRegions(), emptyRegions()...)
	for _, c := range slices.Concat(untileableFloors()[:8], tileableFloors()) {
		regions = append(regions, regionOf(c.lines))
	}
	for _, c := range forcedByHand() {
		regions = append(regions, regionOf(c.lines))
	}
	return regions
}

func TestForcedFunctionsLeaveArguments(t *testing.T) {
	for _, from := range regionsToKeep() {
		r, memory := withSpare(from.Rows)
		before := slices.Clone(memory)
		impl.PossibleDominoes(r)
		impl.ForcedDominoes(r)
		impl.FreeRegion(r)
		impl.ShareOf(r, across(0, 0))
		impl.ShareOf(r, down(7, 7))
		impl.CountOver(r, impl.Cell{X: 0, Y: 0})
		impl.CountOver(r, impl.Cell{X: 9, Y: -1})
		if !slices.Equal(memory, before) {
			t.Errorf("the argument %v became %v", before, memory)
		}
	}
}

func TestForcedResultsAreNewMemory(t *testing.T) {
	for _, from := range regionsToKeep() {
		r, memory := withSpare(from.Rows)
		before := slices.Clone(memory)
		possible, forced, free := impl.PossibleDominoes(r), impl.ForcedDominoes(r), impl.FreeRegion(r)
		wantPossible, wantForced, wantFree := slices.Clone(possible), slices.Clone(forced), slices.Clone(free.Rows)
		overwrite(r)
		if !slices.Equal(possible, wantPossible) || !slices.Equal(forced, wantForced) || !slices.Equal(free.Rows, wantFree) {
			t.Errorf("a changed argument %v changes a result to %v, %v or %v", from.Rows, possible, forced, free.Rows)
		}
		copy(memory, before)
		overwriteDominoes(possible)
		if !slices.Equal(forced, wantForced) {
			t.Errorf("changed possible dominoes of %v change the forced ones to %v", from.Rows, forced)
		}
		overwriteDominoes(forced)
		overwrite(free)
		if !slices.Equal(memory, before) {
			t.Errorf("changed results change the argument %v to %v", from.Rows, memory)
		}
		checkDominoes(t, r, wantPossible, wantForced, wantFree)
	}
}

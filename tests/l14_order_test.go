package tests

import (
	"slices"
	"testing"

	"loop.example/g03300/impl"
)

// checkOrder compares everything that Chapter 14 says of two tilings, in both orders, with what is wanted.
func checkOrder(t *testing.T, r impl.Region, a, b, low, high []impl.Domino, steps int) {
	t.Helper()
	for range 2 {
		if got, ok := impl.LowerOf(r, a, b); !ok || !slices.Equal(got, low) {
			t.Errorf("LowerOf %v, %v and %v is %v and %v, want %v and true", r.Rows, a, b, got, ok, low)
		}
		if got, ok := impl.HigherOf(r, a, b); !ok || !slices.Equal(got, high) {
			t.Errorf("HigherOf %v, %v and %v is %v and %v, want %v and true", r.Rows, a, b, got, ok, high)
		}
		if got, want := impl.IsBelow(r, a, b), slices.Equal(a, low); got != want {
			t.Errorf("IsBelow %v, %v and %v is %v, want %v", r.Rows, a, b, got, want)
		}
		if got := impl.StepsBetween(r, a, b); got != steps {
			t.Errorf("StepsBetween %v, %v and %v is %d, want %d", r.Rows, a, b, got, steps)
		}
		a, b = b, a
	}
}

// checkNoOrder checks that two lists, at least one of which has no heights, have no order.
func checkNoOrder(t *testing.T, r impl.Region, a, b []impl.Domino) {
	t.Helper()
	for range 2 {
		if impl.IsBelow(r, a, b) {
			t.Errorf("IsBelow %v, %v and %v is true", r.Rows, a, b)
		}
		if got, ok := impl.LowerOf(r, a, b); ok || len(got) != 0 {
			t.Errorf("LowerOf %v, %v and %v is %v and %v, want nil and false", r.Rows, a, b, got, ok)
		}
		if got, ok := impl.HigherOf(r, a, b); ok || len(got) != 0 {
			t.Errorf("HigherOf %v, %v and %v is %v and %v, want nil and false", r.Rows, a, b, got, ok)
		}
		if got := impl.StepsBetween(r, a, b); got != -1 {
			t.Errorf("StepsBetween %v, %v and %v is %d, want -1", r.Rows, a, b, got)
		}
		a, b = b, a
	}
}

// checkEnds compares LowestTiling and HighestTiling with the tilings that are wanted.
func checkEnds(t *testing.T, r impl.Region, low, high []impl.Domino) {
	t.Helper()
	if got, ok := impl.LowestTiling(r); !ok || !slices.Equal(got, low) {
		t.Errorf("LowestTiling of %v is %v and %v, want %v and true", r.Rows, got, ok, low)
	}
	if got, ok := impl.HighestTiling(r); !ok || !slices.Equal(got, high) {
		t.Errorf("HighestTiling of %v is %v and %v, want %v and true", r.Rows, got, ok, high)
	}
}

// checkNoEnds checks that the region has no lowest and no highest tiling.
func checkNoEnds(t *testing.T, r impl.Region) {
	t.Helper()
	if got, ok := impl.LowestTiling(r); ok || len(got) != 0 {
		t.Errorf("LowestTiling of %v is %v and %v, want nil and false", r.Rows, got, ok)
	}
	if got, ok := impl.HighestTiling(r); ok || len(got) != 0 {
		t.Errorf("HighestTiling of %v is %v and %v, want nil and false", r.Rows, got, ok)
	}
}

// meeting returns the lesser and the greater ones of the heights, and how many fours lie between them.
func meeting(a, b []int) ([]int, []int, int) {
	low, high, steps := make([]int, len(a)), make([]int, len(a)), 0
	for i := range a {
		low[i], high[i] = min(a[i], b[i]), max(a[i], b[i])
		steps += high[i] - low[i]
	}
	return low, high, steps / 4
}

// orderTable has the tilings of a floor in order, and the heights of each one.
type orderTable struct {
	tilings [][]impl.Domino
	heights [][]int
}

// orderTableOf returns the table of a simple floor.
func orderTableOf(lines []string) orderTable {
	table := orderTable{tilings: wantedList(lines)}
	for _, tiling := range table.tilings {
		table.heights = append(table.heights, wantedHeights(tiling))
	}
	return table
}

// named returns the only tiling with these heights.
func (o orderTable) named(t *testing.T, heights []int) []impl.Domino {
	t.Helper()
	var found [][]impl.Domino
	for i := range o.tilings {
		if slices.Equal(o.heights[i], heights) {
			found = append(found, o.tilings[i])
		}
	}
	if len(found) != 1 {
		t.Fatalf("%d tilings have the heights %v", len(found), heights)
	}
	return found[0]
}

// check compares the order of two tilings with what their heights tell.
func (o orderTable) check(t *testing.T, r impl.Region, i, j int) {
	t.Helper()
	low, high, steps := meeting(o.heights[i], o.heights[j])
	checkOrder(t, r, o.tilings[i], o.tilings[j], o.named(t, low), o.named(t, high), steps)
}

// ends returns the indexes of the tilings with the least and the greatest sum of heights, which no other tiling has.
func (o orderTable) ends(t *testing.T) (int, int) {
	t.Helper()
	sums := make([]int, len(o.tilings))
	for i, heights := range o.heights {
		for _, height := range heights {
			if height != -1000 {
				sums[i] += height
			}
		}
	}
	low, high := slices.Index(sums, slices.Min(sums)), slices.Index(sums, slices.Max(sums))
	for i, sum := range sums {
		if i != low && sum == sums[low] || i != high && sum == sums[high] {
			t.Errorf("%v, %v and %v have the sum %d, %d and %d", o.tilings[i], o.tilings[low], o.tilings[high], sum, sums[low], sums[high])
		}
	}
	return low, high
}

// checkOrderOfAll compares the order of the tilings of a region with what their heights tell, for each step-th pair of tilings, or checks that they have none; it returns how many tilings have an order.
func checkOrderOfAll(t *testing.T, r impl.Region, step int) int {
	t.Helper()
	lines := impl.RegionText(r)
	// The search for tilings that the table makes takes long where there are none.
	if !impl.IsTileable(r) {
		checkNoEnds(t, r)
		return 0
	}
	if !shownSimple(lines) {
		for _, tiling := range wantedList(lines) {
			checkNoOrder(t, r, tiling, tiling)
		}
		checkNoEnds(t, r)
		return 0
	}
	table := orderTableOf(lines)
	count := len(table.tilings)
	for pair := 0; pair < count*count; pair += step {
		// checkOrder goes in both directions.
		if i, j := pair/count, pair%count; i <= j {
			table.check(t, r, i, j)
		}
	}
	if count > 300 {
		checkNoEnds(t, r)
		return count
	}
	low, high := table.ends(t)
	checkEnds(t, r, table.tilings[low], table.tilings[high])
	for i := 0; i < count; i += (step + 1) / 2 {
		if !impl.IsBelow(r, table.tilings[low], table.tilings[i]) || !impl.IsBelow(r, table.tilings[i], table.tilings[high]) {
			t.Errorf("%v does not lie between the lowest and the highest tiling of %q", table.tilings[i], lines)
		}
	}
	return count
}

// orderCase is a floor, the texts of two of its tilings, of the lower and the higher one of them, and the number of flips between them.
type orderCase struct {
	name      string
	lines     []string
	a, b      string
	low, high string
	steps     int
}

// ordersByHand returns pairs of tilings whose order was worked out by hand.
func ordersByHand() []orderCase {
	square, columns, rows, tall := linesOf("##", 2), linesOf("##", 3), linesOf("###", 2), linesOf("##", 4)
	four, great := linesOf("####", 2), linesOf("####", 4)
	inRows, inColumns := "0,0r 0,1r", "0,0d 1,0d"
	twoUp, twoLow := "0,0d 1,0d 0,2r", "0,0r 0,1d 1,1d"
	toLeft, toRight, allDown := "0,0r 2,0d 0,1r", "0,0d 1,0r 1,1r", "0,0d 1,0d 2,0d"
	fourDown, middle := "0,0d 1,0d 2,0d 3,0d", "0,0d 1,0r 3,0d 1,1r"
	left, right, both := "0,0r 2,0d 3,0d 0,1r", "0,0d 1,0d 2,0r 2,1r", "0,0r 2,0r 0,1r 2,1r"
	above, below := "0,0d 1,0d 0,2r 0,3r", "0,0r 0,1r 0,2d 1,2d"
	firstDown, lastDown := "0,0d 1,0d 2,0r 2,1r 0,2r 2,2r 0,3r 2,3r", "0,0r 2,0r 0,1r 2,1r 0,2r 2,2d 3,2d 0,3r"
	bothDown, noneDown := "0,0d 1,0d 2,0r 2,1r 0,2r 2,2d 3,2d 0,3r", "0,0r 2,0r 0,1r 2,1r 0,2r 2,2r 0,3r 2,3r"
	return []orderCase{
		{"one domino", []string{"##"}, "0,0r", "0,0r", "0,0r", "0,0r", 0},
		{"one domino down", linesOf("#", 2), "0,0d", "0,0d", "0,0d", "0,0d", 0},
		{"a step", []string{"##", ".##", "..##"}, "0,0r 1,1r 2,2r", "0,0r 1,1r 2,2r", "0,0r 1,1r 2,2r", "0,0r 1,1r 2,2r", 0},
		{"a square, rows and rows", square, inRows, inRows, inRows, inRows, 0},
		{"a square, columns and columns", square, inColumns, inColumns, inColumns, inColumns, 0},
		{"a square that begins with a black cell", square, inRows, inColumns, inColumns, inRows, 1},
		{"a square that begins with a white cell", linesOf(".##", 2), "1,0r 1,1r", "1,0d 2,0d", "1,0r 1,1r", "1,0d 2,0d", 1},
		{"a square below a row", []string{"", "##", "##"}, "0,1r 0,2r", "0,1d 1,1d", "0,1r 0,2r", "0,1d 1,1d", 1},
		{"a square below a row that begins with a black cell", []string{"", ".##", ".##"}, "1,1r 1,2r", "1,1d 2,1d", "1,1d 2,1d", "1,1r 1,2r", 1},
		{"the last square", append(linesOf("", 6), "......##", "......##"), "6,6r 6,7r", "6,6d 7,6d", "6,6d 7,6d", "6,6r 6,7r", 1},
		{"two columns, the lowest and the next one", columns, twoUp, "0,0r 0,1r 0,2r", twoUp, "0,0r 0,1r 0,2r", 1},
		{"two columns, the next one and the highest", columns, "0,0r 0,1r 0,2r", twoLow, "0,0r 0,1r 0,2r", twoLow, 1},
		{"two columns, the lowest and the highest", columns, twoUp, twoLow, twoUp, twoLow, 2},
		{"two rows, the lowest and the next one", rows, allDown, toRight, toRight, allDown, 1},
		{"two rows, the next one and the highest", rows, toLeft, allDown, allDown, toLeft, 1},
		{"two rows, the lowest and the highest", rows, toLeft, toRight, toRight, toLeft, 2},
		{"four columns, neither is below the other", four, left, right, fourDown, both, 2},
		{"four columns, the lowest and the highest", four, middle, both, middle, both, 3},
		{"four columns, the lowest and one of two", four, middle, right, middle, right, 2},
		{"four columns, one of two and the highest", four, left, both, left, both, 1},
		{"four columns, all down and all across", four, fourDown, both, fourDown, both, 2},
		{"four rows, neither is below the other", tall, above, below, "0,0d 1,0d 0,2d 1,2d", "0,0r 0,1r 0,2r 0,3r", 2},
		{"four rows, one of two and the highest", tall, above, "0,0r 0,1d 1,1d 0,3r", above, "0,0r 0,1d 1,1d 0,3r", 2},
		{"16 cells, all across and all down", great, noneDown, "0,0d 1,0d 2,0d 3,0d 0,2d 1,2d 2,2d 3,2d", "0,0d 1,0d 2,0d 3,0d 0,2d 1,2d 2,2d 3,2d", noneDown, 4},
		{"16 cells, neither is below the other", great, firstDown, lastDown, bothDown, noneDown, 2},
		{"16 cells, the lowest and the highest", great, "0,0d 1,0r 3,0d 1,1d 2,1d 0,2d 3,2d 1,3r", "0,0r 2,0r 0,1d 1,1r 3,1d 1,2r 0,3r 2,3r", "0,0d 1,0r 3,0d 1,1d 2,1d 0,2d 3,2d 1,3r", "0,0r 2,0r 0,1d 1,1r 3,1d 1,2r 0,3r 2,3r", 10},
	}
}

func TestOrderOfTwoTilings(t *testing.T) {
	for _, c := range ordersByHand() {
		r, a, b := regionOf(c.lines), tilingNamed(t, c.lines, c.a), tilingNamed(t, c.lines, c.b)
		low, ok := impl.LowerOf(r, a, b)
		if !ok || impl.TilingText(low) != c.low {
			t.Errorf("%s: LowerOf %q, %q and %q is %q and %v, want %q", c.name, c.lines, c.a, c.b, impl.TilingText(low), ok, c.low)
		}
		high, ok := impl.HigherOf(r, a, b)
		if !ok || impl.TilingText(high) != c.high {
			t.Errorf("%s: HigherOf %q, %q and %q is %q and %v, want %q", c.name, c.lines, c.a, c.b, impl.TilingText(high), ok, c.high)
		}
		if got := impl.IsBelow(r, a, b); got != (c.a == c.low) {
			t.Errorf("%s: IsBelow %q, %q and %q is %v", c.name, c.lines, c.a, c.b, got)
		}
		if got := impl.IsBelow(r, b, a); got != (c.b == c.low) {
			t.Errorf("%s: IsBelow %q, %q and %q is %v", c.name, c.lines, c.b, c.a, got)
		}
		if got := impl.StepsBetween(r, a, b); got != c.steps {
			t.Errorf("%s: StepsBetween %q, %q and %q is %d, want %d", c.name, c.lines, c.a, c.b, got, c.steps)
		}
		checkOrder(t, r, a, b, tilingNamed(t, c.lines, c.low), tilingNamed(t, c.lines, c.high), c.steps)
	}
}

func TestLowestAndHighestTiling(t *testing.T) {
	cases := []struct {
		name      string
		lines     []string
		low, high string
	}{
		{"one domino", []string{"##"}, "0,0r", "0,0r"},
		{"one domino that begins with a white cell", []string{".##"}, "1,0r", "1,0r"},
		{"one domino down", linesOf("#", 2), "0,0d", "0,0d"},
		{"the last domino", append(linesOf("", 7), "......##"), "6,7r", "6,7r"},
		{"a step", []string{"##", ".##", "..##"}, "0,0r 1,1r 2,2r", "0,0r 1,1r 2,2r"},
		{"a snake", []string{"####", "...#", "####", "#", "####"}, "0,0r 2,0r 3,1d 0,2d 1,2r 0,4r 2,4r", "0,0r 2,0r 3,1d 0,2d 1,2r 0,4r 2,4r"},
		{"a square", linesOf("##", 2), "0,0d 1,0d", "0,0r 0,1r"},
		{"a square that begins with a white cell", linesOf(".##", 2), "1,0r 1,1r", "1,0d 2,0d"},
		{"the last square", append(linesOf("", 6), "......##", "......##"), "6,6d 7,6d", "6,6r 6,7r"},
		{"two columns", linesOf("##", 3), "0,0d 1,0d 0,2r", "0,0r 0,1d 1,1d"},
		{"two rows", linesOf("###", 2), "0,0d 1,0r 1,1r", "0,0r 2,0d 0,1r"},
		{"four columns", linesOf("####", 2), "0,0d 1,0r 3,0d 1,1r", "0,0r 2,0r 0,1r 2,1r"},
		{"four rows", linesOf("##", 4), "0,0d 1,0d 0,2d 1,2d", "0,0r 0,1d 1,1d 0,3r"},
		{"16 cells", linesOf("####", 4), "0,0d 1,0r 3,0d 1,1d 2,1d 0,2d 3,2d 1,3r", "0,0r 2,0r 0,1d 1,1r 3,1d 1,2r 0,3r 2,3r"},
		{"a diamond", []string{".##.", "####", "####", ".##."}, "1,0r 0,1r 2,1r 0,2r 2,2r 1,3r", "1,0d 2,0d 0,1d 3,1d 1,2d 2,2d"},
	}
	for _, c := range cases {
		checkEnds(t, regionOf(c.lines), tilingNamed(t, c.lines, c.low), tilingNamed(t, c.lines, c.high))
		checkOrderOfAll(t, regionOf(c.lines), 1)
	}
}

// pairStep returns how far apart the pairs of tilings are that tests take of a region, so that they are about n.
func pairStep(r impl.Region, n int) int {
	count := impl.CountTilings(r)
	return 1 + count*count/n
}

func TestOrderOfFloors(t *testing.T) {
	var floors [][]string
	for _, c := range allFloorCases() {
		floors = append(floors, c.lines)
	}
	for _, c := range slices.Concat(untileableFloors(), tileableFloors()) {
		floors = append(floors, c.lines)
	}
	for _, c := range slices.Concat(floorsInOnePart(), floorsInParts()) {
		floors = append(floors, c.lines)
	}
	for _, c := range listedFloors() {
		floors = append(floors, c.lines)
	}
	ordered := 0
	for _, lines := range slices.Concat(floors, smallFloors(), simpleFloors()) {
		for _, r := range allTurns(regionOf(lines)) {
			if impl.CountTilings(r) <= 40 && checkOrderOfAll(t, r, pairStep(r, 20)) > 0 {
				ordered++
			}
		}
	}
	if ordered < 100 {
		t.Errorf("only %d floors have ordered tilings", ordered)
	}
}

func TestOrderOfRectangles(t *testing.T) {
	for width := 1; width <= 8; width++ {
		for height := 1; height <= 8; height++ {
			r, count := impl.Rectangle(width, height), rectangleCounts()[height-1][width-1]
			if count > 300 {
				checkNoEnds(t, r)
				continue
			}
			if got := checkOrderOfAll(t, r, pairStep(r, 100)); got != count {
				t.Errorf("%d of %d tilings of %v have an order", got, count, r.Rows)
			}
		}
	}
}

func TestOrderOfAllWindows(t *testing.T) {
	several := 0
	for pattern := range 1 << 12 {
		for _, r := range []impl.Region{windowRegion(0, 0, pattern, false), windowRegion(3, 2, pattern, false)} {
			if checkOrderOfAll(t, r, pairStep(r, 10)) > 1 {
				several++
			}
		}
	}
	if several < 200 {
		t.Errorf("only %d regions have several tilings that are in order", several)
	}
}

func TestOrderOfMixedRegions(t *testing.T) {
	regions := tiledRegions(80)
	for _, share := range []uint32{9, 12, 13, 14, 15} {
		regions = append(regions, mixedRegions(120, share)...)
	}
	for _, r := range regions {
		if impl.CountTilings(r) <= 100 {
			checkOrderOfAll(t, r, pairStep(r, 10))
		}
	}
}

// isRising reports whether a flip of the tiling at this cell leads to a higher one.
func isRising(tiling []impl.Domino, c impl.Cell) bool {
	return impl.IsBlack(c) == slices.Contains(tiling, down(c.X, c.Y))
}

// lastOfFlips flips a tiling as long as some flip leads to a higher one, or to a lower one; it returns the last tiling and the number of flips.
func lastOfFlips(tiling []impl.Domino, rises bool) ([]impl.Domino, int) {
	count := 0
	for changed := true; changed; {
		changed = false
		for _, c := range validCells() {
			if next, ok := wantedFlip(tiling, c); ok && isRising(tiling, c) == rises {
				tiling, changed = next, true
				count++
			}
		}
	}
	return tiling, count
}

func TestOrderOfGrownRegions(t *testing.T) {
	steep, long := 0, 0
	for _, r := range grownRegions(80) {
		tiling, _ := impl.FirstTiling(r)
		low, falls := lastOfFlips(tiling, false)
		high, rises := lastOfFlips(tiling, true)
		checkOrder(t, r, low, tiling, low, tiling, falls)
		checkOrder(t, r, tiling, high, tiling, high, rises)
		checkOrder(t, r, low, high, low, high, falls+rises)
		switch count := impl.CountTilings(r); {
		case count > 300:
			long++
			checkNoEnds(t, r)
		default:
			checkEnds(t, r, low, high)
			if count <= 60 {
				checkOrderOfAll(t, r, pairStep(r, 5))
			}
		}
		if falls+rises > 10 {
			steep++
		}
	}
	if steep < 20 || long < 5 {
		t.Errorf("only %d regions have more than 10 steps, and %d more than 300 tilings", steep, long)
	}
}

func TestOrderOfGreatRectangles(t *testing.T) {
	apart := 0
	for _, size := range [][2]int{{8, 8}, {7, 8}, {8, 7}, {6, 6}, {5, 8}, {8, 3}} {
		r := impl.Rectangle(size[0], size[1])
		first, _ := impl.FirstTiling(r)
		low, _ := lastOfFlips(first, false)
		high, _ := lastOfFlips(first, true)
		for seed := range uint32(12) {
			_, a := randomFlips(t, r, first, 30, 2*seed)
			_, b := randomFlips(t, r, a, 30, 2*seed+1)
			lower, higher, steps := meeting(wantedHeights(a), wantedHeights(b))
			lowerTiling, _ := impl.LowerOf(r, a, b)
			higherTiling, _ := impl.HigherOf(r, a, b)
			if !slices.Equal(wantedHeights(lowerTiling), lower) || !slices.Equal(wantedHeights(higherTiling), higher) || !impl.IsTiling(r, lowerTiling) || !impl.IsTiling(r, higherTiling) {
				t.Errorf("LowerOf and HigherOf %v, %v and %v are %v and %v", r.Rows, a, b, lowerTiling, higherTiling)
			}
			checkOrder(t, r, a, b, lowerTiling, higherTiling, steps)
			_, rises := lastOfFlips(a, true)
			checkOrder(t, r, a, high, a, high, rises)
			checkOrder(t, r, low, a, low, a, impl.StepsBetween(r, low, high)-rises)
			if !slices.Equal(lowerTiling, a) && !slices.Equal(lowerTiling, b) {
				apart++
			}
		}
	}
	if apart < 30 {
		t.Errorf("only %d pairs of tilings have none below the other", apart)
	}
}

func TestOrderOfTheFullBoard(t *testing.T) {
	r := impl.Rectangle(8, 8)
	rows, columns := rowsAndColumns(8, 8)
	// Every second corner in every second row is the middle of a square in which all rows are flipped.
	checkOrder(t, r, rows, columns, columns, rows, 16)
	low, falls := lastOfFlips(columns, false)
	high, rises := lastOfFlips(rows, true)
	// A square of 2n times 2n cells has n * (4n*n - 1) / 3 steps.
	if falls+16+rises != 84 {
		t.Errorf("there are %d and %d flips to both ends", falls, rises)
	}
	checkOrder(t, r, low, high, low, high, 84)
	checkOrder(t, r, low, rows, low, rows, falls+16)
	checkOrder(t, r, columns, high, columns, high, 16+rises)
	checkNoEnds(t, r)
}

// risesFrom returns, for each tiling by its index, the tilings to which flips lead from it that only rise.
func (f flipTable) risesFrom() []map[int]bool {
	above := make([]map[int]bool, len(f.tilings))
	for i := range above {
		above[i] = map[int]bool{i: true}
		for waiting := []int{i}; len(waiting) > 0; waiting = waiting[1:] {
			last := waiting[0]
			for j, c := range f.cells[last] {
				if isRising(f.tilings[last], c) && !above[i][j] {
					above[i][j] = true
					waiting = append(waiting, j)
				}
			}
		}
	}
	return above
}

// nearestBelow returns the tiling from which flips rise to both of these, and to which flips rise from all others of this kind.
func (f flipTable) nearestBelow(t *testing.T, above []map[int]bool, i, j int) int {
	t.Helper()
	var both []int
	for k := range above {
		if above[k][i] && above[k][j] {
			both = append(both, k)
		}
	}
	for _, k := range both {
		if !slices.ContainsFunc(both, func(other int) bool { return !above[other][k] }) {
			return k
		}
	}
	t.Fatalf("no tiling is the nearest one below %v and %v", f.tilings[i], f.tilings[j])
	return -1
}

// turnedOver returns the same table as seen from above.
func turnedOver(above []map[int]bool) []map[int]bool {
	below := make([]map[int]bool, len(above))
	for i := range below {
		below[i] = map[int]bool{}
		for j := range above {
			if above[j][i] {
				below[i][j] = true
			}
		}
	}
	return below
}

// checkOrderByFlips compares the order of all tilings of a simple region with what flips that rise tell, without any heights.
func checkOrderByFlips(t *testing.T, r impl.Region) {
	t.Helper()
	table := flipTableOf(impl.RegionText(r))
	above := table.risesFrom()
	below := turnedOver(above)
	for j, b := range table.tilings {
		ways := table.firstWays(j)
		for i, a := range table.tilings[:j+1] {
			low, high := table.nearestBelow(t, above, i, j), table.nearestBelow(t, below, i, j)
			checkOrder(t, r, a, b, table.tilings[low], table.tilings[high], len(ways[i]))
			if impl.IsBelow(r, a, b) != above[i][j] || impl.IsBelow(r, b, a) != above[j][i] {
				t.Errorf("IsBelow of %v, %v and %v is not what flips tell", r.Rows, a, b)
			}
		}
	}
	isEnd := func(reached map[int]bool) bool { return len(reached) == len(table.tilings) }
	low, high := slices.IndexFunc(above, isEnd), slices.IndexFunc(below, isEnd)
	checkEnds(t, r, table.tilings[low], table.tilings[high])
}

func TestOrderByFlips(t *testing.T) {
	floors := append(simpleFloors(), linesOf("##", 6), linesOf("######", 2), linesOf(".####", 3), linesOf("###", 4), []string{".###", "####", "##.#", "####"}, []string{"..##..", ".####.", "..####", "..##.."}, []string{"####", "####", ".###", "..##", "..##"})
	several := 0
	for _, lines := range floors {
		for _, r := range allTurns(regionOf(lines)) {
			if count := impl.CountTilings(r); shownSimple(impl.RegionText(r)) && count > 0 && count <= 16 {
				checkOrderByFlips(t, r)
				if count > 4 {
					several++
				}
			}
		}
	}
	if several < 20 {
		t.Errorf("only %d regions have more than 4 tilings", several)
	}
	checkOrderByFlips(t, impl.Rectangle(4, 4))
}

func TestStepsAreFlips(t *testing.T) {
	regions := append(grownRegions(60), impl.Rectangle(4, 4), impl.Rectangle(8, 2), impl.Rectangle(3, 6))
	for _, c := range nearLimit()[:3] {
		regions = append(regions, regionOf(c.lines))
	}
	longest := 0
	for _, r := range regions {
		tilings := impl.ListTilings(r)
		if len(tilings) == 0 || !impl.IsSimple(r) {
			continue
		}
		low, _ := impl.LowestTiling(r)
		high, _ := impl.HighestTiling(r)
		for _, pair := range [][2][]impl.Domino{{low, high}, {high, low}, {tilings[0], low}, {tilings[len(tilings)/2], tilings[len(tilings)/3]}} {
			steps, flips := impl.StepsBetween(r, pair[0], pair[1]), impl.FlipDistance(r, pair[0], pair[1])
			if steps != flips {
				t.Errorf("StepsBetween %v, %v and %v is %d, but FlipDistance is %d", r.Rows, pair[0], pair[1], steps, flips)
			}
			longest = max(longest, steps)
		}
	}
	if longest < 10 {
		t.Errorf("there are at most %d steps", longest)
	}
}

// lowerAndHigher returns the lower and the higher one of two tilings.
func lowerAndHigher(t *testing.T, r impl.Region, a, b []impl.Domino) ([]impl.Domino, []impl.Domino) {
	t.Helper()
	low, ok := impl.LowerOf(r, a, b)
	high, isHigh := impl.HigherOf(r, a, b)
	if !ok || !isHigh || !impl.IsTiling(r, low) || !impl.IsTiling(r, high) {
		t.Fatalf("the lower and the higher one of %v and %v are %v and %v", a, b, low, high)
	}
	for _, one := range [][]impl.Domino{a, b} {
		if !impl.IsBelow(r, low, one) || !impl.IsBelow(r, one, high) {
			t.Errorf("%v does not lie between %v and %v", one, low, high)
		}
	}
	return low, high
}

func TestOrderOfThreeTilings(t *testing.T) {
	for _, lines := range [][]string{linesOf("####", 2), {"..##", ".####", "####", ".##"}, {".##.", "####", "####", ".##."}} {
		r, tilings := regionOf(lines), wantedList(lines)
		for _, a := range tilings {
			for _, b := range tilings {
				low, high := lowerAndHigher(t, r, a, b)
				for _, c := range tilings {
					lowWithC, highWithC := lowerAndHigher(t, r, a, c)
					_, highOfRest := lowerAndHigher(t, r, b, c)
					lowOfRest, _ := lowerAndHigher(t, r, a, highOfRest)
					_, want := lowerAndHigher(t, r, low, lowWithC)
					if !slices.Equal(lowOfRest, want) {
						t.Errorf("the lower one of %v and the higher one of %v and %v is %v, want %v", a, b, c, lowOfRest, want)
					}
					if impl.IsBelow(r, c, a) && impl.IsBelow(r, c, b) && !impl.IsBelow(r, c, low) {
						t.Errorf("%v is below %v and %v, but not below %v", c, a, b, low)
					}
					if impl.IsBelow(r, a, c) && impl.IsBelow(r, b, c) && !impl.IsBelow(r, high, c) {
						t.Errorf("%v is above %v and %v, but not above %v", c, a, b, high)
					}
					if impl.IsBelow(r, a, b) && impl.IsBelow(r, b, c) && (!impl.IsBelow(r, a, c) || impl.StepsBetween(r, a, c) != impl.StepsBetween(r, a, b)+impl.StepsBetween(r, b, c)) {
						t.Errorf("%v, %v and %v are in order, but their steps are not", a, b, c)
					}
					if !slices.Equal(highWithC, a) && impl.IsBelow(r, c, a) {
						t.Errorf("%v is below %v, but %v is the higher one", c, a, highWithC)
					}
				}
			}
		}
	}
}

func TestOrderOfListsThatAreNoTilings(t *testing.T) {
	floors := [][]string{{"##"}, {"#", "#"}, linesOf("##", 2), linesOf("##", 3), linesOf("###", 2), linesOf("####", 4), {".##.", "####", "####", ".##."}, {"##", ".##", "..##"}, append(linesOf("", 6), "......##", "......##")}
	for _, lines := range floors {
		r, tilings := regionOf(lines), wantedList(lines)
		for i := 0; i < len(tilings); i += 1 + len(tilings)/4 {
			for _, list := range append(noTilingsOf(lines, tilings[i]), listsToKeep()[4:]...) {
				// One domino is the same list backwards.
				if slices.Equal(list, tilings[i]) {
					continue
				}
				checkNoOrder(t, r, list, list)
				for _, j := range []int{0, i, len(tilings) - 1} {
					checkNoOrder(t, r, tilings[j], list)
				}
			}
		}
	}
}

func TestOrderOfTilingsInAnotherOrder(t *testing.T) {
	for _, lines := range [][]string{linesOf("##", 2), linesOf("###", 2), linesOf("####", 2), {"##", ".##", "..##"}} {
		r := regionOf(lines)
		for _, tiling := range wantedList(lines) {
			for _, order := range permutations(tiling) {
				if slices.Equal(order, tiling) {
					checkOrder(t, r, order, tiling, tiling, tiling, 0)
					continue
				}
				checkNoOrder(t, r, order, order)
				checkNoOrder(t, r, order, tiling)
			}
		}
	}
}

func TestOrderOfTilingsOfAnotherRegion(t *testing.T) {
	for i, lines := range simpleFloors() {
		r, tilings := regionOf(lines), wantedList(lines)
		for j, other := range simpleFloors() {
			if i == j {
				continue
			}
			for _, list := range wantedList(other) {
				checkNoOrder(t, r, list, list)
				checkNoOrder(t, r, tilings[0], list)
			}
		}
	}
}

func TestOrderOfRegionsThatAreNotSimple(t *testing.T) {
	tiled := 0
	for _, c := range floorsThatAreNotSimple() {
		for _, r := range allTurns(regionOf(c.lines)) {
			tilings := append(wantedList(impl.RegionText(r)), nil)
			for _, a := range tilings {
				checkNoOrder(t, r, a, a)
				checkNoOrder(t, r, tilings[0], a)
			}
			checkNoEnds(t, r)
			if len(tilings) > 1 {
				tiled++
			}
		}
	}
	if tiled < 40 {
		t.Errorf("only %d of the regions have tilings", tiled)
	}
}

func TestOrderOfRegionsWithoutCells(t *testing.T) {
	for _, r := range emptyRegions() {
		for _, list := range append(listsToKeep(), nil, []impl.Domino{}) {
			checkNoOrder(t, r, nil, list)
			checkNoOrder(t, r, list, list)
		}
		checkNoEnds(t, r)
	}
}

func TestOrderOfRegionsWithoutTilings(t *testing.T) {
	simple := 0
	for _, c := range untileableFloors() {
		for _, r := range allTurns(regionOf(c.lines)) {
			for _, list := range append(listsToKeep(), dominoesOn(impl.RegionText(r)), impl.MatchRegion(r)) {
				checkNoOrder(t, r, list, list)
				checkNoOrder(t, r, nil, list)
			}
			checkNoEnds(t, r)
			if impl.IsSimple(r) {
				simple++
			}
		}
	}
	if simple < 10 {
		t.Errorf("only %d of the regions are simple", simple)
	}
}

func TestOrderRejectsInvalidRegions(t *testing.T) {
	rows, columns := rowsAndColumns(8, 8)
	lists := append(listsToKeep(), nil, []impl.Domino{down(0, 0), down(1, 0)}, rows, columns)
	for _, r := range invalidRegions() {
		for _, list := range lists {
			checkNoOrder(t, r, list, list)
			checkNoOrder(t, r, rows, list)
		}
		checkNoEnds(t, r)
	}
	// A ninth row makes a region invalid, even if it has no cells.
	for _, lines := range simpleFloors() {
		long := impl.Region{Rows: append(regionOf(lines).Rows, make([]int, 9-len(lines))...)}
		for _, tiling := range wantedList(lines) {
			checkNoOrder(t, long, tiling, tiling)
		}
		checkNoEnds(t, long)
	}
}

func TestOrderWithMissingRows(t *testing.T) {
	for _, c := range ordersByHand() {
		rows := regionOf(c.lines).Rows
		for n := range 9 - len(rows) {
			r := impl.Region{Rows: append(slices.Clone(rows), make([]int, n)...)}
			checkOrder(t, r, tilingNamed(t, c.lines, c.a), tilingNamed(t, c.lines, c.b), tilingNamed(t, c.lines, c.low), tilingNamed(t, c.lines, c.high), c.steps)
		}
	}
	for _, lines := range simpleFloors() {
		short := regionOf(lines)
		full := impl.Region{Rows: append(slices.Clone(short.Rows), make([]int, 8-len(short.Rows))...)}
		low, _ := impl.LowestTiling(short)
		high, _ := impl.HighestTiling(short)
		checkEnds(t, full, low, high)
	}
}

func TestOrderNearTheLimit(t *testing.T) {
	below, above := 0, 0
	for _, c := range nearLimit() {
		r := regionOf(c.lines)
		if !shownSimple(c.lines) {
			checkNoEnds(t, r)
			continue
		}
		tiling, _ := impl.FirstTiling(r)
		low, falls := lastOfFlips(tiling, false)
		high, rises := lastOfFlips(tiling, true)
		if c.want > 300 {
			above++
			checkNoEnds(t, r)
		} else {
			below++
			checkEnds(t, r, low, high)
		}
		// The order of two tilings needs no list.
		checkOrder(t, r, low, high, low, high, falls+rises)
		checkOrder(t, r, tiling, high, tiling, high, rises)
	}
	if below < 3 || above < 3 {
		t.Errorf("only %d simple floors have at most 300 tilings, and %d more", below, above)
	}
	exact := regionOf([]string{"####", "####", "###", "###", "####", "..##", "####", "####"})
	if _, ok := impl.LowestTiling(exact); !ok || impl.CountTilings(exact) != 300 {
		t.Error("a region with 300 tilings has no lowest one")
	}
	more := regionOf([]string{".####", ".####", "####", "#####", ".####", ".####", "#####", "...##"})
	if _, ok := impl.LowestTiling(more); ok || impl.CountTilings(more) != 301 || !impl.IsSimple(more) {
		t.Error("a simple region with 301 tilings has a lowest one")
	}
}

func TestOrderFunctionsLeaveArguments(t *testing.T) {
	regions := append(invalidRegions(), emptyRegions()...)
	for _, lines := range append(simpleFloors(), []string{"###", "#.#", "###"}, []string{"##.##"}, linesOf("###", 3)) {
		regions = append(regions, regionOf(lines))
	}
	for _, from := range regions {
		r, rowMemory := withSpare(from.Rows)
		rowsBefore := slices.Clone(rowMemory)
		lists := listsToKeep()[:5]
		if tilings := impl.ListTilings(from); len(tilings) > 0 {
			lists = append(lists, tilings[0], tilings[len(tilings)-1])
		}
		for _, one := range lists {
			for _, other := range lists {
				a, memory := listWithSpare(one)
				b, otherMemory := listWithSpare(other)
				before, otherBefore := slices.Clone(memory), slices.Clone(otherMemory)
				impl.IsBelow(r, a, b)
				impl.StepsBetween(r, a, b)
				low, _ := impl.LowerOf(r, a, b)
				high, _ := impl.HigherOf(r, a, b)
				overwriteDominoes(low[:cap(low)])
				overwriteDominoes(high[:cap(high)])
				if !slices.Equal(memory, before) || !slices.Equal(otherMemory, otherBefore) {
					t.Errorf("the arguments %v and %v became %v and %v", before, otherBefore, memory, otherMemory)
				}
			}
		}
		lowest, _ := impl.LowestTiling(r)
		highest, _ := impl.HighestTiling(r)
		overwriteDominoes(lowest[:cap(lowest)])
		overwriteDominoes(highest[:cap(highest)])
		if !slices.Equal(rowMemory, rowsBefore) {
			t.Errorf("the rows %v became %v", rowsBefore, rowMemory)
		}
	}
}

func TestOrderFunctionsReturnNewMemory(t *testing.T) {
	for _, c := range ordersByHand() {
		low, high := tilingNamed(t, c.lines, c.low), tilingNamed(t, c.lines, c.high)
		r, _ := withSpare(regionOf(c.lines).Rows)
		a, memory := listWithSpare(tilingNamed(t, c.lines, c.a))
		b, otherMemory := listWithSpare(tilingNamed(t, c.lines, c.b))
		lowest, _ := impl.LowestTiling(r)
		highest, _ := impl.HighestTiling(r)
		wantLowest, wantHighest := slices.Clone(lowest), slices.Clone(highest)
		results := [][]impl.Domino{lowest, highest}
		for _, find := range []func(impl.Region, []impl.Domino, []impl.Domino) ([]impl.Domino, bool){impl.LowerOf, impl.HigherOf} {
			one, _ := find(r, a, b)
			results = append(results, one)
		}
		keptLow, _ := impl.LowerOf(r, a, b)
		keptHigh, _ := impl.HigherOf(r, a, b)
		keptLowest, _ := impl.LowestTiling(r)
		keptHighest, _ := impl.HighestTiling(r)
		for _, result := range results {
			overwriteDominoes(result[:cap(result)])
		}
		overwrite(r)
		overwriteDominoes(memory)
		overwriteDominoes(otherMemory)
		if !slices.Equal(keptLow, low) || !slices.Equal(keptHigh, high) || !slices.Equal(keptLowest, wantLowest) || !slices.Equal(keptHighest, wantHighest) {
			t.Errorf("%s: a changed argument or other result changes %v, %v, %v and %v", c.name, keptLow, keptHigh, keptLowest, keptHighest)
		}
		checkOrder(t, regionOf(c.lines), tilingNamed(t, c.lines, c.a), tilingNamed(t, c.lines, c.b), low, high, c.steps)
		checkEnds(t, regionOf(c.lines), wantLowest, wantHighest)
	}
}

package tests

import (
	"math/bits"
	"slices"
	"testing"

	"loop.example/g03300/impl"
)

// compareTilings returns a negative number if the first domino in which a and b differ is across in a, a positive one if it is across in b, and 0 otherwise.
func compareTilings(a, b []impl.Domino) int {
	for i := range min(len(a), len(b)) {
		if a[i] == b[i] {
			continue
		}
		if a[i].Down == b[i].Down {
			return 0
		}
		if b[i].Down {
			return -1
		}
		return 1
	}
	return 0
}

// tilingsOver returns all tilings of the cells, by trying out what lies on the last one, so that they are in another order than in a list.
func tilingsOver(cells uint64) [][]impl.Domino {
	if cells == 0 {
		return [][]impl.Domino{nil}
	}
	last := 63 - bits.LeadingZeros64(cells)
	rest := cells &^ (1 << last)
	var tilings [][]impl.Domino
	if above := last - 8; above >= 0 && rest&(1<<above) != 0 {
		for _, list := range tilingsOver(rest &^ (1 << above)) {
			tilings = append(tilings, append(list, down(above%8, above/8)))
		}
	}
	if left := last - 1; last%8 != 0 && rest&(1<<left) != 0 {
		for _, list := range tilingsOver(rest &^ (1 << left)) {
			tilings = append(tilings, append(list, across(left%8, left/8)))
		}
	}
	return tilings
}

// wantedList returns all tilings of the lines as a list has to have them.
func wantedList(lines []string) [][]impl.Domino {
	tilings := tilingsOver(bitsOf(lines))
	for i, list := range tilings {
		tilings[i] = inBoardOrder(list)
	}
	slices.SortFunc(tilings, compareTilings)
	return tilings
}

// isSameList reports whether two lists have the same tilings in the same order.
func isSameList(a, b [][]impl.Domino) bool {
	return slices.EqualFunc(a, b, slices.Equal)
}

// checkTilingList compares the list of the tilings of a region, its first tiling and their indexes with the list of all tilings that is wanted.
func checkTilingList(t *testing.T, r impl.Region, want [][]impl.Domino) {
	t.Helper()
	first, ok := impl.FirstTiling(r)
	if ok != (len(want) > 0) || ok && !slices.Equal(first, want[0]) || !ok && len(first) != 0 {
		t.Errorf("FirstTiling of %v is %v and %v, but it has %d tilings", r.Rows, first, ok, len(want))
	}
	if len(want) > 300 {
		for _, list := range [][]impl.Domino{want[0], want[300], want[len(want)-1]} {
			if got := impl.IndexOf(r, list); got != -1 {
				t.Errorf("IndexOf %v, which has %d tilings, and %v is %d, want -1", r.Rows, len(want), list, got)
			}
		}
		want = nil
	}
	for i, list := range want {
		if got := impl.IndexOf(r, list); got != i {
			t.Errorf("IndexOf %v and %v is %d, want %d", r.Rows, list, got, i)
		}
	}
	if got := impl.ListTilings(r); !isSameList(got, want) {
		t.Errorf("ListTilings of %v is %v, want %v", r.Rows, got, want)
	}
}

// checkListInOrder checks that a region has count tilings, and each of them is once in its list, in order.
func checkListInOrder(t *testing.T, r impl.Region, count int) {
	t.Helper()
	if got := impl.CountTilings(r); got != count {
		t.Fatalf("%v has %d tilings, want %d", r.Rows, got, count)
	}
	list := impl.ListTilings(r)
	if count > 300 && len(list) != 0 || count <= 300 && len(list) != count {
		t.Errorf("%v has %d tilings, but a list with %d ones", r.Rows, count, len(list))
	}
	for i, tiling := range list {
		if !impl.IsTiling(r, tiling) {
			t.Errorf("%v in the list of %v is no tiling", tiling, r.Rows)
		}
		if i > 0 && compareTilings(list[i-1], tiling) >= 0 {
			t.Errorf("%v is behind %v in the list of %v", tiling, list[i-1], r.Rows)
		}
	}
}

// listCase is a floor and the texts of its tilings in order.
type listCase struct {
	name  string
	lines []string
	want  []string
}

// listedFloors returns floors with few tilings.
func listedFloors() []listCase {
	return []listCase{
		{"no cells", []string{}, []string{""}},
		{"rows without cells", linesOf(emptyLine, 8), []string{""}},
		{"two cells", []string{"##"}, []string{"0,0r"}},
		{"two cells down", []string{"#", "#"}, []string{"0,0d"}},
		{"the last two cells of the last row", append(linesOf(emptyLine, 7), "......##"), []string{"6,7r"}},
		{"the last two cells of the last column", append(linesOf(emptyLine, 6), ".......#", ".......#"), []string{"7,6d"}},
		{"a square", []string{"##", "##"}, []string{"0,0r 0,1r", "0,0d 1,0d"}},
		{"the last square", append(linesOf(emptyLine, 6), "......##", "......##"), []string{"6,6r 6,7r", "6,6d 7,6d"}},
		{"two columns", []string{"##", "##", "##"}, []string{"0,0r 0,1r 0,2r", "0,0r 0,1d 1,1d", "0,0d 1,0d 0,2r"}},
		{"two rows", []string{"###", "###"}, []string{"0,0r 2,0d 0,1r", "0,0d 1,0r 1,1r", "0,0d 1,0d 2,0d"}},
		{"five tilings", []string{"####", "####"}, []string{
			"0,0r 2,0r 0,1r 2,1r", "0,0r 2,0d 3,0d 0,1r", "0,0d 1,0r 3,0d 1,1r", "0,0d 1,0d 2,0r 2,1r", "0,0d 1,0d 2,0d 3,0d",
		}},
		{"a ring", []string{"###", "#.#", "###"}, []string{"0,0r 2,0d 0,1d 1,2r", "0,0d 1,0r 2,1d 0,2r"}},
		{"a ring in the last corner", append(linesOf(emptyLine, 5), ".....###", ".....#.#", ".....###"), []string{"5,5r 7,5d 5,6d 6,7r", "5,5d 6,5r 7,6d 5,7r"}},
		{"two squares", []string{"##.##", "##.##"}, []string{
			"0,0r 3,0r 0,1r 3,1r", "0,0r 3,0d 4,0d 0,1r", "0,0d 1,0d 3,0r 3,1r", "0,0d 1,0d 3,0d 4,0d",
		}},
		{"the end of a row and the start of the next one", []string{"......##", "##......"}, []string{"6,0r 0,1r"}},
		{"a domino down first, since none fits behind one across", []string{"##", "##", "#", "#"}, []string{"0,0r 0,1r 0,2d", "0,0d 1,0d 0,2d"}},
		{"a step", []string{"##", ".##", "..##"}, []string{"0,0r 1,1r 2,2r"}},
		{"a step to the other side", []string{"..##", ".##", "##"}, []string{"2,0r 1,1r 0,2r"}},
		{"down first, and then both ways", []string{"#", "###", ".##"}, []string{"0,0d 1,1r 1,2r", "0,0d 1,1d 2,1d"}},
		{"a diamond", []string{".##.", "####", "####", ".##."}, []string{
			"1,0r 0,1r 2,1r 0,2r 2,2r 1,3r", "1,0r 0,1r 2,1d 3,1d 0,2r 1,3r", "1,0r 0,1d 1,1r 3,1d 1,2r 1,3r", "1,0r 0,1d 1,1r 3,1d 1,2d 2,2d",
			"1,0r 0,1d 1,1d 2,1r 2,2r 1,3r", "1,0r 0,1d 1,1d 2,1d 3,1d 1,3r", "1,0d 2,0d 0,1d 3,1d 1,2r 1,3r", "1,0d 2,0d 0,1d 3,1d 1,2d 2,2d",
		}},
	}
}

func TestListTilings(t *testing.T) {
	for _, c := range listedFloors() {
		r := regionOf(c.lines)
		var texts []string
		for _, list := range impl.ListTilings(r) {
			texts = append(texts, impl.TilingText(list))
		}
		if !slices.Equal(texts, c.want) {
			t.Errorf("%s: ListTilings of %q has the texts %q, want %q", c.name, c.lines, texts, c.want)
		}
		if first, ok := impl.FirstTiling(r); !ok || impl.TilingText(first) != c.want[0] {
			t.Errorf("%s: FirstTiling of %q is %v and %v, want %q", c.name, c.lines, first, ok, c.want[0])
		}
		checkTilingList(t, r, wantedList(c.lines))
		checkListInOrder(t, r, len(c.want))
	}
}

func TestListsOfRegionsWithoutCells(t *testing.T) {
	for _, r := range emptyRegions() {
		list := impl.ListTilings(r)
		if len(list) != 1 || len(list[0]) != 0 {
			t.Errorf("ListTilings of %v is %v, want one tiling without dominoes", r.Rows, list)
		}
		if first, ok := impl.FirstTiling(r); len(first) != 0 || !ok {
			t.Errorf("FirstTiling of %v is %v and %v, want no dominoes and true", r.Rows, first, ok)
		}
		for _, none := range [][]impl.Domino{nil, {}} {
			if got := impl.IndexOf(r, none); got != 0 {
				t.Errorf("IndexOf %v and no dominoes is %d, want 0", r.Rows, got)
			}
		}
		for _, d := range append(allDominoes(), invalidDominoes()...) {
			if got := impl.IndexOf(r, []impl.Domino{d}); got != -1 {
				t.Errorf("IndexOf %v and %v is %d, want -1", r.Rows, d, got)
			}
		}
	}
}

// checkNoTilings checks that a region has neither a list nor a first tiling, and that none of these lists is in its list.
func checkNoTilings(t *testing.T, r impl.Region, lists [][]impl.Domino) {
	t.Helper()
	if got := impl.ListTilings(r); len(got) != 0 {
		t.Errorf("ListTilings of %v is %v, want nil", r.Rows, got)
	}
	if first, ok := impl.FirstTiling(r); len(first) != 0 || ok {
		t.Errorf("FirstTiling of %v is %v and %v, want nil and false", r.Rows, first, ok)
	}
	for _, list := range lists {
		if got := impl.IndexOf(r, list); got != -1 {
			t.Errorf("IndexOf %v and %v is %d, want -1", r.Rows, list, got)
		}
	}
}

func TestListsOfRegionsWithoutTilings(t *testing.T) {
	lists := append(listsToKeep(), nil)
	for _, c := range untileableFloors() {
		r := regionOf(c.lines)
		for _, same := range []impl.Region{r, mirrored(r), upsideDown(r), turned(r)} {
			checkNoTilings(t, same, lists)
		}
		checkNoTilings(t, r, [][]impl.Domino{dominoesOn(c.lines)})
	}
}

func TestListsRejectInvalidRegions(t *testing.T) {
	lists := append(listsToKeep(), nil, []impl.Domino{across(0, 0), across(0, 1), across(0, 2)}, []impl.Domino{down(0, 0), down(1, 0)})
	for _, r := range invalidRegions() {
		checkNoTilings(t, r, lists)
	}
}

func TestListsOfAllListsOfSmallFloors(t *testing.T) {
	for _, lines := range smallFloors() {
		r := regionOf(lines)
		parts := sublists(dominoesOn(lines))
		var want [][]impl.Domino
		for _, list := range parts {
			if impl.IsTiling(r, list) {
				want = append(want, list)
			}
		}
		slices.SortFunc(want, compareTilings)
		checkTilingList(t, r, want)
		for _, list := range parts {
			index := slices.IndexFunc(want, func(tiling []impl.Domino) bool { return slices.Equal(tiling, list) })
			if got := impl.IndexOf(r, list); got != index {
				t.Errorf("IndexOf %q and %v is %d, want %d", lines, list, got, index)
			}
		}
	}
}

func TestListsOfAllWindows(t *testing.T) {
	for pattern := range 1 << 12 {
		for _, r := range []impl.Region{windowRegion(0, 0, pattern, false), windowRegion(4, 5, pattern, false)} {
			checkTilingList(t, r, wantedList(impl.RegionText(r)))
		}
	}
}

func TestListsOfMixedRegions(t *testing.T) {
	regions := tiledRegions(80)
	for _, share := range []uint32{9, 13, 14, 15} {
		regions = append(regions, mixedRegions(160, share)...)
	}
	listed, longer := 0, 0
	for _, r := range regions {
		for _, same := range []impl.Region{r, mirrored(r), upsideDown(r), turned(r)} {
			count := impl.CountTilings(same)
			switch {
			case count > 300:
				longer++
			case count > 1:
				listed++
			}
			if count <= 100 {
				checkTilingList(t, same, wantedList(impl.RegionText(same)))
			}
			checkListInOrder(t, same, count)
			checkFirstTiling(t, same)
		}
	}
	if listed < 40 || longer < 10 {
		t.Errorf("only %d of the regions have a list with several tilings, and %d ones more than 300", listed, longer)
	}
}

// firstByCounts returns the first tiling of a region that has tilings, by taking a domino across wherever the rest can be tiled then.
func firstByCounts(r impl.Region) []impl.Domino {
	var list []impl.Domino
	for cells := impl.CellsOf(r); len(cells) > 0; cells = impl.CellsOf(r) {
		d := across(cells[0].X, cells[0].Y)
		if impl.CountWith(r, d) == 0 {
			d.Down = true
		}
		list = append(list, d)
		for _, c := range shownUnder(d) {
			r, _ = impl.WithCell(r, c, false)
		}
	}
	return list
}

// checkFirstTiling compares FirstTiling with what the numbers of tilings tell.
func checkFirstTiling(t *testing.T, r impl.Region) {
	t.Helper()
	if impl.CountTilings(r) == 0 {
		checkNoTilings(t, r, nil)
		return
	}
	first, ok := impl.FirstTiling(r)
	if want := firstByCounts(r); !ok || !slices.Equal(first, want) {
		t.Errorf("FirstTiling of %v is %v and %v, want %v and true", r.Rows, first, ok, want)
	}
	if !impl.IsTiling(r, first) {
		t.Errorf("FirstTiling of %v is %v, which is no tiling", r.Rows, first)
	}
}

func TestFirstTilingHoweverManyThereAre(t *testing.T) {
	for width := 1; width <= 8; width++ {
		for height := 1; height <= 8; height++ {
			r := impl.Rectangle(width, height)
			for _, same := range []impl.Region{r, mirrored(r), upsideDown(r), mirrored(upsideDown(r))} {
				checkFirstTiling(t, same)
				checkListInOrder(t, same, rectangleCounts()[height-1][width-1])
			}
		}
	}
	for _, c := range tileableFloors() {
		r := regionOf(c.lines)
		for _, same := range []impl.Region{r, mirrored(r), upsideDown(r), turned(r)} {
			checkFirstTiling(t, same)
			checkListInOrder(t, same, c.want)
		}
	}
}

func TestFirstTilingOfTheFullBoard(t *testing.T) {
	var want []impl.Domino
	for _, d := range allDominoes() {
		if !d.Down && d.X%2 == 0 {
			want = append(want, d)
		}
	}
	first, ok := impl.FirstTiling(impl.Rectangle(8, 8))
	if !ok || len(first) != 32 || !slices.Equal(first, want) {
		t.Errorf("FirstTiling of the full board is %v and %v, want %v and true", first, ok, want)
	}
	checkIndexOf(t, impl.Rectangle(8, 8), want, -1)
}

// checkIndexOf compares IndexOf with the index that is wanted.
func checkIndexOf(t *testing.T, r impl.Region, list []impl.Domino, want int) {
	t.Helper()
	if got := impl.IndexOf(r, list); got != want {
		t.Errorf("IndexOf %v and %v is %d, want %d", r.Rows, list, got, want)
	}
}

// nearLimit returns floors with 290 to 310 tilings, one for each number.
func nearLimit() []countCase {
	return []countCase{
		{"290", []string{"###.##..", "..####..", "######..", "######..", "######..", "#####..."}, 290},
		{"291", []string{".######.", fullLine, fullLine, fullLine, ".######."}, 291},
		{"292", []string{".####.##", fullLine, fullLine, ".####.##"}, 292},
		{"293", []string{"####", "####", "####", "..##", "####", "..##", "####", "####"}, 293},
		{"294", []string{"####.###", fullLine, "#####.##", "####..##"}, 294},
		{"295", []string{"#####", "#####", ".####", "##.##", "####", "####", "##.##"}, 295},
		{"296", []string{"######", "######", ".#####", ".#####", ".##.##"}, 296},
		{"297", []string{fullLine, fullLine, ".####", "..######", "###..###"}, 297},
		{"298", []string{"#####", "#####", "###.#", "###.#", "#####", "###.#", "#####"}, 298},
		{"299", []string{"######", "######", "##", "######", "######"}, 299},
		{"300", []string{"####", "####", "###", "###", "####", "..##", "####", "####"}, 300},
		{"301", []string{".####", ".####", "####", "#####", ".####", ".####", "#####", "...##"}, 301},
		{"302", []string{"######", "..####", ".####", "######", "######", "######"}, 302},
		{"303", []string{"##.####", "###..##", "###.###", ".######", "#######", "#####.#"}, 303},
		{"304", []string{"######", "#######", ".######", "######", ".######", ".###.##"}, 304},
		{"305", []string{fullLine, "##.#####", "##.#####", fullLine}, 305},
		{"306", []string{"##..####", "###.####", fullLine, ".#######"}, 306},
		{"307", []string{"####.###", fullLine, fullLine, ".#######"}, 307},
		{"308", []string{"#####", "#####", "..##", "#####", "#####", "##.##", "...##"}, 308},
		{"309", []string{".####", ".####", "#####", "#####", "##.##", "##.##"}, 309},
		{"310", []string{"####", "####", ".###", "####", "####", "####", "####", ".###"}, 310},
		{"300 in five pieces", []string{"####.###", "####.###", "", "####.##", "####.##", "", "##", "##"}, 300},
		{"306 in three pieces", []string{fullLine, fullLine, "", "###.###", "###.###"}, 306},
		{"256 in eight pieces", append(slices.Repeat([]string{"##.##.##", "##.##.##", ""}, 2), "##.##", "##.##"), 256},
		{"600 in six pieces", []string{"####.###", "####.###", "", "####.##", "####.##", "", "##.##", "##.##"}, 600},
	}
}

func TestListsNearTheLimit(t *testing.T) {
	for _, c := range nearLimit() {
		r := regionOf(c.lines)
		want := wantedList(c.lines)
		if len(want) != c.want {
			t.Fatalf("%s: there are %d tilings of %q", c.name, len(want), c.lines)
		}
		checkTilingList(t, r, want)
		for _, same := range []impl.Region{r, mirrored(r), upsideDown(r), turned(r)} {
			checkListInOrder(t, same, c.want)
			checkFirstTiling(t, same)
		}
	}
	if impl.MaxList != 300 {
		t.Errorf("MaxList is %d, want 300", impl.MaxList)
	}
}

func TestRegionsWithMoreThanMaxListTilings(t *testing.T) {
	for _, r := range []impl.Region{impl.Rectangle(8, 8), impl.Rectangle(6, 6), impl.Rectangle(8, 4), impl.Rectangle(5, 6)} {
		if got := impl.ListTilings(r); len(got) != 0 {
			t.Errorf("ListTilings of %v has %d tilings, want none", r.Rows, len(got))
		}
		first, ok := impl.FirstTiling(r)
		if !ok || !impl.IsTiling(r, first) {
			t.Errorf("FirstTiling of %v is %v and %v", r.Rows, first, ok)
		}
		checkIndexOf(t, r, first, -1)
		checkIndexOf(t, r, nil, -1)
	}
}

func TestEveryTilingHasOneDominoForEachCell(t *testing.T) {
	for _, c := range slices.Concat(tileableFloors(), nearLimit()) {
		r := regionOf(c.lines)
		counts := map[impl.Domino]int{}
		list := impl.ListTilings(r)
		for _, tiling := range list {
			for _, d := range tiling {
				counts[d]++
			}
		}
		for _, d := range allDominoes() {
			want := 0
			if len(list) > 0 {
				want = impl.CountWith(r, d)
			}
			if counts[d] != want {
				t.Errorf("%s: %v is in %d tilings of the list, want %d", c.name, d, counts[d], want)
			}
		}
	}
}

func TestIndexOfOtherOrders(t *testing.T) {
	lines := []string{"####", "#..#", "####"}
	r := regionOf(lines)
	for i, tiling := range impl.ListTilings(r) {
		for _, order := range permutations(tiling) {
			want := -1
			if slices.Equal(order, tiling) {
				want = i
			}
			checkIndexOf(t, r, order, want)
		}
	}
}

func TestIndexOfListsThatAreNoTilings(t *testing.T) {
	for _, c := range listedFloors() {
		r := regionOf(c.lines)
		for _, tiling := range wantedList(c.lines) {
			for i, d := range tiling {
				checkIndexOf(t, r, slices.Delete(slices.Clone(tiling), i, i+1), -1)
				checkIndexOf(t, r, slices.Insert(slices.Clone(tiling), i, d), -1)
				for _, other := range append(invalidDominoes(), across(d.X, d.Y), down(d.X, d.Y), across(3, 3), down(4, 4)) {
					if other == d {
						continue
					}
					changed := slices.Clone(tiling)
					changed[i] = other
					checkIndexOf(t, r, changed, -1)
				}
			}
			for _, other := range append(invalidDominoes(), across(4, 4)) {
				checkIndexOf(t, r, append(slices.Clone(tiling), other), -1)
				checkIndexOf(t, r, append([]impl.Domino{other}, tiling...), -1)
			}
			if len(tiling) > 0 {
				checkIndexOf(t, r, nil, -1)
			}
		}
	}
}

func TestIndexOfCases(t *testing.T) {
	square, two := []string{"##", "##"}, []string{"##", "##", "##"}
	cases := []struct {
		name  string
		lines []string
		list  []impl.Domino
		want  int
	}{
		{"the first one", square, []impl.Domino{across(0, 0), across(0, 1)}, 0},
		{"the last one", square, []impl.Domino{down(0, 0), down(1, 0)}, 1},
		{"one in the middle", two, []impl.Domino{across(0, 0), down(0, 1), down(1, 1)}, 1},
		{"the last one of three", two, []impl.Domino{down(0, 0), down(1, 0), across(0, 2)}, 2},
		{"in a region with rows without cells", []string{"##", "##", "", ""}, []impl.Domino{down(0, 0), down(1, 0)}, 1},
		{"the other order", square, []impl.Domino{across(0, 1), across(0, 0)}, -1},
		{"the other order of dominoes down", square, []impl.Domino{down(1, 0), down(0, 0)}, -1},
		{"partial", square, []impl.Domino{across(0, 0)}, -1},
		{"no dominoes", square, nil, -1},
		{"overlapping", square, []impl.Domino{across(0, 0), down(1, 0)}, -1},
		{"a tiling of another region", square, []impl.Domino{across(0, 0), across(0, 1), across(0, 2)}, -1},
		{"a tiling of a part", two, []impl.Domino{across(0, 0), across(0, 1)}, -1},
		{"moved to the right", square, []impl.Domino{across(1, 0), across(1, 1)}, -1},
		{"a domino that is not valid", square, []impl.Domino{across(0, 0), across(7, 1)}, -1},
		{"behind a domino that is not valid", square, []impl.Domino{down(0, 7), across(0, 0), across(0, 1)}, -1},
		{"all cells of the last row", append(linesOf(emptyLine, 7), fullLine), []impl.Domino{across(0, 7), across(2, 7), across(4, 7), across(6, 7)}, 0},
		{"no tiling of three cells", []string{"###"}, []impl.Domino{across(0, 0)}, -1},
		{"no dominoes and no tiling", []string{"#"}, nil, -1},
	}
	for _, c := range cases {
		if got := impl.IndexOf(regionOf(c.lines), c.list); got != c.want {
			t.Errorf("%s: IndexOf %q and %v is %d, want %d", c.name, c.lines, c.list, got, c.want)
		}
	}
}

func TestSameDominoes(t *testing.T) {
	a, b, c := across(0, 0), across(0, 1), down(0, 0)
	wrong, alsoWrong := across(7, 0), down(-1, 9)
	lists := [][]impl.Domino{
		{}, {a}, {b}, {c}, {wrong}, {alsoWrong}, {a, b}, {b, a}, {a, a}, {a, c}, {c, a}, {a, b, c}, {c, b, a}, {a, c, b},
		{a, a, b}, {a, b, b}, {a, wrong}, {wrong, a}, {wrong, alsoWrong}, {alsoWrong, wrong}, {wrong, wrong}, {{}, {}, {}}, {c, c}, {down(7, 0)},
		{across(1, 0)}, {across(0, 2)}, {across(8, 0)}, {down(0, 7)}, {down(0, 8)}, allDominoes(), invalidDominoes(),
	}
	for i, list := range lists {
		for j, other := range lists {
			// Memory of its own shows that contents are compared.
			if got := impl.SameDominoes(list, slices.Clone(other)); got != (i == j) {
				t.Errorf("SameDominoes of %v and %v is %v", list, other, got)
			}
		}
	}
	for _, none := range [][]impl.Domino{nil, {}, allDominoes()[:0]} {
		if !impl.SameDominoes(nil, none) || !impl.SameDominoes(none, nil) || !impl.SameDominoes(none, []impl.Domino{}) {
			t.Error("SameDominoes of two lists without dominoes is false")
		}
		if impl.SameDominoes(none, []impl.Domino{a}) || impl.SameDominoes([]impl.Domino{{}}, none) {
			t.Error("SameDominoes of a list without dominoes and one with a domino is true")
		}
	}
}

func TestSameDominoesOfLongLists(t *testing.T) {
	list := slices.Repeat(append(allDominoes(), invalidDominoes()...), 3)
	if !impl.SameDominoes(list, slices.Clone(list)) {
		t.Error("SameDominoes of a long list and itself is false")
	}
	for i := range list {
		changed := slices.Clone(list)
		changed[i].Down = !changed[i].Down
		if impl.SameDominoes(list, changed) || impl.SameDominoes(changed, list) {
			t.Errorf("SameDominoes is true, though the dominoes at %d differ in Down", i)
		}
		if impl.SameDominoes(list, list[:i]) || impl.SameDominoes(list[:i], list) {
			t.Errorf("SameDominoes is true, though one list ends at %d", i)
		}
	}
}

func TestListFunctionsLeaveArguments(t *testing.T) {
	regions := append(invalidRegions(), emptyRegions()...)
	for _, c := range slices.Concat(untileableFloors(), tileableFloors()) {
		regions = append(regions, regionOf(c.lines))
	}
	for _, from := range regions {
		r, rowMemory := withSpare(from.Rows)
		rowsBefore := slices.Clone(rowMemory)
		first, _ := impl.FirstTiling(r)
		for _, dominoes := range append(listsToKeep(), first) {
			list, memory := listWithSpare(dominoes)
			other, otherMemory := listWithSpare(dominoes)
			before := slices.Clone(memory)
			impl.ListTilings(r)
			impl.FirstTiling(r)
			impl.IndexOf(r, list)
			impl.SameDominoes(list, other)
			if !slices.Equal(rowMemory, rowsBefore) || !slices.Equal(memory, before) || !slices.Equal(otherMemory, before) {
				t.Errorf("the arguments %v and %v became %v and %v, %v", rowsBefore, before, rowMemory, memory, otherMemory)
			}
		}
	}
}

// overwriteDominoes changes everything in the memory of a list, behind its dominoes as well.
func overwriteDominoes(list []impl.Domino) {
	all := list[:cap(list)]
	for i := range all {
		all[i] = across(-9, -9)
	}
}

func TestTilingsOfAListShareNoMemory(t *testing.T) {
	for _, c := range slices.Concat(tileableFloors(), nearLimit()) {
		if c.want > 300 {
			continue
		}
		r, _ := withSpare(regionOf(c.lines).Rows)
		list, again := impl.ListTilings(r), impl.ListTilings(r)
		first, _ := impl.FirstTiling(r)
		second, _ := impl.FirstTiling(r)
		want := wantedList(c.lines)
		overwrite(r)
		overwriteDominoes(first)
		for i := range list {
			// The tilings before this one are overwritten already.
			if !isSameList(list[i:], want[i:]) {
				t.Fatalf("%s: a changed tiling changes one behind number %d of the list", c.name, i)
			}
			overwriteDominoes(list[i])
		}
		if !isSameList(again, want) || !slices.Equal(second, want[0]) {
			t.Errorf("%s: a changed argument or result changes another result", c.name)
		}
		for i := len(again) - 1; i >= 0; i-- {
			if !slices.Equal(again[i], want[i]) {
				t.Fatalf("%s: a changed tiling changes number %d before it in the list", c.name, i)
			}
			overwriteDominoes(again[i])
		}
		if got := impl.ListTilings(regionOf(c.lines)); !isSameList(got, want) {
			t.Errorf("%s: a changed result changes a later one", c.name)
		}
	}
}

func TestFirstTilingReturnsNewMemory(t *testing.T) {
	for _, r := range []impl.Region{impl.Rectangle(2, 2), impl.Rectangle(8, 8), impl.Rectangle(3, 8)} {
		first, _ := impl.FirstTiling(r)
		second, _ := impl.FirstTiling(r)
		want := slices.Clone(first)
		overwriteDominoes(first)
		if !slices.Equal(second, want) {
			t.Errorf("a changed result of FirstTiling changes another one of %v", r.Rows)
		}
		if third, ok := impl.FirstTiling(r); !ok || !slices.Equal(third, want) {
			t.Errorf("a changed result of FirstTiling changes a later one of %v", r.Rows)
		}
	}
}

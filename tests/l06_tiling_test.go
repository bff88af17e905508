package tests

import (
	"slices"
	"strings"
	"testing"

	"loop.example/g03300/impl"
)

// emptyRegions returns regions without cells.
func emptyRegions() []impl.Region {
	return []impl.Region{{}, {Rows: []int{}}, {Rows: []int{0}}, {Rows: make([]int, 7)}, {Rows: make([]int, 8)}}
}

// dominoesOn returns the dominoes that cover cells of the lines only, in order.
func dominoesOn(lines []string) []impl.Domino {
	return slices.DeleteFunc(allDominoes(), func(d impl.Domino) bool {
		under := shownUnder(d)
		return !shows(lines, under[0]) || !shows(lines, under[1])
	})
}

// countsOver returns how many dominoes of list that lie on the board cover each cell.
func countsOver(list []impl.Domino) map[impl.Cell]int {
	counts, all := map[impl.Cell]int{}, allDominoes()
	for _, d := range list {
		if slices.Contains(all, d) {
			under := shownUnder(d)
			counts[under[0]]++
			counts[under[1]]++
		}
	}
	return counts
}

// shownUncovered returns the cells of the lines that no domino of list covers, row by row.
func shownUncovered(lines []string, list []impl.Domino) []impl.Cell {
	counts := countsOver(list)
	return slices.DeleteFunc(cellsShown(lines), func(c impl.Cell) bool { return counts[c] > 0 })
}

// checkList compares IsPartial, IsTiling and UncoveredOf with what is wanted of a list, and the number of cells with P6.
func checkList(t *testing.T, lines []string, list []impl.Domino, partial bool) {
	t.Helper()
	r, uncovered := regionOf(lines), shownUncovered(lines, list)
	if got := impl.IsPartial(r, list); got != partial {
		t.Errorf("IsPartial of %q and %v is %v, want %v", lines, list, got, partial)
	}
	if got, want := impl.IsTiling(r, list), partial && len(uncovered) == 0; got != want {
		t.Errorf("IsTiling of %q and %v is %v, want %v", lines, list, got, want)
	}
	if got := impl.UncoveredOf(r, list); !slices.Equal(got, uncovered) {
		t.Errorf("UncoveredOf %q and %v is %v, want %v", lines, list, got, uncovered)
	}
	if partial && 2*len(list)+len(impl.UncoveredOf(r, list)) != impl.CountCells(r) {
		t.Errorf("the dominoes %v do not cover two cells each of %q", list, lines)
	}
}

func TestIsPartialAndIsTiling(t *testing.T) {
	square, ring := []string{"##", "##"}, []string{"###", "#.#", "###"}
	low := []string{"", "", "", "", "", "", "......##", "......##"}
	cases := []struct {
		name            string
		lines           []string
		list            []impl.Domino
		partial, tiling bool
	}{
		{"no dominoes", square, nil, true, false},
		{"one domino across", square, []impl.Domino{across(0, 0)}, true, false},
		{"one domino down", square, []impl.Domino{down(1, 0)}, true, false},
		{"two across", square, []impl.Domino{across(0, 0), across(0, 1)}, true, true},
		{"two down", square, []impl.Domino{down(0, 0), down(1, 0)}, true, true},
		{"two across out of order", square, []impl.Domino{across(0, 1), across(0, 0)}, false, false},
		{"two down out of order", square, []impl.Domino{down(1, 0), down(0, 0)}, false, false},
		{"the same domino twice", square, []impl.Domino{across(0, 0), across(0, 0)}, false, false},
		{"the same domino twice and all cells covered", square, []impl.Domino{across(0, 0), across(0, 1), across(0, 1)}, false, false},
		{"the same first cell", square, []impl.Domino{across(0, 0), down(0, 0)}, false, false},
		{"the same second cell", square, []impl.Domino{down(1, 0), across(0, 1)}, false, false},
		{"first and second cell", square, []impl.Domino{across(0, 0), down(1, 0)}, false, false},
		{"overlaps and all cells covered", square, []impl.Domino{across(0, 0), down(0, 0), down(1, 0)}, false, false},
		{"the second cell outside, across", square, []impl.Domino{across(1, 0)}, false, false},
		{"the second cell outside, down", square, []impl.Domino{down(0, 1)}, false, false},
		{"both cells outside", square, []impl.Domino{across(0, 0), across(0, 1), across(4, 4)}, false, false},
		{"the first cell outside", []string{".#"}, []impl.Domino{across(0, 0)}, false, false},
		{"the second cell in a row that is missing", []string{"##"}, []impl.Domino{down(0, 0)}, false, false},
		{"a domino over a hole", ring, []impl.Domino{across(0, 1)}, false, false},
		{"a domino that begins in a hole", ring, []impl.Domino{down(1, 1)}, false, false},
		{"around a hole", ring, []impl.Domino{across(0, 0), down(2, 0), down(0, 1), across(1, 2)}, true, true},
		{"around a hole, the other way", ring, []impl.Domino{down(0, 0), across(1, 0), down(2, 1), across(0, 2)}, true, true},
		{"around a hole, one domino missing", ring, []impl.Domino{down(0, 0), across(1, 0), across(0, 2)}, true, false},
		{"an odd number of cells", []string{"###"}, []impl.Domino{across(0, 0)}, true, false},
		{"an odd number of cells, overlapping", []string{"###"}, []impl.Domino{across(0, 0), across(1, 0)}, false, false},
		{"two pieces", []string{"##.##"}, []impl.Domino{across(0, 0), across(3, 0)}, true, true},
		{"one of two pieces", []string{"##.##"}, []impl.Domino{across(3, 0)}, true, false},
		{"empty rows behind the cells", []string{"##", "", ""}, []impl.Domino{across(0, 0)}, true, true},
		{"the last cells of the board", low, []impl.Domino{across(6, 6), across(6, 7)}, true, true},
		{"the last cells of the board, down", low, []impl.Domino{down(6, 6), down(7, 6)}, true, true},
		{"out of the last column", low, []impl.Domino{across(7, 6)}, false, false},
		{"out of the last row", low, []impl.Domino{down(6, 7)}, false, false},
		{"into the first column", square, []impl.Domino{across(-1, 0)}, false, false},
		{"into the first row", square, []impl.Domino{down(0, -1)}, false, false},
		{"a tiling and a domino that is not valid", square, []impl.Domino{across(0, 0), across(0, 1), across(7, 7)}, false, false},
		{"a domino that is not valid and a tiling", square, []impl.Domino{across(-1, 0), across(0, 0), across(0, 1)}, false, false},
	}
	for _, c := range cases {
		r := regionOf(c.lines)
		if got := impl.IsPartial(r, c.list); got != c.partial {
			t.Errorf("%s: IsPartial of %q and %v is %v, want %v", c.name, c.lines, c.list, got, c.partial)
		}
		if got := impl.IsTiling(r, c.list); got != c.tiling {
			t.Errorf("%s: IsTiling of %q and %v is %v, want %v", c.name, c.lines, c.list, got, c.tiling)
		}
	}
}

func TestTilingsOfTheEmptyRegion(t *testing.T) {
	for _, r := range emptyRegions() {
		for _, list := range [][]impl.Domino{nil, {}} {
			if !impl.IsPartial(r, list) || !impl.IsTiling(r, list) {
				t.Errorf("the list without dominoes is no tiling of %v", r.Rows)
			}
		}
		lists := [][]impl.Domino{{across(0, 0), across(0, 1)}, {across(0, 0), across(0, 0)}}
		for _, d := range append(allDominoes(), invalidDominoes()...) {
			lists = append(lists, []impl.Domino{d})
		}
		for _, list := range lists {
			if impl.IsPartial(r, list) || impl.IsTiling(r, list) {
				t.Errorf("%v is partial or a tiling of %v", list, r.Rows)
			}
			if got := impl.UncoveredOf(r, list); len(got) != 0 {
				t.Errorf("UncoveredOf %v and %v is %v, want no cells", r.Rows, list, got)
			}
		}
	}
}

// sublists returns all parts of a list, each in the same order.
func sublists(list []impl.Domino) [][]impl.Domino {
	parts := [][]impl.Domino{nil}
	for _, d := range list {
		for _, part := range parts[:len(parts):len(parts)] {
			parts = append(parts, append(slices.Clone(part), d))
		}
	}
	return parts
}

// hasOverlaps reports whether two dominoes of list have a cell in common.
func hasOverlaps(list []impl.Domino) bool {
	for _, n := range countsOver(list) {
		if n > 1 {
			return true
		}
	}
	return false
}

func TestAllListsOfSmallFloors(t *testing.T) {
	cases := []struct {
		lines             []string
		partials, tilings int
	}{
		{[]string{"#"}, 1, 0},
		{[]string{"##"}, 2, 1},
		{[]string{"#", "#"}, 2, 1},
		{[]string{"###"}, 3, 0},
		{[]string{"########"}, 34, 1},
		{[]string{"#", "#", "#", "#", "#", "#", "#", "#"}, 34, 1},
		{[]string{"##", "##"}, 7, 2},
		{[]string{"###", "###"}, 22, 3},
		{[]string{"##", "##", "##"}, 22, 3},
		{[]string{"####", "####"}, 71, 5},
		{[]string{"###", "###", "###"}, 131, 0},
		{[]string{"", "", "", "", "", ".....###", ".....###", ".....###"}, 131, 0},
		{[]string{"###", "#.#", "###"}, 47, 2},
		{[]string{"", "", "..###", "..#.#", "..###", ""}, 47, 2},
		{[]string{"##", ".##", "..##"}, 13, 1},
		{[]string{"##..##", "##..##"}, 49, 4},
	}
	for _, c := range cases {
		r, partials, tilings := regionOf(c.lines), 0, 0
		for _, list := range sublists(dominoesOn(c.lines)) {
			checkList(t, c.lines, list, !hasOverlaps(list))
			if impl.IsPartial(r, list) {
				partials++
			}
			if impl.IsTiling(r, list) {
				tilings++
			}
		}
		if partials != c.partials || tilings != c.tilings {
			t.Errorf("%q has %d partial lists and %d tilings, want %d and %d", c.lines, partials, tilings, c.partials, c.tilings)
		}
	}
}

func TestIsPartialOfAllPairs(t *testing.T) {
	full := linesOf(fullLine, 8)
	for i, d := range allDominoes() {
		for j, e := range allDominoes() {
			list := []impl.Domino{d, e}
			want := i < j && !hasOverlaps(list)
			if got := impl.IsPartial(regionOf(full), list); got != want {
				t.Errorf("IsPartial of the full board and %v is %v, want %v", list, got, want)
			}
		}
	}
}

// permutations returns all orders of a list.
func permutations(list []impl.Domino) [][]impl.Domino {
	if len(list) == 0 {
		return [][]impl.Domino{nil}
	}
	var orders [][]impl.Domino
	for _, rest := range permutations(list[1:]) {
		for i := range len(list) {
			orders = append(orders, slices.Insert(slices.Clone(rest), i, list[0]))
		}
	}
	return orders
}

func TestOnlyTheListInOrderIsATiling(t *testing.T) {
	lines := []string{"####", "#..#", "####"}
	list := []impl.Domino{across(0, 0), across(2, 0), down(0, 1), down(3, 1), across(1, 2)}
	orders := permutations(list)
	if len(orders) != 120 {
		t.Fatalf("there are %d orders, want 120", len(orders))
	}
	for _, order := range orders {
		checkList(t, lines, order, slices.Equal(order, list))
		if got := impl.SortDominoes(order); !slices.Equal(got, list) {
			t.Errorf("SortDominoes of %v is %v, want %v", order, got, list)
		}
	}
}

// mixedDominoes returns the dominoes on the lines in an order that looks like none, always the same one.
func mixedDominoes(lines []string, seed uint32) []impl.Domino {
	list := dominoesOn(lines)
	for i := len(list) - 1; i > 0; i-- {
		seed = seed*1664525 + 1013904223
		j := int(seed>>8) % (i + 1)
		list[i], list[j] = list[j], list[i]
	}
	return list
}

// inBoardOrder returns the dominoes of list that lie on the board, each once, in the order of the board.
func inBoardOrder(list []impl.Domino) []impl.Domino {
	return slices.DeleteFunc(allDominoes(), func(d impl.Domino) bool { return !slices.Contains(list, d) })
}

func TestDominoesCoverTwoCellsEach(t *testing.T) {
	for i, r := range mixedRegions(120, 13) {
		lines := impl.RegionText(r)
		var list []impl.Domino
		for _, d := range mixedDominoes(lines, uint32(i)) {
			longer := inBoardOrder(append(slices.Clone(list), d))
			checkList(t, lines, longer, !hasOverlaps(longer))
			if !hasOverlaps(longer) {
				list = longer
			}
		}
		if got, want := len(impl.UncoveredOf(r, list)), impl.CountCells(r)-2*len(list); got != want {
			t.Errorf("UncoveredOf %v and %v has %d cells, want %d", r.Rows, list, got, want)
		}
		if len(list) > 1 {
			swapped := slices.Clone(list)
			swapped[0], swapped[len(list)-1] = swapped[len(list)-1], swapped[0]
			checkList(t, lines, swapped, false)
		}
	}
}

func TestTilingsOfTheFullBoard(t *testing.T) {
	full := linesOf(fullLine, 8)
	var rows, columns []impl.Domino
	for y := range 8 {
		for x := range 8 {
			if x%2 == 0 {
				rows = append(rows, across(x, y))
			}
			if y%2 == 0 {
				columns = append(columns, down(x, y))
			}
		}
	}
	for _, list := range [][]impl.Domino{rows, columns} {
		checkList(t, full, list, true)
		if !impl.IsTiling(regionOf(full), list) {
			t.Errorf("%v is no tiling of the full board", list)
		}
		for i := range list {
			shorter := slices.Delete(slices.Clone(list), i, i+1)
			checkList(t, full, shorter, true)
			if impl.IsTiling(regionOf(full), shorter) {
				t.Errorf("%v is a tiling of the full board", shorter)
			}
			checkList(t, full, slices.Insert(slices.Clone(list), i, list[i]), false)
		}
	}
}

func TestTilingsRejectInvalidRegions(t *testing.T) {
	lists := [][]impl.Domino{nil, {}, {across(0, 0)}, {across(0, 0), across(0, 1)}, {across(7, 7)}}
	for _, r := range invalidRegions() {
		for _, list := range lists {
			if impl.IsPartial(r, list) || impl.IsTiling(r, list) {
				t.Errorf("%v is partial or a tiling of %v", list, r.Rows)
			}
			if got := impl.UncoveredOf(r, list); len(got) != 0 {
				t.Errorf("UncoveredOf %v and %v is %v, want nil", r.Rows, list, got)
			}
		}
	}
}

func TestListsWithInvalidDominoesAreNotPartial(t *testing.T) {
	r := regionOf(linesOf(fullLine, 8))
	for _, d := range invalidDominoes() {
		lists := [][]impl.Domino{{d}, {d, across(0, 0)}, {across(0, 0), d}, {across(0, 0), d, across(4, 4)}, {across(0, 0), across(4, 4), d}}
		for _, list := range lists {
			if impl.IsPartial(r, list) || impl.IsTiling(r, list) {
				t.Errorf("%v is partial or a tiling of the full board", list)
			}
		}
	}
}

func TestDominoAt(t *testing.T) {
	tiling := []impl.Domino{across(0, 0), down(2, 0), down(0, 1), across(1, 2)}
	cases := []struct {
		name string
		list []impl.Domino
		c    impl.Cell
		want int
	}{
		{"the first cell across", tiling, impl.Cell{X: 0, Y: 0}, 0},
		{"the second cell across", tiling, impl.Cell{X: 1, Y: 0}, 0},
		{"the first cell down", tiling, impl.Cell{X: 2, Y: 0}, 1},
		{"the second cell down", tiling, impl.Cell{X: 2, Y: 1}, 1},
		{"the last domino", tiling, impl.Cell{X: 2, Y: 2}, 3},
		{"a cell that no domino covers", tiling, impl.Cell{X: 1, Y: 1}, -1},
		{"a cell behind a domino", tiling, impl.Cell{X: 3, Y: 2}, -1},
		{"no list", nil, impl.Cell{X: 0, Y: 0}, -1},
		{"an empty list", []impl.Domino{}, impl.Cell{X: 0, Y: 0}, -1},
		{"two dominoes cover the cell", []impl.Domino{down(5, 5), across(3, 3), down(4, 2)}, impl.Cell{X: 4, Y: 3}, 1},
		{"two dominoes cover the cell, the other way round", []impl.Domino{down(5, 5), down(4, 2), across(3, 3)}, impl.Cell{X: 4, Y: 3}, 1},
		{"two dominoes with the same first cell", []impl.Domino{down(3, 3), across(3, 3)}, impl.Cell{X: 3, Y: 3}, 0},
		{"the same domino twice", []impl.Domino{across(3, 3), across(3, 3)}, impl.Cell{X: 4, Y: 3}, 0},
		{"out of order", []impl.Domino{across(4, 4), across(0, 0)}, impl.Cell{X: 0, Y: 0}, 1},
		{"out of the last column", []impl.Domino{across(7, 3)}, impl.Cell{X: 7, Y: 3}, -1},
		{"out of the last row", []impl.Domino{down(3, 7)}, impl.Cell{X: 3, Y: 7}, -1},
		{"into the first column", []impl.Domino{across(-1, 3)}, impl.Cell{X: 0, Y: 3}, -1},
		{"into the first row", []impl.Domino{down(3, -1)}, impl.Cell{X: 3, Y: 0}, -1},
		{"two zero Cells of a domino that is not valid", []impl.Domino{across(9, 9)}, impl.Cell{X: 0, Y: 0}, -1},
		{"behind a domino that is not valid", []impl.Domino{across(7, 3), down(7, 3)}, impl.Cell{X: 7, Y: 3}, 1},
		{"before a domino that is not valid", []impl.Domino{down(7, 3), across(7, 3)}, impl.Cell{X: 7, Y: 3}, 0},
	}
	for _, c := range cases {
		if got := impl.DominoAt(c.list, c.c); got != c.want {
			t.Errorf("%s: DominoAt(%v, %v) is %d, want %d", c.name, c.list, c.c, got, c.want)
		}
	}
}

func TestDominoAtAllCells(t *testing.T) {
	all := allDominoes()
	for _, list := range [][]impl.Domino{all, mixedDominoes(linesOf(fullLine, 8), 5), all[50:60]} {
		mixed := slices.Concat(invalidDominoes(), list)
		for _, c := range validCells() {
			want := slices.IndexFunc(list, func(d impl.Domino) bool {
				under := shownUnder(d)
				return under[0] == c || under[1] == c
			})
			if got := impl.DominoAt(list, c); got != want {
				t.Errorf("DominoAt of %v and %v is %d, want %d", list, c, got, want)
			}
			if want >= 0 {
				want += len(invalidDominoes())
			}
			if got := impl.DominoAt(mixed, c); got != want {
				t.Errorf("DominoAt behind dominoes that are not valid is %d for %v, want %d", got, c, want)
			}
		}
	}
}

func TestDominoAtRejects(t *testing.T) {
	all, invalid := allDominoes(), invalidDominoes()
	for _, c := range invalidCells() {
		// Some dominoes that are not valid lie over these cells.
		for _, list := range [][]impl.Domino{nil, all, invalid, {across(c.X, c.Y)}, {down(c.X, c.Y)}} {
			if got := impl.DominoAt(list, c); got != -1 {
				t.Errorf("DominoAt is %d for the cell %v, which is not valid", got, c)
			}
		}
	}
	for _, c := range validCells() {
		if got := impl.DominoAt(invalid, c); got != -1 {
			t.Errorf("DominoAt is %d for %v, but no domino is valid", got, c)
		}
	}
}

func TestSortDominoes(t *testing.T) {
	cases := []struct {
		name       string
		list, want []impl.Domino
	}{
		{"no list", nil, nil},
		{"an empty list", []impl.Domino{}, nil},
		{"one domino", []impl.Domino{down(3, 3)}, []impl.Domino{down(3, 3)}},
		{"in order", []impl.Domino{across(0, 0), across(0, 1)}, []impl.Domino{across(0, 0), across(0, 1)}},
		{"out of order", []impl.Domino{across(0, 1), across(0, 0)}, []impl.Domino{across(0, 0), across(0, 1)}},
		{"the same first cell", []impl.Domino{down(2, 2), across(2, 2)}, []impl.Domino{across(2, 2), down(2, 2)}},
		{"rows before columns", []impl.Domino{across(0, 3), down(7, 2)}, []impl.Domino{down(7, 2), across(0, 3)}},
		{"doubles side by side", []impl.Domino{across(1, 1), across(1, 1), across(1, 1)}, []impl.Domino{across(1, 1)}},
		{"doubles apart", []impl.Domino{down(1, 1), across(1, 1), down(1, 1), across(0, 0), across(1, 1)}, []impl.Domino{across(0, 0), across(1, 1), down(1, 1)}},
		{"overlapping dominoes", []impl.Domino{across(1, 0), across(0, 0)}, []impl.Domino{across(0, 0), across(1, 0)}},
		{"only dominoes that are not valid", []impl.Domino{across(7, 0), down(0, 7), across(-1, 0)}, nil},
		{"dominoes that are not valid in between", []impl.Domino{across(7, 0), across(4, 4), down(0, 7), across(0, 0), across(7, 0), across(4, 4)}, []impl.Domino{across(0, 0), across(4, 4)}},
	}
	for _, c := range cases {
		if got := impl.SortDominoes(c.list); !slices.Equal(got, c.want) {
			t.Errorf("%s: SortDominoes(%v) is %v, want %v", c.name, c.list, got, c.want)
		}
	}
}

func TestSortDominoesOfLongLists(t *testing.T) {
	all, invalid := allDominoes(), invalidDominoes()
	if got := impl.SortDominoes(invalid); len(got) != 0 {
		t.Errorf("SortDominoes of dominoes that are not valid is %v", got)
	}
	for seed := range uint32(40) {
		mixed := mixedDominoes(linesOf(fullLine, 8), seed)
		part := mixed[:1+seed*2]
		lists := [][]impl.Domino{mixed, part, slices.Concat(part, part), slices.Concat(invalid, part, invalid, part[:1])}
		for _, list := range lists {
			got, want := impl.SortDominoes(list), inBoardOrder(list)
			if !slices.Equal(got, want) {
				t.Errorf("SortDominoes of %v is %v, want %v", list, got, want)
			}
			if again := impl.SortDominoes(got); !slices.Equal(again, want) {
				t.Errorf("SortDominoes of the sorted %v is %v", got, again)
			}
		}
	}
	if got := impl.SortDominoes(slices.Repeat(all, 30)); !slices.Equal(got, all) {
		t.Errorf("SortDominoes of all dominoes 30 times is %v", got)
	}
}

func TestUncoveredOf(t *testing.T) {
	full := linesOf(fullLine, 8)
	square, ring := []string{"##", "##"}, []string{"###", "#.#", "###"}
	cases := []struct {
		name  string
		lines []string
		list  []impl.Domino
		want  []impl.Cell
	}{
		{"no dominoes", square, nil, cellsShown(square)},
		{"one domino across", square, []impl.Domino{across(0, 0)}, []impl.Cell{{X: 0, Y: 1}, {X: 1, Y: 1}}},
		{"one domino down", square, []impl.Domino{down(0, 0)}, []impl.Cell{{X: 1, Y: 0}, {X: 1, Y: 1}}},
		{"a tiling", square, []impl.Domino{down(0, 0), down(1, 0)}, nil},
		{"a tiling out of order", square, []impl.Domino{down(1, 0), down(0, 0)}, nil},
		{"the same domino twice", square, []impl.Domino{across(0, 1), across(0, 1)}, []impl.Cell{{X: 0, Y: 0}, {X: 1, Y: 0}}},
		{"dominoes that overlap", square, []impl.Domino{across(0, 0), down(1, 0)}, []impl.Cell{{X: 0, Y: 1}}},
		{"overlaps cover all cells", square, []impl.Domino{across(0, 0), down(0, 0), down(1, 0)}, nil},
		{"one cell of a domino outside the region", square, []impl.Domino{across(1, 0)}, []impl.Cell{{X: 0, Y: 0}, {X: 0, Y: 1}, {X: 1, Y: 1}}},
		{"a domino below the region", square, []impl.Domino{down(1, 1)}, []impl.Cell{{X: 0, Y: 0}, {X: 1, Y: 0}, {X: 0, Y: 1}}},
		{"a domino outside the region", square, []impl.Domino{across(4, 4)}, cellsShown(square)},
		{"a domino over a hole", ring, []impl.Domino{across(1, 1)}, cellsShown([]string{"###", "#..", "###"})},
		{"out of the last column", full, []impl.Domino{across(7, 3)}, cellsShown(full)},
		{"out of the last row", full, []impl.Domino{down(3, 7)}, cellsShown(full)},
		{"into the first column", full, []impl.Domino{across(-1, 3)}, cellsShown(full)},
		{"into the first row", full, []impl.Domino{down(3, -1)}, cellsShown(full)},
		{"two zero Cells of a domino that is not valid", full, []impl.Domino{across(9, 9)}, cellsShown(full)},
		{"a domino that is not valid before a valid one", square, []impl.Domino{across(-1, 0), across(0, 1)}, []impl.Cell{{X: 0, Y: 0}, {X: 1, Y: 0}}},
	}
	for _, c := range cases {
		if got := impl.UncoveredOf(regionOf(c.lines), c.list); !slices.Equal(got, c.want) {
			t.Errorf("%s: UncoveredOf %q and %v is %v, want %v", c.name, c.lines, c.list, got, c.want)
		}
	}
}

func TestUncoveredOfMixedLists(t *testing.T) {
	regions := append(mixedRegions(60, 9), impl.Region{}, regionOf(linesOf(fullLine, 8)))
	for i, r := range regions {
		lines := impl.RegionText(r)
		mixed := mixedDominoes(linesOf(fullLine, 8), uint32(i))[:i]
		lists := [][]impl.Domino{nil, mixed, invalidDominoes(), slices.Concat(invalidDominoes(), mixed)}
		for _, list := range lists {
			if got, want := impl.UncoveredOf(r, list), shownUncovered(lines, list); !slices.Equal(got, want) {
				t.Errorf("UncoveredOf %v and %v is %v, want %v", r.Rows, list, got, want)
			}
		}
	}
}

func TestTilingText(t *testing.T) {
	cases := []struct {
		name string
		list []impl.Domino
		want string
	}{
		{"no list", nil, ""},
		{"an empty list", []impl.Domino{}, ""},
		{"one across", []impl.Domino{across(0, 0)}, "0,0r"},
		{"one down", []impl.Domino{down(7, 6)}, "7,6d"},
		{"a tiling", []impl.Domino{across(0, 0), across(0, 1)}, "0,0r 0,1r"},
		{"a tiling around a hole", []impl.Domino{across(0, 0), down(2, 0), down(0, 1), across(1, 2)}, "0,0r 2,0d 0,1d 1,2r"},
		{"out of order", []impl.Domino{across(0, 1), across(0, 0)}, "0,1r 0,0r"},
		{"the same domino twice", []impl.Domino{down(1, 2), down(1, 2)}, "1,2d 1,2d"},
		{"dominoes that overlap", []impl.Domino{across(0, 0), down(0, 0)}, "0,0r 0,0d"},
	}
	for _, c := range cases {
		if got := impl.TilingText(c.list); got != c.want {
			t.Errorf("%s: TilingText(%v) is %q, want %q", c.name, c.list, got, c.want)
		}
	}
	for _, d := range invalidDominoes() {
		lists := [][]impl.Domino{{d}, {d, across(0, 0)}, {across(0, 0), d}, {across(0, 0), d, across(0, 1)}, {d, d}}
		for _, list := range lists {
			if got := impl.TilingText(list); got != "" {
				t.Errorf("TilingText(%v) is %q, want no text", list, got)
			}
		}
	}
}

func TestTilingTextOfLongLists(t *testing.T) {
	list := slices.Repeat(allDominoes(), 5)
	texts := strings.Split(impl.TilingText(list), " ")
	if len(texts) != len(list) {
		t.Fatalf("TilingText of %d dominoes has %d parts", len(list), len(texts))
	}
	for i, text := range texts {
		if want := impl.DominoText(list[i]); text != want {
			t.Errorf("part %d of TilingText is %q, want %q", i, text, want)
		}
	}
}

// listWithSpare returns a list with these dominoes whose memory goes on behind them, and all of that memory.
func listWithSpare(list []impl.Domino) ([]impl.Domino, []impl.Domino) {
	memory := append(slices.Clone(list), slices.Repeat([]impl.Domino{down(5, 5)}, 12)...)
	return memory[:len(list)], memory
}

// listsToKeep returns lists in order and out of order, with doubles, and with dominoes that are not valid.
func listsToKeep() [][]impl.Domino {
	return [][]impl.Domino{
		{},
		{across(0, 0)},
		{across(0, 0), across(0, 1)},
		{across(0, 1), across(0, 0)},
		{down(1, 0), across(0, 0), down(1, 0), down(0, 0)},
		{across(7, 0), across(4, 4), down(0, 7), across(0, 0), across(7, 0), across(4, 4)},
		{across(7, 0), down(0, 7)},
		mixedDominoes(linesOf(fullLine, 8), 3),
	}
}

func TestTilingFunctionsLeaveArguments(t *testing.T) {
	for _, from := range listsToKeep() {
		for _, rows := range [][]int{{}, {3, 3}, {7, 5, 7}, slices.Repeat([]int{255}, 8), {256}, make([]int, 9)} {
			r, rowMemory := withSpare(rows)
			list, memory := listWithSpare(from)
			rowsBefore, before := slices.Clone(rowMemory), slices.Clone(memory)
			impl.IsPartial(r, list)
			impl.IsTiling(r, list)
			impl.SortDominoes(list)
			impl.UncoveredOf(r, list)
			impl.TilingText(list)
			for _, c := range []impl.Cell{{X: 0, Y: 0}, {X: 4, Y: 4}, {X: 7, Y: 7}, {X: 8, Y: 0}} {
				impl.DominoAt(list, c)
			}
			if !slices.Equal(rowMemory, rowsBefore) || !slices.Equal(memory, before) {
				t.Errorf("the arguments %v and %v became %v and %v", rowsBefore, before, rowMemory, memory)
			}
		}
	}
}

func TestSortDominoesReturnsNewMemory(t *testing.T) {
	for _, from := range listsToKeep() {
		list, memory := listWithSpare(from)
		before, want := slices.Clone(memory), inBoardOrder(from)
		first, second := impl.SortDominoes(list), impl.SortDominoes(list)
		all := first[:cap(first)]
		for i := range all {
			all[i] = across(6, 6)
		}
		if !slices.Equal(memory, before) {
			t.Errorf("a changed result of SortDominoes changes the argument %v to %v", before, memory)
		}
		for i := range memory {
			memory[i] = down(6, 6)
		}
		if !slices.Equal(second, want) {
			t.Errorf("a changed argument or other result changes the result %v to %v", want, second)
		}
	}
}

func TestUncoveredOfReturnsNewMemory(t *testing.T) {
	r, rowMemory := withSpare([]int{7, 5, 7})
	list, memory := listWithSpare([]impl.Domino{across(0, 0), down(2, 0)})
	rowsBefore, before := slices.Clone(rowMemory), slices.Clone(memory)
	want := []impl.Cell{{X: 0, Y: 1}, {X: 0, Y: 2}, {X: 1, Y: 2}, {X: 2, Y: 2}}
	first, second := impl.UncoveredOf(r, list), impl.UncoveredOf(r, list)
	all := first[:cap(first)]
	for i := range all {
		all[i] = impl.Cell{X: 6, Y: 6}
	}
	if !slices.Equal(rowMemory, rowsBefore) || !slices.Equal(memory, before) {
		t.Error("a changed result changes an argument", rowMemory, memory)
	}
	if again := impl.UncoveredOf(r, list); !slices.Equal(again, want) {
		t.Error("a changed result changes a later one", again)
	}
	overwrite(r)
	for i := range memory {
		memory[i] = across(6, 6)
	}
	if !slices.Equal(second, want) {
		t.Error("a changed argument or other result changes a result", second)
	}
}

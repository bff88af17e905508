package tests

import (
	"math"
	"slices"
	"testing"

	"loop.example/g03300/impl"
)

// board shows the colors of all valid cells: # is black, and a point is white.
func board() []string {
	return []string{
		"#.#.#.#.",
		".#.#.#.#",
		"#.#.#.#.",
		".#.#.#.#",
		"#.#.#.#.",
		".#.#.#.#",
		"#.#.#.#.",
		".#.#.#.#",
	}
}

// validCells returns all cells of the board, row by row.
func validCells() []impl.Cell {
	var cells []impl.Cell
	for y, line := range board() {
		for x := range line {
			cells = append(cells, impl.Cell{X: x, Y: y})
		}
	}
	return cells
}

// invalidCells returns the cells of a ring two cells wide around the board, and cells with numbers that wrap around.
func invalidCells() []impl.Cell {
	var cells []impl.Cell
	for y := -2; y <= 9; y++ {
		for x := -2; x <= 9; x++ {
			if x < 0 || x > 7 || y < 0 || y > 7 {
				cells = append(cells, impl.Cell{X: x, Y: y})
			}
		}
	}
	far := []int{math.MinInt, math.MinInt + 1, -1 << 61, -256, -64, 64, 256, 1 << 32, 1 << 61, 1<<61 + 1, math.MaxInt - 1, math.MaxInt}
	for _, n := range far {
		for _, near := range []int{0, 1, 7} {
			cells = append(cells, impl.Cell{X: n, Y: near}, impl.Cell{X: near, Y: n})
		}
		for _, m := range far {
			cells = append(cells, impl.Cell{X: n, Y: m})
		}
	}
	return cells
}

func TestCellLimits(t *testing.T) {
	if impl.MaxSide != 8 {
		t.Errorf("MaxSide is %d, want 8", impl.MaxSide)
	}
}

func TestCellOk(t *testing.T) {
	cells := validCells()
	if len(cells) != 64 {
		t.Fatalf("the board has %d cells, want 64", len(cells))
	}
	for _, c := range cells {
		if !impl.CellOk(c) {
			t.Errorf("CellOk(%v) is false", c)
		}
	}
	for _, c := range invalidCells() {
		if impl.CellOk(c) {
			t.Errorf("CellOk(%v) is true", c)
		}
	}
}

func TestIsBlack(t *testing.T) {
	lines := board()
	for _, c := range validCells() {
		if got, want := impl.IsBlack(c), lines[c.Y][c.X] == '#'; got != want {
			t.Errorf("IsBlack(%v) is %v, want %v", c, got, want)
		}
	}
	for _, c := range invalidCells() {
		if impl.IsBlack(c) {
			t.Errorf("IsBlack(%v) is true for a cell that is not valid", c)
		}
	}
}

func TestCellIndex(t *testing.T) {
	cases := map[impl.Cell]int{
		{X: 0, Y: 0}: 0,
		{X: 1, Y: 0}: 1,
		{X: 7, Y: 0}: 7,
		{X: 0, Y: 1}: 8,
		{X: 2, Y: 1}: 10,
		{X: 1, Y: 2}: 17,
		{X: 0, Y: 7}: 56,
		{X: 6, Y: 7}: 62,
		{X: 7, Y: 7}: 63,
	}
	for c, want := range cases {
		if got := impl.CellIndex(c); got != want {
			t.Errorf("CellIndex(%v) is %d, want %d", c, got, want)
		}
	}
	for _, c := range invalidCells() {
		if got := impl.CellIndex(c); got != -1 {
			t.Errorf("CellIndex(%v) is %d, want -1", c, got)
		}
	}
}

func TestCellAtReadsBackEachIndex(t *testing.T) {
	for i, c := range validCells() {
		if got := impl.CellIndex(c); got != i {
			t.Errorf("CellIndex(%v) is %d, want %d", c, got, i)
		}
		if got, ok := impl.CellAt(i); got != c || !ok {
			t.Errorf("CellAt(%d) is %v %v, want %v true", i, got, ok, c)
		}
	}
}

func TestCellAtRejects(t *testing.T) {
	indexes := []int{-1, -2, -7, -8, -9, -63, -64, 64, 65, 71, 72, 100, 128, 1 << 32, 1 << 61, math.MaxInt - 1, math.MaxInt, math.MinInt, math.MinInt + 1}
	for _, i := range indexes {
		if got, ok := impl.CellAt(i); got != (impl.Cell{}) || ok {
			t.Errorf("CellAt(%d) is %v %v, want the zero Cell and false", i, got, ok)
		}
	}
}

// haveSideInCommon says what the document says of two valid cells.
func haveSideInCommon(a, b impl.Cell) bool {
	switch {
	case a.Y == b.Y:
		return a.X == b.X+1 || a.X == b.X-1
	case a.X == b.X:
		return a.Y == b.Y+1 || a.Y == b.Y-1
	}
	return false
}

func TestAreNeighbors(t *testing.T) {
	cases := []struct {
		a, b impl.Cell
		want bool
	}{
		{impl.Cell{X: 1, Y: 1}, impl.Cell{X: 1, Y: 2}, true},
		{impl.Cell{X: 4, Y: 3}, impl.Cell{X: 3, Y: 3}, true},
		{impl.Cell{X: 0, Y: 0}, impl.Cell{X: 1, Y: 0}, true},
		{impl.Cell{X: 7, Y: 6}, impl.Cell{X: 7, Y: 7}, true},
		{impl.Cell{X: 2, Y: 5}, impl.Cell{X: 2, Y: 5}, false},
		{impl.Cell{X: 0, Y: 0}, impl.Cell{X: 0, Y: 0}, false},
		{impl.Cell{X: 1, Y: 1}, impl.Cell{X: 2, Y: 2}, false},
		{impl.Cell{X: 1, Y: 2}, impl.Cell{X: 2, Y: 1}, false},
		{impl.Cell{X: 3, Y: 3}, impl.Cell{X: 5, Y: 3}, false},
		{impl.Cell{X: 3, Y: 3}, impl.Cell{X: 3, Y: 5}, false},
		{impl.Cell{X: 3, Y: 3}, impl.Cell{X: 4, Y: 5}, false},
		{impl.Cell{X: 7, Y: 0}, impl.Cell{X: 0, Y: 1}, false},
		{impl.Cell{X: 7, Y: 4}, impl.Cell{X: 0, Y: 4}, false},
		{impl.Cell{X: 4, Y: 7}, impl.Cell{X: 4, Y: 0}, false},
	}
	for _, c := range cases {
		if impl.AreNeighbors(c.a, c.b) != c.want || impl.AreNeighbors(c.b, c.a) != c.want {
			t.Errorf("AreNeighbors of %v and %v is not %v both ways", c.a, c.b, c.want)
		}
	}
}

func TestAreNeighborsOfAllPairs(t *testing.T) {
	count := 0
	for _, a := range validCells() {
		for _, b := range validCells() {
			want := haveSideInCommon(a, b)
			if got := impl.AreNeighbors(a, b); got != want {
				t.Errorf("AreNeighbors(%v, %v) is %v, want %v", a, b, got, want)
			}
			if want {
				count++
			}
		}
	}
	// 8 lines and 8 columns have 7 pairs each, and each pair is met in both orders.
	if count != 2*2*8*7 {
		t.Errorf("%d ordered pairs of neighbors, want %d", count, 2*2*8*7)
	}
}

func TestAreNeighborsRejectsInvalidCells(t *testing.T) {
	invalid := invalidCells()
	for _, a := range invalid {
		for _, b := range append(validCells(), invalid...) {
			if impl.AreNeighbors(a, b) || impl.AreNeighbors(b, a) {
				t.Errorf("AreNeighbors is true for %v and %v", a, b)
			}
		}
	}
}

func TestNeighborsOf(t *testing.T) {
	cases := map[impl.Cell][]impl.Cell{
		{X: 0, Y: 0}: {{X: 1, Y: 0}, {X: 0, Y: 1}},
		{X: 7, Y: 0}: {{X: 6, Y: 0}, {X: 7, Y: 1}},
		{X: 0, Y: 7}: {{X: 0, Y: 6}, {X: 1, Y: 7}},
		{X: 7, Y: 7}: {{X: 7, Y: 6}, {X: 6, Y: 7}},
		{X: 3, Y: 0}: {{X: 2, Y: 0}, {X: 4, Y: 0}, {X: 3, Y: 1}},
		{X: 0, Y: 4}: {{X: 0, Y: 3}, {X: 1, Y: 4}, {X: 0, Y: 5}},
		{X: 7, Y: 2}: {{X: 7, Y: 1}, {X: 6, Y: 2}, {X: 7, Y: 3}},
		{X: 5, Y: 7}: {{X: 5, Y: 6}, {X: 4, Y: 7}, {X: 6, Y: 7}},
		{X: 1, Y: 1}: {{X: 1, Y: 0}, {X: 0, Y: 1}, {X: 2, Y: 1}, {X: 1, Y: 2}},
		{X: 4, Y: 3}: {{X: 4, Y: 2}, {X: 3, Y: 3}, {X: 5, Y: 3}, {X: 4, Y: 4}},
		{X: 6, Y: 6}: {{X: 6, Y: 5}, {X: 5, Y: 6}, {X: 7, Y: 6}, {X: 6, Y: 7}},
	}
	for c, want := range cases {
		if got := impl.NeighborsOf(c); !slices.Equal(got, want) {
			t.Errorf("NeighborsOf(%v) is %v, want %v", c, got, want)
		}
	}
}

// sidesOnBorder returns how many sides of a valid cell lie on the border.
func sidesOnBorder(c impl.Cell) int {
	sides := 0
	for _, n := range []int{c.X, c.Y} {
		if n == 0 || n == 7 {
			sides++
		}
	}
	return sides
}

func TestNeighborsOfEachCell(t *testing.T) {
	for _, c := range validCells() {
		var want []impl.Cell
		for _, n := range validCells() {
			if haveSideInCommon(c, n) {
				want = append(want, n)
			}
		}
		got := impl.NeighborsOf(c)
		if !slices.Equal(got, want) {
			t.Errorf("NeighborsOf(%v) is %v, want %v", c, got, want)
		}
		if len(got) != 4-sidesOnBorder(c) {
			t.Errorf("%v has %d neighbors and %d sides on the border", c, len(got), sidesOnBorder(c))
		}
	}
}

func TestNeighborsOfRejectsInvalidCells(t *testing.T) {
	for _, c := range invalidCells() {
		if got := impl.NeighborsOf(c); len(got) != 0 {
			t.Errorf("NeighborsOf(%v) is %v, want nil", c, got)
		}
	}
}

func TestNeighborsHaveDifferentColors(t *testing.T) {
	for _, c := range validCells() {
		for _, n := range impl.NeighborsOf(c) {
			if !impl.CellOk(n) || !impl.AreNeighbors(c, n) || !impl.AreNeighbors(n, c) {
				t.Errorf("%v is not a neighbor of %v", n, c)
			}
			if impl.IsBlack(c) == impl.IsBlack(n) {
				t.Errorf("the neighbors %v and %v have the same color", c, n)
			}
		}
	}
}

func TestNeighborsOfReturnsNewMemory(t *testing.T) {
	c := impl.Cell{X: 0, Y: 3}
	first, other := impl.NeighborsOf(c), impl.NeighborsOf(impl.Cell{X: 1, Y: 3})
	before := slices.Clone(other)
	for i := range first {
		first[i] = impl.Cell{X: 5, Y: 5}
	}
	_ = append(first, impl.Cell{X: 5, Y: 5})
	if !slices.Equal(other, before) {
		t.Error("a changed result changes another one", other)
	}
	want := []impl.Cell{{X: 0, Y: 2}, {X: 1, Y: 3}, {X: 0, Y: 4}}
	if again := impl.NeighborsOf(c); !slices.Equal(again, want) {
		t.Error("a changed result changes a later one", again)
	}
}

package tests

import (
	"testing"

	"loop.example/g03300/impl"
)

// across returns the domino that covers x, y and the cell to the right.
func across(x, y int) impl.Domino {
	return impl.Domino{X: x, Y: y}
}

// down returns the domino that covers x, y and the cell below.
func down(x, y int) impl.Domino {
	return impl.Domino{X: x, Y: y, Down: true}
}

// allDominoes returns all dominoes on the board in order: by the first cell, row by row, and across before down.
func allDominoes() []impl.Domino {
	var dominoes []impl.Domino
	for y := 0; y <= 7; y++ {
		for x := 0; x <= 7; x++ {
			if x < 7 {
				dominoes = append(dominoes, across(x, y))
			}
			if y < 7 {
				dominoes = append(dominoes, down(x, y))
			}
		}
	}
	return dominoes
}

// invalidDominoes returns dominoes of which the second cell, the first one or both are not valid.
func invalidDominoes() []impl.Domino {
	var dominoes []impl.Domino
	for n := 0; n <= 7; n++ {
		dominoes = append(dominoes, across(7, n), down(n, 7))
	}
	for _, c := range invalidCells() {
		dominoes = append(dominoes, across(c.X, c.Y), down(c.X, c.Y))
	}
	return dominoes
}

// shownUnder returns the cells that a domino on the board covers, as the document says it.
func shownUnder(d impl.Domino) [2]impl.Cell {
	if d.Down {
		return [2]impl.Cell{{X: d.X, Y: d.Y}, {X: d.X, Y: d.Y + 1}}
	}
	return [2]impl.Cell{{X: d.X, Y: d.Y}, {X: d.X + 1, Y: d.Y}}
}

func TestDominoOk(t *testing.T) {
	dominoes := allDominoes()
	// 8 lines have 7 dominoes across each, and 8 columns have 7 ones down.
	if len(dominoes) != 2*8*7 {
		t.Fatalf("there are %d dominoes, want %d", len(dominoes), 2*8*7)
	}
	for _, d := range dominoes {
		if !impl.DominoOk(d) {
			t.Errorf("DominoOk(%v) is false", d)
		}
	}
	for _, d := range invalidDominoes() {
		if impl.DominoOk(d) {
			t.Errorf("DominoOk(%v) is true", d)
		}
	}
}

func TestDominoOkAtTheBorder(t *testing.T) {
	cases := map[impl.Domino]bool{
		across(0, 0):  true,
		down(0, 0):    true,
		across(6, 7):  true,
		across(7, 7):  false,
		across(0, 7):  true,
		down(0, 7):    false,
		down(7, 7):    false,
		down(6, 7):    false,
		down(7, 6):    true,
		down(7, 0):    true,
		across(7, 0):  false,
		across(7, 6):  false,
		across(-1, 0): false,
		down(-1, 0):   false,
		across(0, -1): false,
		down(0, -1):   false,
	}
	for d, want := range cases {
		if got := impl.DominoOk(d); got != want {
			t.Errorf("DominoOk(%v) is %v, want %v", d, got, want)
		}
	}
}

func TestCellsUnder(t *testing.T) {
	cases := map[impl.Domino][2]impl.Cell{
		across(0, 0): {{X: 0, Y: 0}, {X: 1, Y: 0}},
		down(0, 0):   {{X: 0, Y: 0}, {X: 0, Y: 1}},
		across(3, 5): {{X: 3, Y: 5}, {X: 4, Y: 5}},
		down(1, 2):   {{X: 1, Y: 2}, {X: 1, Y: 3}},
		across(6, 7): {{X: 6, Y: 7}, {X: 7, Y: 7}},
		across(6, 0): {{X: 6, Y: 0}, {X: 7, Y: 0}},
		down(7, 6):   {{X: 7, Y: 6}, {X: 7, Y: 7}},
		down(0, 6):   {{X: 0, Y: 6}, {X: 0, Y: 7}},
	}
	for _, d := range allDominoes() {
		cases[d] = shownUnder(d)
	}
	for d, want := range cases {
		a, b := impl.CellsUnder(d)
		if a != want[0] || b != want[1] {
			t.Errorf("CellsUnder(%v) is %v and %v, want %v", d, a, b, want)
		}
	}
}

func TestCellsUnderRejectsInvalidDominoes(t *testing.T) {
	for _, d := range invalidDominoes() {
		if a, b := impl.CellsUnder(d); a != (impl.Cell{}) || b != (impl.Cell{}) {
			t.Errorf("CellsUnder(%v) is %v and %v, want two zero Cells", d, a, b)
		}
	}
}

func TestDominoCoversABlackCellAndAWhiteOne(t *testing.T) {
	lines := board()
	for _, d := range allDominoes() {
		a, b := impl.CellsUnder(d)
		if !impl.AreNeighbors(a, b) {
			t.Errorf("the cells %v and %v under %v are not neighbors", a, b, d)
		}
		if impl.IsBlack(a) == impl.IsBlack(b) {
			t.Errorf("the cells %v and %v under %v have the same color", a, b, d)
		}
		if shows(lines, a) == shows(lines, b) {
			t.Errorf("the board shows the same color for %v and %v under %v", a, b, d)
		}
		for _, pair := range [][2]impl.Cell{{a, b}, {b, a}} {
			if got, ok := impl.DominoOver(pair[0], pair[1]); got != d || !ok {
				t.Errorf("DominoOver(%v, %v) is %v %v, want %v true", pair[0], pair[1], got, ok, d)
			}
		}
	}
}

func TestDominoOver(t *testing.T) {
	cases := []struct {
		a, b impl.Cell
		want impl.Domino
	}{
		{impl.Cell{X: 0, Y: 0}, impl.Cell{X: 1, Y: 0}, across(0, 0)},
		{impl.Cell{X: 0, Y: 0}, impl.Cell{X: 0, Y: 1}, down(0, 0)},
		{impl.Cell{X: 1, Y: 2}, impl.Cell{X: 1, Y: 3}, down(1, 2)},
		{impl.Cell{X: 4, Y: 3}, impl.Cell{X: 5, Y: 3}, across(4, 3)},
		{impl.Cell{X: 6, Y: 7}, impl.Cell{X: 7, Y: 7}, across(6, 7)},
		{impl.Cell{X: 7, Y: 6}, impl.Cell{X: 7, Y: 7}, down(7, 6)},
	}
	for _, c := range cases {
		if got, ok := impl.DominoOver(c.a, c.b); got != c.want || !ok {
			t.Errorf("DominoOver(%v, %v) is %v %v, want %v true", c.a, c.b, got, ok, c.want)
		}
		if got, ok := impl.DominoOver(c.b, c.a); got != c.want || !ok {
			t.Errorf("DominoOver(%v, %v) is %v %v, want %v true", c.b, c.a, got, ok, c.want)
		}
	}
}

func TestDominoOverAllPairsOfCells(t *testing.T) {
	over := map[[2]impl.Cell]impl.Domino{}
	for _, d := range allDominoes() {
		under := shownUnder(d)
		over[under] = d
		over[[2]impl.Cell{under[1], under[0]}] = d
	}
	for _, a := range validCells() {
		for _, b := range validCells() {
			// Cells that are not neighbors, and a cell and itself, have no domino.
			want, has := over[[2]impl.Cell{a, b}]
			if got, ok := impl.DominoOver(a, b); got != want || ok != has {
				t.Errorf("DominoOver(%v, %v) is %v %v, want %v %v", a, b, got, ok, want, has)
			}
		}
	}
}

// checkNoDominoOver checks that no domino covers a and b, in either order.
func checkNoDominoOver(t *testing.T, a, b impl.Cell) {
	t.Helper()
	if got, ok := impl.DominoOver(a, b); got != (impl.Domino{}) || ok {
		t.Errorf("DominoOver(%v, %v) is %v %v, want the zero Domino and false", a, b, got, ok)
	}
	if got, ok := impl.DominoOver(b, a); got != (impl.Domino{}) || ok {
		t.Errorf("DominoOver(%v, %v) is %v %v, want the zero Domino and false", b, a, got, ok)
	}
}

func TestDominoOverRejects(t *testing.T) {
	// Not neighbors: the same cell, a cell between them, a corner in common, and ends of lines.
	checkNoDominoOver(t, impl.Cell{X: 0, Y: 0}, impl.Cell{X: 0, Y: 0})
	checkNoDominoOver(t, impl.Cell{X: 5, Y: 2}, impl.Cell{X: 5, Y: 2})
	checkNoDominoOver(t, impl.Cell{X: 1, Y: 1}, impl.Cell{X: 3, Y: 1})
	checkNoDominoOver(t, impl.Cell{X: 1, Y: 1}, impl.Cell{X: 1, Y: 3})
	checkNoDominoOver(t, impl.Cell{X: 1, Y: 3}, impl.Cell{X: 2, Y: 2})
	checkNoDominoOver(t, impl.Cell{X: 1, Y: 2}, impl.Cell{X: 2, Y: 3})
	checkNoDominoOver(t, impl.Cell{X: 7, Y: 3}, impl.Cell{X: 0, Y: 4})
	checkNoDominoOver(t, impl.Cell{X: 7, Y: 7}, impl.Cell{X: 0, Y: 7})
	checkNoDominoOver(t, impl.Cell{X: 7, Y: 7}, impl.Cell{X: 8, Y: 7})
	checkNoDominoOver(t, impl.Cell{X: 0, Y: 0}, impl.Cell{X: 0, Y: -1})
	invalid := invalidCells()
	for _, a := range invalid {
		for _, b := range append(validCells(), invalid...) {
			checkNoDominoOver(t, a, b)
		}
	}
}

func TestDoOverlap(t *testing.T) {
	cases := []struct {
		name string
		d, e impl.Domino
		want bool
	}{
		{"the first cell of both", across(3, 3), down(3, 3), true},
		{"the second cell of both", across(3, 3), down(4, 2), true},
		{"the second cell of one and the first of the other, across", across(3, 3), across(4, 3), true},
		{"the second cell of one and the first of the other, down", down(3, 3), down(3, 4), true},
		{"the second cell across and the first down", across(3, 3), down(4, 3), true},
		{"the second cell down and the first across", down(3, 3), across(3, 4), true},
		{"the second cell down and the second across", down(3, 3), across(2, 4), true},
		{"a domino across and itself", across(3, 3), across(3, 3), true},
		{"a domino down and itself", down(3, 3), down(3, 3), true},
		{"the last cell of the board", across(6, 7), down(7, 6), true},
		{"one above the other, across", across(3, 3), across(3, 4), false},
		{"one behind the other, across", across(3, 3), across(5, 3), false},
		{"side by side, down", down(3, 3), down(4, 3), false},
		{"one below the other, down", down(3, 3), down(3, 5), false},
		{"half beside, across", across(3, 3), across(4, 4), false},
		{"half beside, down", down(3, 3), down(4, 4), false},
		{"across at the side of one down", across(3, 3), down(5, 3), false},
		{"across below one down", down(3, 3), across(3, 5), false},
		{"across below one down, to the left", down(3, 3), across(2, 5), false},
		{"touching in a corner", across(3, 3), across(5, 4), false},
		{"touching in a corner, one down", across(3, 3), down(2, 4), false},
		{"the same row and far apart", across(0, 0), across(6, 0), false},
		{"the end of a row and the start of the next one", across(6, 0), across(0, 1), false},
		{"far apart", across(0, 0), down(7, 6), false},
	}
	for _, c := range cases {
		if got := impl.DoOverlap(c.d, c.e); got != c.want {
			t.Errorf("%s: DoOverlap(%v, %v) is %v, want %v", c.name, c.d, c.e, got, c.want)
		}
		if got := impl.DoOverlap(c.e, c.d); got != c.want {
			t.Errorf("%s: DoOverlap(%v, %v) is %v, want %v", c.name, c.e, c.d, got, c.want)
		}
	}
}

func TestDoOverlapOfAllPairs(t *testing.T) {
	for _, d := range allDominoes() {
		count := 0
		for _, e := range allDominoes() {
			want := false
			for _, a := range shownUnder(d) {
				for _, b := range shownUnder(e) {
					want = want || a == b
				}
			}
			if got := impl.DoOverlap(d, e); got != want {
				t.Errorf("DoOverlap(%v, %v) is %v, want %v", d, e, got, want)
			}
			if want {
				count++
			}
		}
		// Each neighbor of each of both cells is a domino over it, and d itself is met at both.
		under := shownUnder(d)
		if want := len(impl.NeighborsOf(under[0])) + len(impl.NeighborsOf(under[1])) - 1; count != want {
			t.Errorf("%d dominoes overlap %v, want %d", count, d, want)
		}
	}
}

func TestIsDominoBefore(t *testing.T) {
	cases := []struct {
		name string
		d, e impl.Domino
		want bool
	}{
		{"the same first cell, across and down", across(0, 0), down(0, 0), true},
		{"the same first cell, down and across", down(0, 0), across(0, 0), false},
		{"the same first cell in the middle", across(4, 3), down(4, 3), true},
		{"the same first cell in the middle, the other way round", down(4, 3), across(4, 3), false},
		{"a domino across and itself", across(4, 3), across(4, 3), false},
		{"a domino down and itself", down(4, 3), down(4, 3), false},
		{"the same row, across", across(2, 3), across(3, 3), true},
		{"the same row, across, the other way round", across(3, 3), across(2, 3), false},
		{"the same row, down before across", down(2, 3), across(3, 3), true},
		{"the same row, across after down", across(3, 3), down(2, 3), false},
		{"the same column, across", across(2, 3), across(2, 4), true},
		{"the same column, down", down(2, 4), down(2, 3), false},
		{"different rows, the lower one further left", down(7, 2), across(0, 3), true},
		{"different rows, the upper one further right", across(0, 3), down(7, 2), false},
		{"different rows, the lower one further right", down(0, 2), across(5, 3), true},
		{"different rows, the upper one further left", across(5, 3), down(0, 2), false},
		{"the first domino and the last one", across(0, 0), across(6, 7), true},
		{"the last domino and the first one", across(6, 7), across(0, 0), false},
	}
	for _, c := range cases {
		if got := impl.IsDominoBefore(c.d, c.e); got != c.want {
			t.Errorf("%s: IsDominoBefore(%v, %v) is %v, want %v", c.name, c.d, c.e, got, c.want)
		}
	}
}

func TestIsDominoBeforeOfAllPairs(t *testing.T) {
	for i, d := range allDominoes() {
		for j, e := range allDominoes() {
			if got := impl.IsDominoBefore(d, e); got != (i < j) {
				t.Errorf("IsDominoBefore(%v, %v) is %v, want %v", d, e, got, i < j)
			}
		}
	}
}

func TestPairsOfDominoesRejectInvalidOnes(t *testing.T) {
	invalid := invalidDominoes()
	for _, d := range invalid {
		for _, e := range append(allDominoes(), invalid...) {
			if impl.DoOverlap(d, e) || impl.DoOverlap(e, d) {
				t.Errorf("DoOverlap is true for %v and %v", d, e)
			}
			if impl.IsDominoBefore(d, e) || impl.IsDominoBefore(e, d) {
				t.Errorf("IsDominoBefore is true for %v and %v", d, e)
			}
		}
	}
}

func TestDominoText(t *testing.T) {
	cases := map[impl.Domino]string{
		across(0, 0): "0,0r",
		down(0, 0):   "0,0d",
		down(1, 2):   "1,2d",
		across(2, 1): "2,1r",
		across(6, 7): "6,7r",
		down(7, 6):   "7,6d",
		across(0, 7): "0,7r",
		down(7, 0):   "7,0d",
	}
	for _, d := range allDominoes() {
		letter := "r"
		if d.Down {
			letter = "d"
		}
		cases[d] = "01234567"[d.X:d.X+1] + "," + "01234567"[d.Y:d.Y+1] + letter
	}
	for d, want := range cases {
		if got := impl.DominoText(d); got != want {
			t.Errorf("DominoText(%v) is %q, want %q", d, got, want)
		}
	}
}

func TestDominoTextRejectsInvalidDominoes(t *testing.T) {
	for _, d := range invalidDominoes() {
		if got := impl.DominoText(d); got != "" {
			t.Errorf("DominoText(%v) is %q, want no text", d, got)
		}
	}
}

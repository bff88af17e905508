package tests

import (
	"slices"
	"testing"

	"loop.example/g03300/impl"
)

// squareOf returns the four cells of the square whose first cell is c.
func squareOf(c impl.Cell) []impl.Cell {
	return []impl.Cell{{X: c.X, Y: c.Y}, {X: c.X + 1, Y: c.Y}, {X: c.X, Y: c.Y + 1}, {X: c.X + 1, Y: c.Y + 1}}
}

// dominoesIn returns the dominoes on the board that cover only cells of the square whose first cell is c, in order; none if a cell of it is not on the board.
func dominoesIn(c impl.Cell) []impl.Domino {
	square, valid := squareOf(c), validCells()
	for _, corner := range square {
		if !slices.Contains(valid, corner) {
			return nil
		}
	}
	return slices.DeleteFunc(allDominoes(), func(d impl.Domino) bool {
		under := shownUnder(d)
		return !slices.Contains(square, under[0]) || !slices.Contains(square, under[1])
	})
}

// wantedPair returns two dominoes of list that cover just the square whose first cell is c, those across if there are two such pairs, and whether there are any.
func wantedPair(list []impl.Domino, c impl.Cell) ([]impl.Domino, bool) {
	inside := slices.DeleteFunc(dominoesIn(c), func(d impl.Domino) bool { return !slices.Contains(list, d) })
	// The domino across over the first cell is the first one in order, so that a pair with it is found first.
	for i, d := range inside {
		for _, e := range inside[i+1:] {
			if pair := []impl.Domino{d, e}; !hasOverlaps(pair) {
				return pair, true
			}
		}
	}
	return nil, false
}

// wantedFlip returns what FlipAt has to return.
func wantedFlip(list []impl.Domino, c impl.Cell) ([]impl.Domino, bool) {
	pair, ok := wantedPair(list, c)
	if !ok {
		return list, false
	}
	others := slices.Concat(list, dominoesIn(c))
	return inBoardOrder(slices.DeleteFunc(others, func(d impl.Domino) bool { return slices.Contains(pair, d) })), true
}

// wantedFlips returns what FlipAll has to return.
func wantedFlips(list []impl.Domino, cells []impl.Cell) ([]impl.Domino, bool) {
	if len(cells) > 200 {
		return list, false
	}
	flipped, ok := list, true
	for _, c := range cells {
		if flipped, ok = wantedFlip(flipped, c); !ok {
			return list, false
		}
	}
	return flipped, true
}

// wantedDown returns what CountDown has to return.
func wantedDown(list []impl.Domino) int {
	count, all := 0, allDominoes()
	for _, d := range list {
		if d.Down && slices.Contains(all, d) {
			count++
		}
	}
	return count
}

// checkFlip compares CanFlip and FlipAt with what is wanted, and reports whether there is a flip.
func checkFlip(t *testing.T, list []impl.Domino, c impl.Cell) bool {
	t.Helper()
	want, ok := wantedFlip(list, c)
	if got := impl.CanFlip(list, c); got != ok {
		t.Errorf("CanFlip of %v at %v is %v, want %v", list, c, got, ok)
	}
	if got, isFlip := impl.FlipAt(list, c); isFlip != ok || !slices.Equal(got, want) {
		t.Errorf("FlipAt of %v at %v is %v and %v, want %v and %v", list, c, got, isFlip, want, ok)
	}
	return ok
}

// checkFlips compares everything that Chapter 11 says of a list with what is wanted.
func checkFlips(t *testing.T, list []impl.Domino) {
	t.Helper()
	var cells []impl.Cell
	for _, c := range validCells() {
		if checkFlip(t, list, c) {
			cells = append(cells, c)
		}
	}
	if got := impl.FlipsOf(list); !slices.Equal(got, cells) {
		t.Errorf("FlipsOf %v is %v, want %v", list, got, cells)
	}
	if got, want := impl.CountDown(list), wantedDown(list); got != want {
		t.Errorf("CountDown of %v is %d, want %d", list, got, want)
	}
	checkFlipAll(t, list, cells)
	checkFlipAll(t, list, slices.Concat(cells, cells))
	for _, c := range cells {
		checkFlipAll(t, list, []impl.Cell{c})
		checkFlipAll(t, list, []impl.Cell{c, c})
	}
}

// checkFlipAll compares FlipAll with what is wanted.
func checkFlipAll(t *testing.T, list []impl.Domino, cells []impl.Cell) {
	t.Helper()
	want, ok := wantedFlips(list, cells)
	if got, all := impl.FlipAll(list, cells); all != ok || !slices.Equal(got, want) {
		t.Errorf("FlipAll of %v at %v is %v and %v, want %v and %v", list, cells, got, all, want, ok)
	}
}

// flipCase is a list, a cell, and the text of the list after a flip, or "" if there is none.
type flipCase struct {
	name string
	list []impl.Domino
	c    impl.Cell
	want string
}

// flipsOfPairs returns lists with a pair at the cell.
func flipsOfPairs() []flipCase {
	first, inside, last := impl.Cell{X: 0, Y: 0}, impl.Cell{X: 1, Y: 1}, impl.Cell{X: 6, Y: 6}
	return []flipCase{
		{"two across", []impl.Domino{across(0, 0), across(0, 1)}, first, "0,0d 1,0d"},
		{"two down", []impl.Domino{down(0, 0), down(1, 0)}, first, "0,0r 0,1r"},
		{"two across out of order", []impl.Domino{across(0, 1), across(0, 0)}, first, "0,0d 1,0d"},
		{"two down out of order", []impl.Domino{down(1, 0), down(0, 0)}, first, "0,0r 0,1r"},
		{"the last square, across", []impl.Domino{across(6, 6), across(6, 7)}, last, "6,6d 7,6d"},
		{"the last square, down", []impl.Domino{down(6, 6), down(7, 6)}, last, "6,6r 6,7r"},
		{"the lower border, across", []impl.Domino{across(3, 6), across(3, 7)}, impl.Cell{X: 3, Y: 6}, "3,6d 4,6d"},
		{"the lower border, down", []impl.Domino{down(0, 6), down(1, 6)}, impl.Cell{X: 0, Y: 6}, "0,6r 0,7r"},
		{"the right border, across", []impl.Domino{across(6, 0), across(6, 1)}, impl.Cell{X: 6, Y: 0}, "6,0d 7,0d"},
		{"the right border, down", []impl.Domino{down(6, 3), down(7, 3)}, impl.Cell{X: 6, Y: 3}, "6,3r 6,4r"},
		{"both pairs", []impl.Domino{across(0, 0), down(0, 0), down(1, 0), across(0, 1)}, first, "0,0d 1,0d"},
		{"both pairs, those down first", []impl.Domino{down(1, 0), down(0, 0), across(0, 1), across(0, 0)}, first, "0,0d 1,0d"},
		{"both pairs, several times", []impl.Domino{down(0, 0), across(0, 0), across(0, 0), down(1, 0), down(0, 0), across(0, 1), across(0, 0), across(0, 1)}, first, "0,0d 1,0d"},
		{"both pairs in the last square", []impl.Domino{down(6, 6), across(6, 6), across(6, 7), down(7, 6)}, last, "6,6d 7,6d"},
		{"across and one down to the left", []impl.Domino{across(0, 0), down(0, 0), across(0, 1)}, first, "0,0d 1,0d"},
		{"across and one down to the right", []impl.Domino{across(0, 0), down(1, 0), across(0, 1)}, first, "0,0d 1,0d"},
		{"down and one across above", []impl.Domino{down(0, 0), down(1, 0), across(0, 0)}, first, "0,0r 0,1r"},
		{"down and one across below", []impl.Domino{across(0, 1), down(0, 0), down(1, 0)}, first, "0,0r 0,1r"},
		{"the upper one twice", []impl.Domino{across(0, 0), across(0, 0), across(0, 1)}, first, "0,0d 1,0d"},
		{"the lower one three times", []impl.Domino{across(0, 1), across(0, 1), across(0, 0), across(0, 1)}, first, "0,0d 1,0d"},
		{"each one down twice", []impl.Domino{down(0, 0), down(1, 0), down(0, 0), down(1, 0)}, first, "0,0r 0,1r"},
		{"another one twice", []impl.Domino{across(4, 4), across(0, 0), across(0, 1), across(4, 4)}, first, "0,0d 1,0d 4,4r"},
		{"others before and behind", []impl.Domino{down(0, 0), across(2, 0), across(1, 1), across(1, 2), down(7, 6)}, inside, "0,0d 2,0r 1,1d 2,1d 7,6d"},
		{"others out of order", []impl.Domino{down(7, 6), down(1, 1), across(2, 0), down(2, 1), down(0, 0)}, inside, "0,0d 2,0r 1,1r 1,2r 7,6d"},
		{"one reaches out of the square, down", []impl.Domino{across(1, 1), across(1, 2), down(1, 2)}, inside, "1,1d 2,1d 1,2d"},
		{"one reaches into the square, across", []impl.Domino{across(0, 1), across(1, 1), across(1, 2)}, inside, "0,1r 1,1d 2,1d"},
		{"all around reach out, and a pair down lies there", []impl.Domino{across(0, 1), across(0, 2), across(2, 1), across(2, 2), down(1, 1), down(2, 1)}, inside, "0,1r 1,1r 2,1r 0,2r 1,2r 2,2r"},
		{"dominoes that are not valid", []impl.Domino{across(7, 0), across(1, 2), down(0, 7), across(1, 1), across(-1, 1), down(1, 1<<62)}, inside, "1,1d 2,1d"},
		{"the first of two pairs side by side", []impl.Domino{across(0, 0), across(0, 1), across(2, 0), across(2, 1)}, first, "0,0d 1,0d 2,0r 2,1r"},
		{"the second of two pairs side by side", []impl.Domino{across(0, 0), across(0, 1), across(2, 0), across(2, 1)}, impl.Cell{X: 2, Y: 0}, "0,0r 2,0d 3,0d 0,1r"},
		{"the middle two of four down", []impl.Domino{down(0, 0), down(1, 0), down(2, 0), down(3, 0)}, impl.Cell{X: 1, Y: 0}, "0,0d 1,0r 3,0d 1,1r"},
		{"the middle two of four across", []impl.Domino{across(0, 0), across(0, 1), across(0, 2), across(0, 3)}, impl.Cell{X: 0, Y: 1}, "0,0r 0,1d 1,1d 0,3r"},
	}
}

// noFlips returns lists without a pair at the cell.
func noFlips() []flipCase {
	first, inside := impl.Cell{X: 0, Y: 0}, impl.Cell{X: 1, Y: 1}
	pair := []impl.Domino{across(1, 1), across(1, 2)}
	return []flipCase{
		{"no list", nil, first, ""},
		{"an empty list", []impl.Domino{}, first, ""},
		{"the upper one across", []impl.Domino{across(0, 0)}, first, ""},
		{"the lower one across", []impl.Domino{across(0, 1)}, first, ""},
		{"the left one down", []impl.Domino{down(0, 0)}, first, ""},
		{"the right one down", []impl.Domino{down(1, 0)}, first, ""},
		{"the upper one twice", []impl.Domino{across(0, 0), across(0, 0)}, first, ""},
		{"the right one twice", []impl.Domino{down(1, 0), down(1, 0)}, first, ""},
		{"one of each pair, from the first cell", []impl.Domino{across(0, 0), down(0, 0)}, first, ""},
		{"one of each pair, upper and right", []impl.Domino{across(0, 0), down(1, 0)}, first, ""},
		{"one of each pair, left and lower", []impl.Domino{down(0, 0), across(0, 1)}, first, ""},
		{"one of each pair, right and lower", []impl.Domino{down(1, 0), across(0, 1)}, first, ""},
		{"the upper one and two that reach out below", []impl.Domino{across(1, 1), down(1, 2), down(2, 2)}, inside, ""},
		{"the lower one and two that reach out above", []impl.Domino{down(1, 0), down(2, 0), across(1, 2)}, inside, ""},
		{"the left one and two that reach out to the right", []impl.Domino{down(1, 1), across(2, 1), across(2, 2)}, inside, ""},
		{"the right one and two that reach out to the left", []impl.Domino{across(0, 1), across(0, 2), down(2, 1)}, inside, ""},
		{"four that reach out to the sides", []impl.Domino{across(0, 1), across(2, 1), across(0, 2), across(2, 2)}, inside, ""},
		{"four that reach out above and below", []impl.Domino{down(1, 0), down(2, 0), down(1, 2), down(2, 2)}, inside, ""},
		{"four that reach out all around", []impl.Domino{down(1, 0), across(2, 1), across(0, 2), down(2, 2)}, inside, ""},
		{"across, one to the right", []impl.Domino{across(1, 1), across(2, 2)}, inside, ""},
		{"across, one to the left", []impl.Domino{across(1, 1), across(0, 2)}, inside, ""},
		{"down, one lower", []impl.Domino{down(1, 1), down(2, 2)}, inside, ""},
		{"down, one higher", []impl.Domino{down(1, 1), down(2, 0)}, inside, ""},
		{"across with a row between them", []impl.Domino{across(0, 0), across(0, 2)}, first, ""},
		{"down with a column between them", []impl.Domino{down(0, 0), down(2, 0)}, first, ""},
		{"across in one row", []impl.Domino{across(0, 0), across(2, 0)}, first, ""},
		{"down in one column", []impl.Domino{down(0, 0), down(0, 2)}, first, ""},
		{"a pair to the right of the square", pair, impl.Cell{X: 0, Y: 1}, ""},
		{"a pair to the left of the square", pair, impl.Cell{X: 2, Y: 1}, ""},
		{"a pair below the square", pair, impl.Cell{X: 1, Y: 0}, ""},
		{"a pair above the square", pair, impl.Cell{X: 1, Y: 2}, ""},
		{"the last cell of a pair", pair, impl.Cell{X: 2, Y: 2}, ""},
		{"columns and rows exchanged", []impl.Domino{across(2, 5), across(2, 6)}, impl.Cell{X: 5, Y: 2}, ""},
		{"out of order, several times, and not valid", []impl.Domino{across(4, 4), across(7, 7), across(0, 0), across(0, 0), down(-1, 3)}, first, ""},
		{"below the last row", []impl.Domino{across(6, 7), across(6, 8)}, impl.Cell{X: 6, Y: 7}, ""},
		{"below the last row, down", []impl.Domino{down(0, 7), down(1, 7)}, impl.Cell{X: 0, Y: 7}, ""},
		{"behind the last column", []impl.Domino{down(7, 6), down(8, 6)}, impl.Cell{X: 7, Y: 6}, ""},
		{"behind the last column, across", []impl.Domino{across(7, 0), across(7, 1)}, impl.Cell{X: 7, Y: 0}, ""},
		{"the last cell", []impl.Domino{across(7, 7), across(7, 8), down(7, 7), down(8, 7)}, impl.Cell{X: 7, Y: 7}, ""},
		{"before the first column", []impl.Domino{across(-1, 0), across(-1, 1), down(-1, 0), down(0, 0)}, impl.Cell{X: -1, Y: 0}, ""},
		{"above the first row", []impl.Domino{across(0, -1), across(0, 0), down(0, -1), down(1, -1)}, impl.Cell{X: 0, Y: -1}, ""},
		{"the end of a row and the start of the next one", []impl.Domino{down(7, 0), down(0, 1)}, impl.Cell{X: 7, Y: 0}, ""},
		{"the end of a row and the start of the same one", []impl.Domino{down(7, 0), down(0, 0)}, impl.Cell{X: 7, Y: 0}, ""},
		{"the last row and the first one", []impl.Domino{across(0, 7), across(0, 0)}, impl.Cell{X: 0, Y: 7}, ""},
		{"the wrong side of a domino that is not valid", []impl.Domino{across(0, 6), across(0, 7), across(7, 6), across(7, 7)}, impl.Cell{X: 7, Y: 6}, ""},
	}
}

func TestFlipAt(t *testing.T) {
	for _, c := range flipsOfPairs() {
		if !impl.CanFlip(c.list, c.c) {
			t.Errorf("%s: CanFlip of %v at %v is false", c.name, c.list, c.c)
		}
		got, ok := impl.FlipAt(c.list, c.c)
		if !ok || impl.TilingText(got) != c.want {
			t.Errorf("%s: FlipAt of %v at %v is %v and %v, want %q", c.name, c.list, c.c, got, ok, c.want)
		}
		checkFlips(t, c.list)
	}
	for _, c := range noFlips() {
		if impl.CanFlip(c.list, c.c) {
			t.Errorf("%s: CanFlip of %v at %v is true", c.name, c.list, c.c)
		}
		if got, ok := impl.FlipAt(c.list, c.c); ok || !slices.Equal(got, c.list) {
			t.Errorf("%s: FlipAt of %v at %v is %v and %v, want the list and false", c.name, c.list, c.c, got, ok)
		}
		checkFlips(t, c.list)
	}
}

// pairsAt returns both pairs at a cell, across first, whether they lie on the board or not.
func pairsAt(c impl.Cell) ([]impl.Domino, []impl.Domino) {
	return []impl.Domino{across(c.X, c.Y), across(c.X, c.Y+1)}, []impl.Domino{down(c.X, c.Y), down(c.X+1, c.Y)}
}

func TestFlipsAtAllCells(t *testing.T) {
	flips := 0
	for _, c := range append(validCells(), invalidCells()...) {
		rows, columns := pairsAt(c)
		isFlip := c.X >= 0 && c.X <= 6 && c.Y >= 0 && c.Y <= 6
		if isFlip {
			flips++
		}
		cases := []struct{ list, want []impl.Domino }{
			{rows, columns},
			{columns, rows},
			{slices.Concat(rows, columns), columns},
			{slices.Concat(columns, rows), columns},
		}
		for _, pair := range cases {
			wantCells, want := []impl.Cell{c}, pair.want
			if !isFlip {
				wantCells, want = nil, pair.list
			}
			got, ok := impl.FlipAt(pair.list, c)
			if ok != isFlip || !slices.Equal(got, want) || impl.CanFlip(pair.list, c) != isFlip {
				t.Errorf("FlipAt of %v at %v is %v and %v, want %v and %v", pair.list, c, got, ok, want, isFlip)
			}
			if cells := impl.FlipsOf(pair.list); !slices.Equal(cells, wantCells) {
				t.Errorf("FlipsOf %v is %v, want %v", pair.list, cells, wantCells)
			}
			for _, single := range pair.list {
				checkFlip(t, []impl.Domino{single}, c)
			}
		}
	}
	if flips != 49 {
		t.Errorf("there were flips at %d cells, want 49", flips)
	}
}

func TestFlipsOfAllPairs(t *testing.T) {
	all, pairs := allDominoes(), 0
	for _, d := range all {
		for _, e := range all {
			list := []impl.Domino{d, e}
			one, other := shownUnder(d), shownUnder(e)
			under := byIndex(append(one[:], other[:]...))
			var want []impl.Cell
			if slices.Equal(under, squareOf(under[0])) {
				want = under[:1]
				pairs++
			}
			if got := impl.FlipsOf(list); !slices.Equal(got, want) {
				t.Errorf("FlipsOf %v is %v, want %v", list, got, want)
			}
		}
	}
	// Each of the 49 squares has two pairs, and each pair has two orders.
	if pairs != 4*49 {
		t.Errorf("there are %d pairs, want %d", pairs, 4*49)
	}
}

// dominoesTouching returns the dominoes on the board that cover a cell of the square whose first cell is c, in order.
func dominoesTouching(c impl.Cell) []impl.Domino {
	square := squareOf(c)
	return slices.DeleteFunc(allDominoes(), func(d impl.Domino) bool {
		under := shownUnder(d)
		return !slices.Contains(square, under[0]) && !slices.Contains(square, under[1])
	})
}

func TestFlipsOfAllListsAroundASquare(t *testing.T) {
	cases := []struct {
		c           impl.Cell
		near, flips int
	}{
		// Of the four dominoes in the square, 7 of 16 choices have a pair; each further domino doubles the lists.
		{impl.Cell{X: 3, Y: 2}, 12, 7 << 8},
		{impl.Cell{X: 0, Y: 0}, 8, 7 << 4},
		{impl.Cell{X: 6, Y: 6}, 8, 7 << 4},
		{impl.Cell{X: 6, Y: 0}, 8, 7 << 4},
		{impl.Cell{X: 0, Y: 6}, 8, 7 << 4},
		{impl.Cell{X: 2, Y: 6}, 10, 7 << 6},
		{impl.Cell{X: 6, Y: 4}, 10, 7 << 6},
	}
	for _, c := range cases {
		near, flips := dominoesTouching(c.c), 0
		if len(near) != c.near {
			t.Fatalf("there are %d dominoes around the square at %v, want %d", len(near), c.c, c.near)
		}
		for i, list := range sublists(near) {
			if checkFlip(t, list, c.c) {
				flips++
			}
			if i%2 == 1 {
				slices.Reverse(list)
				checkFlip(t, list, c.c)
			}
			if i%17 == 0 {
				checkFlips(t, list)
			}
		}
		if flips != c.flips {
			t.Errorf("%d of the lists around the square at %v have a flip, want %d", flips, c.c, c.flips)
		}
	}
}

func TestFlipsOfAllListsOfSmallFloors(t *testing.T) {
	for _, lines := range smallFloors() {
		for i, list := range sublists(dominoesOn(lines)) {
			partial := !hasOverlaps(list)
			if partial || i%13 == 0 {
				checkFlips(t, list)
			}
			if partial {
				checkTwice(t, list)
			}
		}
	}
}

// checkTwice checks that each flip twice is nothing in a sorted list whose dominoes do not overlap, and changes what it has to.
func checkTwice(t *testing.T, list []impl.Domino) {
	t.Helper()
	for _, c := range impl.FlipsOf(list) {
		next, ok := impl.FlipAt(list, c)
		if !ok || len(next) != len(list) || !impl.CanFlip(next, c) || hasOverlaps(next) {
			t.Errorf("FlipAt of %v at %v is %v and %v", list, c, next, ok)
		}
		if by := impl.CountDown(next) - impl.CountDown(list); by != 2 && by != -2 {
			t.Errorf("a flip of %v at %v changes CountDown by %d", list, c, by)
		}
		if got := len(slices.DeleteFunc(slices.Clone(next), func(d impl.Domino) bool { return slices.Contains(list, d) })); got != 2 {
			t.Errorf("a flip of %v at %v brings %d new dominoes", list, c, got)
		}
		if back, ok := impl.FlipAt(next, c); !ok || !slices.Equal(back, list) {
			t.Errorf("two flips of %v at %v lead to %v and %v", list, c, back, ok)
		}
		if back, ok := impl.FlipAll(list, []impl.Cell{c, c}); !ok || !slices.Equal(back, list) {
			t.Errorf("FlipAll of %v at %v twice is %v and %v", list, c, back, ok)
		}
	}
}

// checkFlipsOfTiling checks that each flip of a tiling of r leads to a tiling of r, and back.
func checkFlipsOfTiling(t *testing.T, r impl.Region, tiling []impl.Domino) {
	t.Helper()
	checkTwice(t, tiling)
	for _, c := range impl.FlipsOf(tiling) {
		if next, ok := impl.FlipAt(tiling, c); !ok || !impl.IsTiling(r, next) {
			t.Errorf("a flip of the tiling %v of %v at %v leads to %v and %v", tiling, r.Rows, c, next, ok)
		}
	}
}

// checkFlipsByTilings compares FlipsOf a tiling with the other tilings of the same floor that differ from it in a square alone.
func checkFlipsByTilings(t *testing.T, tiling []impl.Domino, all [][]impl.Domino) {
	t.Helper()
	var cells []impl.Cell
	for _, other := range all {
		var under []impl.Cell
		for _, d := range other {
			if !slices.Contains(tiling, d) {
				both := shownUnder(d)
				under = append(under, both[:]...)
			}
		}
		under = byIndex(under)
		if len(under) != 4 || !slices.Equal(under, squareOf(under[0])) {
			continue
		}
		cells = append(cells, under[0])
		if got, ok := impl.FlipAt(tiling, under[0]); !ok || !slices.Equal(got, other) {
			t.Errorf("FlipAt of %v at %v is %v and %v, want %v", tiling, under[0], got, ok, other)
		}
	}
	if got, want := impl.FlipsOf(tiling), byIndex(cells); !slices.Equal(got, want) {
		t.Errorf("FlipsOf the tiling %v is %v, but other tilings tell %v", tiling, got, want)
	}
}

func TestFlipsOfTilings(t *testing.T) {
	flips := 0
	var floors [][]string
	for _, c := range slices.Concat(tileableFloors(), nearLimit()) {
		floors = append(floors, c.lines)
	}
	for _, c := range listedFloors() {
		floors = append(floors, c.lines)
	}
	for _, lines := range floors {
		if waysToTile(bitsOf(lines)) > 400 {
			continue
		}
		all := wantedList(lines)
		for i, tiling := range all {
			checkFlipsOfTiling(t, regionOf(lines), tiling)
			flips += len(impl.FlipsOf(tiling))
			if len(all) < 60 {
				checkFlips(t, tiling)
			}
			if len(all) < 60 || i%20 == 0 {
				checkFlipsByTilings(t, tiling, all)
			}
		}
	}
	if flips < 10000 {
		t.Errorf("the tilings have only %d flips", flips)
	}
}

// randomFlips returns n flips, one after the other, that lead from a tiling to the one that is returned as well; always the same ones.
func randomFlips(t *testing.T, r impl.Region, tiling []impl.Domino, n int, seed uint32) ([]impl.Cell, []impl.Domino) {
	t.Helper()
	var way []impl.Cell
	for range n {
		seed = seed*1664525 + 1013904223
		cells := impl.FlipsOf(tiling)
		c := cells[int(seed>>8)%len(cells)]
		next, ok := impl.FlipAt(tiling, c)
		want, _ := wantedFlip(tiling, c)
		if !ok || !slices.Equal(next, want) || !impl.IsTiling(r, next) {
			t.Fatalf("FlipAt of the tiling %v at %v is %v and %v, want %v", tiling, c, next, ok, want)
		}
		way, tiling = append(way, c), next
	}
	return way, tiling
}

func TestLongWaysOfFlips(t *testing.T) {
	for i, r := range []impl.Region{impl.Rectangle(8, 8), impl.Rectangle(8, 8), impl.Rectangle(7, 8), impl.Rectangle(8, 5), impl.Rectangle(2, 8), impl.Rectangle(2, 2)} {
		first, _ := impl.FirstTiling(r)
		way, last := randomFlips(t, r, first, 200, uint32(i))
		if got, ok := impl.FlipAll(first, way); !ok || !slices.Equal(got, last) {
			t.Errorf("FlipAll of the tiling %v at %v is %v and %v, want %v", first, way, got, ok, last)
		}
		checkFlips(t, last)
		checkFlipsOfTiling(t, r, last)
		for _, longer := range [][]impl.Cell{append(slices.Clone(way), way[199]), slices.Concat(way, way)} {
			if got, ok := impl.FlipAll(first, longer); ok || !slices.Equal(got, first) {
				t.Errorf("FlipAll at %d cells is %v and %v, want the list and false", len(longer), got, ok)
			}
		}
		back := slices.Clone(way)
		slices.Reverse(back)
		if got, ok := impl.FlipAll(last, back); !ok || !slices.Equal(got, first) {
			t.Errorf("FlipAll of the tiling %v at %v is %v and %v, want %v", last, back, got, ok, first)
		}
		both := slices.Concat(way[:100], back[100:])
		if got, ok := impl.FlipAll(first, both); !ok || !slices.Equal(got, first) {
			t.Errorf("FlipAll of the tiling %v there and back is %v and %v", first, got, ok)
		}
	}
}

// rowsAndColumns returns the tiling of the first cells of the board with dominoes across only, and the one with dominoes down only.
func rowsAndColumns(width, height int) ([]impl.Domino, []impl.Domino) {
	var rows, columns []impl.Domino
	for y := range height {
		for x := range width {
			if x%2 == 0 {
				rows = append(rows, across(x, y))
			}
			if y%2 == 0 {
				columns = append(columns, down(x, y))
			}
		}
	}
	return rows, columns
}

func TestFlipsOf(t *testing.T) {
	rows, columns := rowsAndColumns(4, 4)
	cases := []struct {
		name string
		list []impl.Domino
		want string
	}{
		{"no list", nil, ""},
		{"an empty list", []impl.Domino{}, ""},
		{"one domino", []impl.Domino{across(3, 3)}, ""},
		{"a square across", []impl.Domino{across(3, 3), across(3, 4)}, "3,3"},
		{"a square down", []impl.Domino{down(3, 3), down(4, 3)}, "3,3"},
		{"both pairs", []impl.Domino{across(3, 3), down(3, 3), down(4, 3), across(3, 4)}, "3,3"},
		{"the first square and the last one, out of order", []impl.Domino{across(6, 7), across(6, 6), across(0, 1), across(0, 0)}, "0,0 6,6"},
		{"the corners, out of order", []impl.Domino{down(7, 6), down(6, 6), down(1, 6), down(0, 6), across(6, 1), across(6, 0), across(0, 0), across(0, 1)}, "0,0 6,0 0,6 6,6"},
		{"the larger X in the row above", []impl.Domino{across(0, 3), across(0, 4), across(5, 2), across(5, 3)}, "5,2 0,3"},
		{"rows", rows, "0,0 2,0 0,1 2,1 0,2 2,2"},
		{"columns", columns, "0,0 1,0 2,0 0,2 1,2 2,2"},
		{"rows and columns", slices.Concat(columns, rows), "0,0 1,0 2,0 0,1 2,1 0,2 1,2 2,2"},
		{"bricks", []impl.Domino{across(0, 0), across(2, 0), across(1, 1), across(3, 1), across(0, 2), across(2, 2)}, ""},
		{"around a hole", []impl.Domino{across(0, 0), down(2, 0), down(0, 1), across(1, 2)}, ""},
		{"two rows of three", []impl.Domino{across(0, 0), down(2, 0), across(0, 1)}, "0,0"},
		{"two rows of three, down", []impl.Domino{down(0, 0), down(1, 0), down(2, 0)}, "0,0 1,0"},
		{"the same pair several times", []impl.Domino{across(1, 1), across(1, 2), across(1, 2), across(1, 1), across(1, 1)}, "1,1"},
		{"outside of the board", []impl.Domino{across(6, 7), across(6, 8), down(7, 6), down(8, 6), across(-1, 0), across(-1, 1)}, ""},
		{"outside of the board and a pair", []impl.Domino{across(6, 8), across(6, 7), across(6, 6), across(6, 5)}, "6,5 6,6"},
	}
	for _, c := range cases {
		if got := cellsText(impl.FlipsOf(c.list)); got != c.want {
			t.Errorf("%s: FlipsOf %v has the cells %q, want %q", c.name, c.list, got, c.want)
		}
		checkFlips(t, c.list)
	}
}

func TestFlipsOfTheFullBoard(t *testing.T) {
	rows, columns := rowsAndColumns(8, 8)
	var inRows, inColumns, everywhere []impl.Cell
	for y := range 7 {
		for x := range 7 {
			c := impl.Cell{X: x, Y: y}
			everywhere = append(everywhere, c)
			if x%2 == 0 {
				inRows = append(inRows, c)
			}
			if y%2 == 0 {
				inColumns = append(inColumns, c)
			}
		}
	}
	cases := []struct {
		list []impl.Domino
		want []impl.Cell
		down int
	}{
		{rows, inRows, 0},
		{columns, inColumns, 32},
		{allDominoes(), everywhere, 56},
		{mixedDominoes(linesOf(fullLine, 8), 11), everywhere, 56},
		{slices.Repeat(mixedDominoes(linesOf(fullLine, 8), 12), 20), everywhere, 20 * 56},
		{slices.Concat(invalidDominoes(), allDominoes(), invalidDominoes()), everywhere, 56},
		{invalidDominoes(), nil, 0},
	}
	for _, c := range cases {
		if got := impl.FlipsOf(c.list); !slices.Equal(got, c.want) {
			t.Errorf("FlipsOf %d dominoes is %v, want %v", len(c.list), got, c.want)
		}
		if got := impl.CountDown(c.list); got != c.down {
			t.Errorf("CountDown of %d dominoes is %d, want %d", len(c.list), got, c.down)
		}
		for _, at := range append(validCells(), invalidCells()...) {
			checkFlip(t, c.list, at)
		}
	}
}

func TestFlipsOfMixedLists(t *testing.T) {
	invalid := invalidDominoes()
	for seed := range uint32(60) {
		mixed := mixedDominoes(linesOf(fullLine, 8), seed)
		part := mixed[:40+seed]
		checkFlips(t, part)
		checkFlips(t, slices.Concat(part, invalid[seed:seed+5], part[20:]))
		checkFlips(t, slices.Concat(mixed[90:], invalid[:seed], mixed))
	}
}

func TestFlipAll(t *testing.T) {
	at := func(x, y int) impl.Cell { return impl.Cell{X: x, Y: y} }
	square := []impl.Domino{across(0, 0), across(0, 1)}
	three := []impl.Domino{across(0, 0), across(0, 1), across(0, 2)}
	untidy := []impl.Domino{across(0, 1), across(7, 7), down(5, 5), across(0, 0), across(0, 1), down(5, 5)}
	both := []impl.Domino{down(1, 0), across(0, 0), down(0, 0), across(0, 1)}
	cases := []struct {
		name  string
		list  []impl.Domino
		cells []impl.Cell
		want  string
		ok    bool
	}{
		{"no cells", square, nil, "0,0r 0,1r", true},
		{"one cell", square, []impl.Cell{at(0, 0)}, "0,0d 1,0d", true},
		{"the same cell twice", square, []impl.Cell{at(0, 0), at(0, 0)}, "0,0r 0,1r", true},
		{"the same cell three times", square, []impl.Cell{at(0, 0), at(0, 0), at(0, 0)}, "0,0d 1,0d", true},
		{"two cells that overlap", three, []impl.Cell{at(0, 0), at(0, 1)}, "", false},
		{"two cells that overlap, with a flip back between them", three, []impl.Cell{at(0, 0), at(0, 0), at(0, 1)}, "0,0r 0,1d 1,1d", true},
		{"a flip that the one before makes possible", []impl.Domino{down(0, 0), down(1, 0), across(2, 0), across(2, 1)}, []impl.Cell{at(2, 0), at(1, 0)}, "0,0d 1,0r 3,0d 1,1r", true},
		{"the same cells in another order", []impl.Domino{down(0, 0), down(1, 0), across(2, 0), across(2, 1)}, []impl.Cell{at(1, 0), at(2, 0)}, "", false},
		{"the first one fails", square, []impl.Cell{at(1, 0), at(0, 0)}, "", false},
		{"the last one fails", square, []impl.Cell{at(0, 0), at(1, 0)}, "", false},
		{"one in the middle fails", square, []impl.Cell{at(0, 0), at(0, 1), at(0, 0)}, "", false},
		{"one in the middle fails, and the others lead back", square, []impl.Cell{at(0, 0), at(7, 7), at(0, 0)}, "", false},
		{"a cell that is not valid", square, []impl.Cell{at(-1, 0)}, "", false},
		{"a cell that is not valid in the middle", square, []impl.Cell{at(0, 0), at(8, 8), at(0, 0)}, "", false},
		{"no list", nil, []impl.Cell{at(0, 0)}, "", false},
		{"both pairs once", both, []impl.Cell{at(0, 0)}, "0,0d 1,0d", true},
		{"both pairs twice", both, []impl.Cell{at(0, 0), at(0, 0)}, "0,0r 0,1r", true},
		{"untidy, one cell", untidy, []impl.Cell{at(0, 0)}, "0,0d 1,0d 5,5d", true},
		{"untidy, twice", untidy, []impl.Cell{at(0, 0), at(0, 0)}, "0,0r 0,1r 5,5d", true},
		{"untidy, the first one fails", untidy, []impl.Cell{at(4, 5)}, "", false},
		{"untidy, the last one fails", untidy, []impl.Cell{at(0, 0), at(4, 5)}, "", false},
		{"199 cells", square, slices.Repeat([]impl.Cell{at(0, 0)}, 199), "0,0d 1,0d", true},
		{"200 cells", square, slices.Repeat([]impl.Cell{at(0, 0)}, 200), "0,0r 0,1r", true},
		{"201 cells", square, slices.Repeat([]impl.Cell{at(0, 0)}, 201), "", false},
		{"202 cells", square, slices.Repeat([]impl.Cell{at(0, 0)}, 202), "", false},
		{"5000 cells", square, slices.Repeat([]impl.Cell{at(0, 0)}, 5000), "", false},
		{"200 cells of which the last one fails", square, append(slices.Repeat([]impl.Cell{at(0, 0)}, 199), at(1, 1)), "", false},
		{"201 cells of which the last one fails", square, append(slices.Repeat([]impl.Cell{at(0, 0)}, 200), at(1, 1)), "", false},
		{"201 cells that all fail", untidy, slices.Repeat([]impl.Cell{at(3, 3)}, 201), "", false},
		{"untidy, 200 cells", untidy, slices.Repeat([]impl.Cell{at(0, 0)}, 200), "0,0r 0,1r 5,5d", true},
		{"untidy, 201 cells", untidy, slices.Repeat([]impl.Cell{at(0, 0)}, 201), "", false},
	}
	for _, c := range cases {
		got, ok := impl.FlipAll(c.list, c.cells)
		if ok != c.ok || ok && impl.TilingText(got) != c.want || !ok && !slices.Equal(got, c.list) {
			t.Errorf("%s: FlipAll of %v at %d cells is %v and %v, want %q and %v", c.name, c.list, len(c.cells), got, ok, c.want, c.ok)
		}
		checkFlipAll(t, c.list, c.cells)
	}
}

func TestFlipAllWithoutCells(t *testing.T) {
	for _, list := range append(listsToKeep(), nil, invalidDominoes(), slices.Repeat(mixedDominoes(linesOf(fullLine, 8), 2), 3)) {
		for _, cells := range [][]impl.Cell{nil, {}} {
			if got, ok := impl.FlipAll(list, cells); !ok || !slices.Equal(got, list) {
				t.Errorf("FlipAll of %v without cells is %v and %v, want the list and true", list, got, ok)
			}
		}
	}
}

func TestFlipAllOfInvalidCells(t *testing.T) {
	rows, _ := rowsAndColumns(8, 8)
	for _, c := range invalidCells() {
		for _, cells := range [][]impl.Cell{{c}, {{X: 2, Y: 2}, c}, {c, {X: 2, Y: 2}}, {{X: 2, Y: 2}, c, {X: 2, Y: 2}}} {
			if got, ok := impl.FlipAll(rows, cells); ok || !slices.Equal(got, rows) {
				t.Errorf("FlipAll at %v is %v and %v, want the list and false", cells, got, ok)
			}
		}
	}
}

func TestFlipAllOfMixedCells(t *testing.T) {
	state, done := uint32(11), 0
	for range 400 {
		r := impl.Rectangle(2+int(state>>8)%5, 4)
		tiling, _ := impl.FirstTiling(r)
		var cells []impl.Cell
		for range 5 {
			state = state*1664525 + 1013904223
			cells = append(cells, impl.Cell{X: int(state>>8) % 3, Y: int(state>>16) % 3})
			checkFlipAll(t, tiling, cells)
			if got, ok := impl.FlipAll(tiling, cells); ok && len(cells) > 2 {
				done++
				if !impl.IsTiling(r, got) {
					t.Errorf("FlipAll of the tiling %v at %v is %v, which is no tiling", tiling, cells, got)
				}
			}
		}
	}
	if done < 40 {
		t.Errorf("only %d ways of at least three flips can be done", done)
	}
}

func TestCountDown(t *testing.T) {
	cases := []struct {
		name string
		list []impl.Domino
		want int
	}{
		{"no list", nil, 0},
		{"an empty list", []impl.Domino{}, 0},
		{"one across", []impl.Domino{across(0, 0)}, 0},
		{"one down", []impl.Domino{down(0, 0)}, 1},
		{"the last one down", []impl.Domino{down(7, 6)}, 1},
		{"some of each", []impl.Domino{across(0, 0), down(2, 0), down(0, 1), across(1, 2)}, 2},
		{"out of order", []impl.Domino{down(3, 3), across(0, 0), down(0, 1)}, 2},
		{"the same domino twice", []impl.Domino{down(3, 3), down(3, 3)}, 2},
		{"dominoes that overlap", []impl.Domino{down(3, 3), down(3, 4), across(3, 4)}, 2},
		{"below the last row", []impl.Domino{down(0, 7), down(0, 6)}, 1},
		{"into the first row", []impl.Domino{down(0, -1), down(0, 0)}, 1},
		{"beside the board", []impl.Domino{down(8, 0), down(-1, 0), down(7, 0), down(0, 0)}, 2},
		{"only dominoes that are not valid", []impl.Domino{down(7, 7), across(7, 7), down(-1, -1)}, 0},
		{"across and not valid", []impl.Domino{across(7, 3), down(7, 3)}, 1},
	}
	for _, c := range cases {
		if got := impl.CountDown(c.list); got != c.want {
			t.Errorf("%s: CountDown of %v is %d, want %d", c.name, c.list, got, c.want)
		}
	}
	for _, d := range append(allDominoes(), invalidDominoes()...) {
		want := wantedDown([]impl.Domino{d})
		if got := impl.CountDown([]impl.Domino{d}); got != want {
			t.Errorf("CountDown of %v alone is %d, want %d", d, got, want)
		}
		if got := impl.CountDown([]impl.Domino{down(1, 1), d, across(1, 1), d}); got != 1+2*want {
			t.Errorf("CountDown of %v twice and another one is %d, want %d", d, got, 1+2*want)
		}
	}
}

// flipsToKeep returns lists of all kinds, with and without flips at the first cell.
func flipsToKeep() [][]impl.Domino {
	rows, columns := rowsAndColumns(8, 8)
	return append(listsToKeep(),
		rows,
		columns,
		[]impl.Domino{down(1, 0), down(0, 0), across(0, 0), down(0, 0), across(0, 1), across(7, 7)},
		[]impl.Domino{across(0, 1), across(5, 5), across(0, 0), across(5, 5)},
	)
}

// cellsToFlip returns cells for which FlipAll succeeds with some lists, and fails with others.
func cellsToFlip() [][]impl.Cell {
	return [][]impl.Cell{
		{},
		{{X: 0, Y: 0}},
		{{X: 0, Y: 0}, {X: 0, Y: 0}},
		{{X: 0, Y: 0}, {X: 0, Y: 0}, {X: 6, Y: 6}},
		{{X: 0, Y: 0}, {X: 7, Y: 7}},
		{{X: 8, Y: 0}},
		make([]impl.Cell, 200),
		make([]impl.Cell, 201),
	}
}

func TestFlipFunctionsLeaveArguments(t *testing.T) {
	for _, from := range flipsToKeep() {
		for _, fromCells := range cellsToFlip() {
			list, memory := listWithSpare(from)
			cells, cellMemory := cellsWithSpare(fromCells)
			before, cellsBefore := slices.Clone(memory), slices.Clone(cellMemory)
			for _, c := range []impl.Cell{{X: 0, Y: 0}, {X: 6, Y: 6}, {X: 4, Y: 4}, {X: 8, Y: 0}} {
				impl.CanFlip(list, c)
				flipped, _ := impl.FlipAt(list, c)
				overwriteDominoes(flipped)
			}
			overwriteCells(impl.FlipsOf(list))
			flipped, _ := impl.FlipAll(list, cells)
			overwriteDominoes(flipped)
			impl.CountDown(list)
			if !slices.Equal(memory, before) || !slices.Equal(cellMemory, cellsBefore) {
				t.Errorf("the arguments %v and %v became %v and %v", before, cellsBefore, memory, cellMemory)
			}
		}
	}
}

func TestFlipAtReturnsNewMemory(t *testing.T) {
	for _, from := range flipsToKeep() {
		for _, c := range []impl.Cell{{X: 0, Y: 0}, {X: 6, Y: 6}, {X: 7, Y: 7}} {
			list, memory := listWithSpare(from)
			want, _ := wantedFlip(slices.Clone(from), c)
			first, _ := impl.FlipAt(list, c)
			second, _ := impl.FlipAt(list, c)
			overwriteDominoes(first)
			overwriteDominoes(memory)
			if !slices.Equal(second, want) {
				t.Errorf("a changed argument or other result changes the flip of %v at %v to %v", from, c, second)
			}
			if third, _ := impl.FlipAt(from, c); !slices.Equal(third, want) {
				t.Errorf("a changed result changes a later flip of %v at %v to %v", from, c, third)
			}
		}
	}
}

func TestFlipAllReturnsNewMemory(t *testing.T) {
	for _, from := range flipsToKeep() {
		for _, fromCells := range cellsToFlip() {
			list, memory := listWithSpare(from)
			cells, cellMemory := cellsWithSpare(fromCells)
			want, _ := wantedFlips(slices.Clone(from), fromCells)
			first, _ := impl.FlipAll(list, cells)
			second, _ := impl.FlipAll(list, cells)
			overwriteDominoes(first)
			overwriteDominoes(memory)
			overwriteCells(cellMemory)
			if !slices.Equal(second, want) {
				t.Errorf("a changed argument or other result changes FlipAll of %v at %v to %v", from, fromCells, second)
			}
			if third, _ := impl.FlipAll(from, fromCells); !slices.Equal(third, want) {
				t.Errorf("a changed result changes a later FlipAll of %v at %v to %v", from, fromCells, third)
			}
		}
	}
}

func TestFlipsOfReturnsNewMemory(t *testing.T) {
	for _, from := range flipsToKeep() {
		list, memory := listWithSpare(from)
		first, second := impl.FlipsOf(list), impl.FlipsOf(list)
		want := slices.Clone(first)
		overwriteCells(first)
		overwriteDominoes(memory)
		if !slices.Equal(second, want) {
			t.Errorf("a changed argument or other result changes FlipsOf %v to %v", from, second)
		}
		if third := impl.FlipsOf(from); !slices.Equal(third, want) {
			t.Errorf("a changed result changes a later FlipsOf %v to %v", from, third)
		}
	}
}

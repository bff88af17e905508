package tests

import (
	"math"
	"slices"
	"strings"
	"testing"

	"loop.example/g03300/impl"
)

const emptyLine, fullLine = "........", "########"

// linesOf returns a text with the same line n times.
func linesOf(line string, n int) []string {
	return slices.Repeat([]string{line}, n)
}

// shownRegions returns texts of regions of all kinds: empty ones, missing and empty rows, pieces, holes and the full board.
func shownRegions() [][]string {
	return [][]string{
		{},
		{emptyLine},
		linesOf(emptyLine, 7),
		linesOf(emptyLine, 8),
		linesOf(fullLine, 8),
		linesOf(fullLine, 7),
		append(linesOf(fullLine, 7), emptyLine),
		{fullLine},
		{fullLine, emptyLine},
		{emptyLine, fullLine},
		{"#......."},
		{".......#"},
		append(linesOf(emptyLine, 7), "#......."),
		append(linesOf(emptyLine, 7), ".......#"),
		{"###.....", "###....."},
		{"#.##....", "###....."},
		{"#.#..#.#", ".#.##.#."},
		{"###", "#.#", "###"},
		{"........", "..####..", "..#..#..", "..####..", "........"},
		{"#.......", ".#......", "..#.....", "...#....", "....#...", ".....#..", "......#.", ".......#"},
		board(),
	}
}

// shows reports whether the lines show the cell c.
func shows(lines []string, c impl.Cell) bool {
	return c.Y < len(lines) && c.X < len(lines[c.Y]) && lines[c.Y][c.X] == '#'
}

// regionOf returns the region that the lines show, with a row for each line.
func regionOf(lines []string) impl.Region {
	values := []int{1, 2, 4, 8, 16, 32, 64, 128}
	rows := make([]int, len(lines))
	for y, line := range lines {
		for x := range line {
			if line[x] == '#' {
				rows[y] += values[x]
			}
		}
	}
	return impl.Region{Rows: rows}
}

// cellsShown returns the cells that the lines show, row by row.
func cellsShown(lines []string) []impl.Cell {
	var cells []impl.Cell
	for _, c := range validCells() {
		if shows(lines, c) {
			cells = append(cells, c)
		}
	}
	return cells
}

// invalidRegions returns regions with too many rows, or with a row outside of 0 to 255.
func invalidRegions() []impl.Region {
	regions := []impl.Region{
		{Rows: make([]int, 9)},
		{Rows: slices.Repeat([]int{255}, 9)},
		{Rows: make([]int, 16)},
		{Rows: make([]int, 1000)},
	}
	wrong := []int{256, 257, 511, 512, 1 << 16, 1<<32 + 1, 1 << 62, math.MaxInt, -1, -2, -255, -256, -1 << 32, math.MinInt + 1, math.MinInt}
	for _, row := range wrong {
		regions = append(regions,
			impl.Region{Rows: []int{row}},
			impl.Region{Rows: []int{255, row}},
			impl.Region{Rows: []int{row, 255}},
			impl.Region{Rows: append(slices.Repeat([]int{3}, 7), row)},
			impl.Region{Rows: append(slices.Repeat([]int{0}, 8), row)},
		)
	}
	return regions
}

func TestRegionOk(t *testing.T) {
	regions := []impl.Region{
		{},
		{Rows: []int{}},
		{Rows: []int{0}},
		{Rows: []int{255}},
		{Rows: []int{0, 255, 1, 128, 254, 127}},
		{Rows: make([]int, 7)},
		{Rows: make([]int, 8)},
		{Rows: slices.Repeat([]int{255}, 8)},
	}
	for row := range 256 {
		regions = append(regions, impl.Region{Rows: []int{row}}, impl.Region{Rows: slices.Repeat([]int{row}, 8)})
	}
	for _, r := range regions {
		if !impl.RegionOk(r) {
			t.Errorf("RegionOk(%v) is false", r)
		}
	}
	for _, r := range invalidRegions() {
		if impl.RegionOk(r) {
			t.Errorf("RegionOk(%v) is true", r)
		}
	}
}

func TestRegionText(t *testing.T) {
	cases := []struct {
		rows []int
		want []string
	}{
		{nil, nil},
		{[]int{}, nil},
		{[]int{0}, []string{"........"}},
		{[]int{255}, []string{"########"}},
		{[]int{1, 128}, []string{"#.......", ".......#"}},
		{[]int{7, 7}, []string{"###.....", "###....."}},
		{[]int{5, 7, 0}, []string{"#.#.....", "###.....", "........"}},
		{[]int{165, 90, 15, 240}, []string{"#.#..#.#", ".#.##.#.", "####....", "....####"}},
		{[]int{1, 2, 4, 8, 16, 32, 64, 128}, []string{"#.......", ".#......", "..#.....", "...#....", "....#...", ".....#..", "......#.", ".......#"}},
		{make([]int, 8), linesOf("........", 8)},
	}
	for _, c := range cases {
		if got := impl.RegionText(impl.Region{Rows: c.rows}); !slices.Equal(got, c.want) {
			t.Errorf("RegionText of %v is %q, want %q", c.rows, got, c.want)
		}
	}
	for _, r := range invalidRegions() {
		if got := impl.RegionText(r); len(got) != 0 {
			t.Errorf("RegionText(%v) is %q, want nil", r, got)
		}
	}
}

func TestRegionTextOfEachRow(t *testing.T) {
	for row := range 256 {
		var want strings.Builder
		for rest := 256 + row; rest > 1; rest /= 2 {
			want.WriteByte(".#"[rest%2])
		}
		got := impl.RegionText(impl.Region{Rows: []int{0, row, 255}})
		if !slices.Equal(got, []string{emptyLine, want.String(), fullLine}) {
			t.Errorf("the row %d is shown as %q, want %q in the middle", row, got, want.String())
		}
	}
}

func TestRegionHasTheCellsOfItsText(t *testing.T) {
	for _, lines := range shownRegions() {
		r, cells := regionOf(lines), cellsShown(lines)
		text := impl.RegionText(r)
		if len(text) != len(lines) {
			t.Errorf("RegionText of %q has %d lines", lines, len(text))
		}
		if shown := cellsShown(text); !slices.Equal(shown, cells) {
			t.Errorf("RegionText of %q shows the cells %v", lines, shown)
		}
		if got := impl.CellsOf(r); !slices.Equal(got, cells) {
			t.Errorf("CellsOf %q is %v, want %v", lines, got, cells)
		}
		if got := impl.CountCells(r); got != len(cells) {
			t.Errorf("CountCells of %q is %d, want %d", lines, got, len(cells))
		}
		for _, c := range validCells() {
			if got := impl.HasCell(r, c); got != shows(lines, c) {
				t.Errorf("HasCell of %q and %v is %v", lines, c, got)
			}
		}
	}
}

func TestHasCell(t *testing.T) {
	r := impl.Region{Rows: []int{7, 5}}
	cases := map[impl.Cell]bool{
		{X: 0, Y: 0}: true,
		{X: 2, Y: 0}: true,
		{X: 3, Y: 0}: false,
		{X: 0, Y: 1}: true,
		{X: 1, Y: 1}: false,
		{X: 2, Y: 1}: true,
		{X: 7, Y: 1}: false,
		{X: 0, Y: 2}: false,
		{X: 7, Y: 7}: false,
	}
	for c, want := range cases {
		if got := impl.HasCell(r, c); got != want {
			t.Errorf("HasCell(%v, %v) is %v, want %v", r, c, got, want)
		}
	}
	full := impl.Region{Rows: slices.Repeat([]int{255}, 8)}
	for _, c := range validCells() {
		if !impl.HasCell(full, c) {
			t.Errorf("the full board does not have %v", c)
		}
		if impl.HasCell(impl.Region{}, c) || impl.HasCell(impl.Region{Rows: full.Rows[:c.Y]}, c) {
			t.Errorf("a region has %v, whose row is missing", c)
		}
	}
}

func TestHasCellRejects(t *testing.T) {
	full := impl.Region{Rows: slices.Repeat([]int{255}, 8)}
	for _, c := range invalidCells() {
		if impl.HasCell(full, c) || impl.HasCell(impl.Region{}, c) {
			t.Errorf("a region has the cell %v, which is not valid", c)
		}
	}
	for _, r := range invalidRegions() {
		for _, c := range append(validCells(), impl.Cell{X: 0, Y: 8}, impl.Cell{X: 8, Y: 0}, impl.Cell{X: -1, Y: 0}, impl.Cell{X: 0, Y: -1}) {
			if impl.HasCell(r, c) {
				t.Errorf("the region %v, which is not valid, has the cell %v", r, c)
			}
		}
	}
}

func TestCellsOf(t *testing.T) {
	want := []impl.Cell{{X: 1, Y: 0}, {X: 7, Y: 0}, {X: 0, Y: 2}, {X: 2, Y: 2}, {X: 3, Y: 2}}
	r := impl.Region{Rows: []int{130, 0, 13, 0}}
	if got := impl.CellsOf(r); !slices.Equal(got, want) {
		t.Errorf("CellsOf(%v) is %v, want %v", r, got, want)
	}
	if got := impl.CountCells(r); got != 5 {
		t.Errorf("CountCells(%v) is %d, want 5", r, got)
	}
	full := impl.Region{Rows: slices.Repeat([]int{255}, 8)}
	if got := impl.CellsOf(full); !slices.Equal(got, validCells()) || impl.CountCells(full) != 64 {
		t.Errorf("CellsOf the full board is %v", got)
	}
	for _, r := range []impl.Region{{}, {Rows: []int{}}, {Rows: []int{0}}, {Rows: make([]int, 8)}} {
		if got := impl.CellsOf(r); len(got) != 0 || impl.CountCells(r) != 0 {
			t.Errorf("CellsOf(%v) is %v", r, got)
		}
	}
	for _, r := range invalidRegions() {
		if got := impl.CellsOf(r); len(got) != 0 || impl.CountCells(r) != 0 {
			t.Errorf("CellsOf(%v) is %v and CountCells %d, want nil and 0", r, got, impl.CountCells(r))
		}
	}
}

func TestRectangle(t *testing.T) {
	for width := 1; width <= 8; width++ {
		for height := 1; height <= 8; height++ {
			want := linesOf(fullLine[:width]+emptyLine[width:], height)
			r := impl.Rectangle(width, height)
			if got := impl.RegionText(r); len(r.Rows) != height || !slices.Equal(got, want) {
				t.Errorf("Rectangle(%d, %d) has %d rows and is shown as %q", width, height, len(r.Rows), got)
			}
			if !impl.RegionOk(r) || impl.CountCells(r) != width*height {
				t.Errorf("Rectangle(%d, %d) has %d cells", width, height, impl.CountCells(r))
			}
		}
	}
}

func TestRectangleRejects(t *testing.T) {
	for _, n := range []int{0, 9, -1, -8, 10, 62, 63, 64, 1 << 32, math.MaxInt, math.MinInt} {
		for _, m := range []int{1, 2, 8, n, 0, 9} {
			for _, r := range []impl.Region{impl.Rectangle(n, m), impl.Rectangle(m, n)} {
				if len(r.Rows) != 0 {
					t.Errorf("Rectangle of %d and %d is %v, want the zero Region", n, m, r)
				}
			}
		}
	}
}

func TestWithCell(t *testing.T) {
	cases := []struct {
		rows []int
		c    impl.Cell
		on   bool
		want []int
	}{
		{[]int{7, 7}, impl.Cell{X: 1, Y: 0}, false, []int{5, 7, 0, 0, 0, 0, 0, 0}},
		{[]int{7, 7}, impl.Cell{X: 3, Y: 1}, true, []int{7, 15, 0, 0, 0, 0, 0, 0}},
		{[]int{7, 7}, impl.Cell{X: 2, Y: 1}, true, []int{7, 7, 0, 0, 0, 0, 0, 0}},
		{[]int{7, 7}, impl.Cell{X: 7, Y: 1}, false, []int{7, 7, 0, 0, 0, 0, 0, 0}},
		{[]int{7, 7}, impl.Cell{X: 4, Y: 2}, true, []int{7, 7, 16, 0, 0, 0, 0, 0}},
		{[]int{7, 7}, impl.Cell{X: 4, Y: 2}, false, []int{7, 7, 0, 0, 0, 0, 0, 0}},
		{[]int{7, 7}, impl.Cell{X: 7, Y: 7}, true, []int{7, 7, 0, 0, 0, 0, 0, 128}},
		{nil, impl.Cell{X: 0, Y: 0}, true, []int{1, 0, 0, 0, 0, 0, 0, 0}},
		{[]int{}, impl.Cell{X: 0, Y: 7}, true, []int{0, 0, 0, 0, 0, 0, 0, 1}},
		{nil, impl.Cell{X: 3, Y: 3}, false, make([]int, 8)},
		{[]int{1}, impl.Cell{X: 0, Y: 0}, false, make([]int, 8)},
		{[]int{255, 255, 255, 255, 255, 255, 255, 255}, impl.Cell{X: 7, Y: 7}, false, []int{255, 255, 255, 255, 255, 255, 255, 127}},
	}
	for _, c := range cases {
		got, ok := impl.WithCell(impl.Region{Rows: c.rows}, c.c, c.on)
		if !slices.Equal(got.Rows, c.want) || !ok {
			t.Errorf("WithCell of %v, %v and %v is %v %v, want %v true", c.rows, c.c, c.on, got.Rows, ok, c.want)
		}
	}
}

func TestWithCellChangesOneCellOnly(t *testing.T) {
	for _, lines := range shownRegions() {
		r := regionOf(lines)
		for _, c := range validCells() {
			for _, on := range []bool{true, false} {
				got, ok := impl.WithCell(r, c, on)
				if !ok || len(got.Rows) != 8 {
					t.Errorf("WithCell of %q, %v and %v is %v %v", lines, c, on, got, ok)
				}
				for _, d := range validCells() {
					want := shows(lines, d)
					if d == c {
						want = on
					}
					if impl.HasCell(got, d) != want {
						t.Errorf("WithCell of %q, %v and %v: HasCell of %v is %v", lines, c, on, d, !want)
					}
				}
			}
		}
	}
}

func TestWithCellThereAndBack(t *testing.T) {
	for _, lines := range shownRegions() {
		r := regionOf(lines)
		for _, c := range validCells() {
			is := impl.HasCell(r, c)
			same, _ := impl.WithCell(r, c, is)
			other, _ := impl.WithCell(r, c, !is)
			back, _ := impl.WithCell(other, c, is)
			if !impl.SameCells(same, r) || impl.SameCells(other, r) || !impl.SameCells(back, r) {
				t.Errorf("%v is not put in and taken out of %q: %v, %v, %v", c, lines, same, other, back)
			}
		}
	}
}

func TestWithCellRejects(t *testing.T) {
	reject := func(r impl.Region, c impl.Cell) {
		before := slices.Clone(r.Rows)
		for _, on := range []bool{true, false} {
			got, ok := impl.WithCell(r, c, on)
			if ok || !slices.Equal(got.Rows, before) {
				t.Errorf("WithCell(%v, %v, %v) is %v %v, want the region unchanged and false", r, c, on, got, ok)
			}
		}
	}
	for _, lines := range shownRegions() {
		for _, c := range invalidCells() {
			reject(regionOf(lines), c)
		}
	}
	for _, r := range invalidRegions() {
		for _, c := range []impl.Cell{{X: 0, Y: 0}, {X: 7, Y: 7}, {X: 8, Y: 0}, {X: 0, Y: 8}, {X: -1, Y: -1}} {
			reject(r, c)
		}
	}
}

func TestSameCells(t *testing.T) {
	cases := []struct {
		a, b []int
		want bool
	}{
		{nil, nil, true},
		{nil, []int{}, true},
		{nil, []int{0}, true},
		{nil, make([]int, 8), true},
		{[]int{7, 7}, []int{7, 7}, true},
		{[]int{7, 7}, []int{7, 7, 0}, true},
		{[]int{7, 7}, []int{7, 7, 0, 0, 0, 0, 0, 0}, true},
		{[]int{7, 7}, []int{7, 7, 0, 0, 0, 0, 0, 1}, false},
		{[]int{7, 7}, []int{0, 7, 7}, false},
		{[]int{7, 7}, []int{7}, false},
		{[]int{7, 7}, []int{7, 5}, false},
		{[]int{7}, []int{0, 7}, false},
		{[]int{0, 1}, []int{0, 1, 0}, true},
		{nil, []int{1}, false},
		{make([]int, 8), []int{0, 0, 0, 0, 0, 0, 0, 128}, false},
		{[]int{1, 2}, []int{2, 1}, false},
	}
	for _, c := range cases {
		a, b := impl.Region{Rows: c.a}, impl.Region{Rows: c.b}
		if impl.SameCells(a, b) != c.want || impl.SameCells(b, a) != c.want {
			t.Errorf("SameCells of %v and %v is not %v both ways", c.a, c.b, c.want)
		}
	}
	for _, a := range shownRegions() {
		for _, b := range shownRegions() {
			want := slices.Equal(cellsShown(a), cellsShown(b))
			if got := impl.SameCells(regionOf(a), regionOf(b)); got != want {
				t.Errorf("SameCells of %q and %q is %v", a, b, got)
			}
		}
	}
}

func TestSameCellsRejects(t *testing.T) {
	invalid := invalidRegions()
	others := append([]impl.Region{{}, {Rows: []int{255}}, {Rows: make([]int, 8)}, {Rows: slices.Repeat([]int{255}, 8)}}, invalid...)
	for _, a := range invalid {
		for _, b := range others {
			if impl.SameCells(a, b) || impl.SameCells(b, a) {
				t.Errorf("SameCells is true for %v and %v", a, b)
			}
		}
	}
}

// withSpare returns a region with these rows whose memory goes on behind them, and all of that memory.
func withSpare(rows []int) (impl.Region, []int) {
	memory := append(slices.Clone(rows), slices.Repeat([]int{77}, 12)...)
	return impl.Region{Rows: memory[:len(rows)]}, memory
}

// overwrite changes everything in the memory of a region, behind its rows as well.
func overwrite(r impl.Region) {
	all := r.Rows[:cap(r.Rows)]
	for i := range all {
		all[i] = -9
	}
}

func TestWithCellReturnsNewMemory(t *testing.T) {
	valid, invalid := impl.Cell{X: 2, Y: 1}, impl.Cell{X: 2, Y: 8}
	cases := []struct {
		rows []int
		c    impl.Cell
		ok   bool
	}{
		{[]int{}, valid, true},
		{[]int{7, 7}, valid, true},
		{[]int{7, 3}, valid, true},
		{slices.Repeat([]int{255}, 8), valid, true},
		{[]int{}, invalid, false},
		{[]int{7, 7}, invalid, false},
		{slices.Repeat([]int{255}, 8), invalid, false},
		{[]int{256, 7}, valid, false},
		{[]int{7, -1}, valid, false},
		{make([]int, 9), valid, false},
		{make([]int, 9), invalid, false},
	}
	for _, c := range cases {
		for _, on := range []bool{true, false} {
			r, memory := withSpare(c.rows)
			before := slices.Clone(memory)
			got, ok := impl.WithCell(r, c.c, on)
			if ok != c.ok || !slices.Equal(memory, before) {
				t.Errorf("WithCell of %v, %v and %v is %v and leaves %v behind", c.rows, c.c, on, ok, memory)
			}
			want := slices.Clone(got.Rows)
			overwrite(r)
			if !slices.Equal(got.Rows, want) {
				t.Errorf("a changed argument %v changes the result of WithCell to %v", c.rows, got.Rows)
			}
			copy(memory, before)
			overwrite(got)
			if !slices.Equal(memory, before) {
				t.Errorf("a changed result of WithCell changes the argument %v to %v", c.rows, memory)
			}
		}
	}
}

func TestRegionFunctionsLeaveArguments(t *testing.T) {
	regions := invalidRegions()
	for _, lines := range shownRegions() {
		regions = append(regions, regionOf(lines))
	}
	for _, from := range regions {
		r, memory := withSpare(from.Rows)
		other, otherMemory := withSpare([]int{5, 7})
		before := slices.Clone(memory)
		impl.RegionOk(r)
		impl.HasCell(r, impl.Cell{X: 1, Y: 7})
		impl.CellsOf(r)
		impl.CountCells(r)
		impl.SameCells(r, other)
		impl.SameCells(other, r)
		impl.RegionText(r)
		wantOther := append([]int{5, 7}, slices.Repeat([]int{77}, 12)...)
		if !slices.Equal(memory, before) || !slices.Equal(otherMemory, wantOther) {
			t.Errorf("an argument %v or {5, 7} became %v and %v", before, memory, otherMemory)
		}
	}
}

func TestRegionResultsAreNewMemory(t *testing.T) {
	overwrite(impl.Rectangle(3, 2))
	r := impl.Rectangle(3, 2)
	if !slices.Equal(r.Rows, []int{7, 7}) {
		t.Fatal("a changed rectangle changes a later one", r)
	}
	cells, text := impl.CellsOf(r), impl.RegionText(r)
	for i := range cells {
		cells[i] = impl.Cell{X: 5, Y: 5}
	}
	for i := range text {
		text[i] = "changed"
	}
	if again := impl.CellsOf(r); !slices.Equal(again, cellsShown([]string{"###", "###"})) {
		t.Error("a changed list of cells changes a later one", again)
	}
	if again := impl.RegionText(r); !slices.Equal(again, linesOf("###.....", 2)) {
		t.Error("a changed text changes a later one", again)
	}
}

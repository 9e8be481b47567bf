package tests

import (
	"math"
	"slices"
	"strings"
	"testing"

	"loop.example/g00860/impl"
)

// agreedIn returns the cells in which all images of a group agree, and -1 for the others.
func agreedIn(group [][][]int) [][]int {
	cells := copied(group[0])
	for _, m := range group {
		for y, row := range m {
			for x, cell := range row {
				if cell != group[0][y][x] {
					cells[y][x] = -1
				}
			}
		}
	}
	return cells
}

// freeIn counts the cells in which not all images agree.
func freeIn(cells [][]int) int {
	return len(slices.DeleteFunc(slices.Concat(cells...), func(cell int) bool { return cell != -1 }))
}

// onCycle reports whether steps from black to white cells of one row and from white to black cells of one column lead from a cell back to it.
func onCycle(m [][]int, y, x int) bool {
	start := [2]int{y, x}
	reached := map[[2]int]bool{}
	for queue := [][2]int{start}; len(queue) > 0; queue = queue[1:] {
		at := queue[0]
		color := m[at[0]][at[1]]
		for v, row := range m {
			for u, cell := range row {
				sameLine := color == 1 && v == at[0] || color == 0 && u == at[1]
				if next := [2]int{v, u}; sameLine && cell != color && !reached[next] {
					reached[next] = true
					queue = append(queue, next)
				}
			}
		}
	}
	return reached[start]
}

// greaterGroups returns all images with the same sums as some images of more than 16 cells.
func greaterGroups() [][][][]int {
	var groups [][][][]int
	for _, size := range [][2]int{{4, 5}, {5, 4}, {5, 5}} {
		count := 1 << (size[0] * size[1])
		for n := 0; n < count; n += count/40 + 1 {
			groups = append(groups, groupOf(ordered(size[0], size[1], n)))
		}
		groups = append(groups, groupOf(ordered(size[0], size[1], count-1)))
	}
	for _, text := range []string{
		"##.../.##../..##./...##/#...#", "#..../.#.../..#../...#./....#", ".####/#.###/##.##/###.#/####.", "#####/#..../#..../#..../.....", "#####/####./###../##.../#....",
		"##.../#.#../.##../...#./....#", "###../##.#./.#.##/..##./##..#", "##.../.##../..##./#...#", "##../.##./..##/#..#/##..", "#.###/.####/.#.../#..../..#..",
	} {
		groups = append(groups, groupOf(drawn(text)))
	}
	return groups
}

// checkAll checks AllImages and CountImages with all images that have the same sums.
func checkAll(t *testing.T, group [][][]int) {
	t.Helper()
	rows, cols := rowsAndCols(group[0])
	if got, ok := impl.AllImages(rows, cols); !ok || !slices.EqualFunc(got, group, same) {
		t.Fatalf("AllImages(%v, %v) = %v, %t, want %v", rows, cols, got, ok, group)
	}
	if got := impl.CountImages(rows, cols); got != len(group) {
		t.Fatalf("CountImages(%v, %v) = %d, want %d", rows, cols, got, len(group))
	}
}

// checkFixed checks what is said of the cells of m, of which group has all images with its sums.
func checkFixed(t *testing.T, group [][][]int, m [][]int) {
	t.Helper()
	want := agreedIn(group)
	rows, cols := rowsAndCols(m)
	if got := impl.FixedCells(rows, cols); !same(got, want) {
		t.Fatalf("FixedCells(%v, %v) = %v, want %v", rows, cols, got, want)
	}
	if got := impl.FreeCells(m); got != freeIn(want) {
		t.Fatalf("FreeCells(%v) = %d, want those of %v", m, got, want)
	}
	for y := -1; y <= len(m); y++ {
		for x := -1; x <= len(m[0]); x++ {
			inside := y >= 0 && y < len(m) && x >= 0 && x < len(m[0])
			if got := impl.IsFixed(m, y, x); got != (inside && want[y][x] != -1) {
				t.Fatalf("IsFixed(%v, %d, %d) = %t, want that of %v", m, y, x, got, want)
			}
		}
	}
}

func TestP9AllImagesAndCountImages(t *testing.T) {
	for _, c := range []struct {
		rows, cols []int
		want       []string
	}{
		// One image.
		{[]int{2, 1}, []int{2, 1}, []string{"##/#."}}, {[]int{1, 3, 2}, []int{1, 2, 3}, []string{"..#/###/.##"}}, {[]int{1, 0, 3}, []int{2, 1, 1}, []string{"#../.../###"}},
		{[]int{1, 5, 1, 1, 1}, []int{1, 1, 5, 1, 1}, []string{"..#../#####/..#../..#../..#.."}}, {[]int{5, 4, 3, 2, 1}, []int{5, 4, 3, 2, 1}, []string{"#####/####./###../##.../#...."}},
		// Two images.
		{[]int{1, 1}, []int{1, 1}, []string{".#/#.", "#./.#"}}, {[]int{3, 1, 1}, []int{1, 2, 2}, []string{"###/..#/.#.", "###/.#./..#"}}, {[]int{0, 1, 0, 0, 1}, []int{0, 0, 1, 0, 1}, []string{"...../....#/...../...../..#..", "...../..#../...../...../....#"}},
		// More images.
		{[]int{1, 2}, []int{1, 1, 1}, []string{"..#/##.", ".#./#.#", "#../.##"}}, {[]int{1, 1, 1}, []int{1, 1, 1}, []string{"..#/.#./#..", "..#/#../.#.", ".#./..#/#..", ".#./#../..#", "#../..#/.#.", "#../.#./..#"}},
		{[]int{2, 1, 1}, []int{1, 2, 1}, []string{".##/.#./#..", ".##/#../.#.", "#.#/.#./.#.", "##./..#/.#.", "##./.#./..#"}}, {[]int{2, 2}, []int{1, 1, 1, 1}, []string{"..##/##..", ".#.#/#.#.", ".##./#..#", "#..#/.##.", "#.#./.#.#", "##../..##"}},
		{[]int{3, 3, 1, 1}, []int{1, 1, 3, 3}, []string{".###/#.##/...#/..#.", ".###/#.##/..#./...#", "#.##/.###/...#/..#.", "#.##/.###/..#./...#"}}, {[]int{1, 1, 0, 2}, []int{2, 2}, []string{".#/#./../##", "#./.#/../##"}},
		// 1 row or 1 column.
		{[]int{0}, []int{0}, []string{"."}}, {[]int{1}, []int{1}, []string{"#"}}, {[]int{3}, []int{1, 0, 1, 1, 0}, []string{"#.##."}}, {[]int{1, 0, 1, 1, 0}, []int{3}, []string{"#/./#/#/."}}, {[]int{1}, []int{0, 1}, []string{".#"}}, {[]int{0, 1}, []int{1}, []string{"./#"}},
		{[]int{0}, []int{0, 0, 0, 0, 0}, []string{"....."}}, {[]int{5}, []int{1, 1, 1, 1, 1}, []string{"#####"}}, {[]int{0, 0, 0, 0, 0}, []int{0}, []string{"././././."}}, {[]int{1, 1, 1, 1, 1}, []int{5}, []string{"#/#/#/#/#"}},
		// Sums that are all 0, full rows and columns.
		{[]int{0, 0}, []int{0, 0, 0}, []string{".../..."}}, {[]int{3, 3}, []int{2, 2, 2}, []string{"###/###"}}, {[]int{0, 0, 0, 0, 0}, []int{0, 0, 0, 0, 0}, []string{"...../...../...../...../....."}}, {[]int{5, 5, 5, 5, 5}, []int{5, 5, 5, 5, 5}, []string{"#####/#####/#####/#####/#####"}},
		{[]int{3, 0}, []int{1, 1, 1}, []string{"###/..."}}, {[]int{1, 1, 1}, []int{0, 3}, []string{".#/.#/.#"}}, {[]int{5, 1, 0, 1, 0}, []int{1, 1, 2, 2, 1}, []string{"#####/...#./...../..#../.....", "#####/..#../...../...#./....."}},
		// Sums without an image, and one difference from sums with one.
		{[]int{3, 0}, []int{2, 1, 0}, nil}, {[]int{2, 0}, []int{0, 2}, nil}, {[]int{2, 0}, []int{2, 0}, nil}, {[]int{5, 5, 0, 0, 0}, []int{3, 3, 2, 1, 1}, nil}, {[]int{5, 5, 0, 0, 0}, []int{2, 2, 2, 2, 2}, []string{"#####/#####/...../...../....."}}, {[]int{4, 4, 2, 2}, []int{4, 4, 4, 0}, nil},
	} {
		var texts []string
		list, ok := impl.AllImages(c.rows, c.cols)
		for _, m := range list {
			texts = append(texts, impl.FormatImage(m))
		}
		if !ok || !slices.Equal(texts, c.want) {
			t.Errorf("AllImages(%v, %v) = %v, %t, want %v", c.rows, c.cols, texts, ok, c.want)
		}
		if got := impl.CountImages(c.rows, c.cols); got != len(c.want) {
			t.Errorf("CountImages(%v, %v) = %d, want %d", c.rows, c.cols, got, len(c.want))
		}
	}
}

func TestP9CountImagesOfEqualSums(t *testing.T) {
	for _, c := range []struct{ side, sum, want int }{
		{3, 1, 6}, {3, 2, 6}, {4, 1, 24}, {4, 2, 90}, {4, 3, 24}, {5, 0, 1}, {5, 1, 120}, {5, 2, 2040}, {5, 3, 2040}, {5, 4, 120}, {5, 5, 1},
	} {
		sums := slices.Repeat([]int{c.sum}, c.side)
		if got := impl.CountImages(sums, sums); got != c.want {
			t.Errorf("CountImages(%v, %v) = %d, want %d", sums, sums, got, c.want)
		}
	}
}

func TestP3AllImagesAreThoseWithTheSums(t *testing.T) {
	t.Parallel()
	eachGroup(1, 16, func(group [][][]int) { checkAll(t, group) })
}

func TestP3AllGreaterImagesAreThoseWithTheSums(t *testing.T) {
	t.Parallel()
	for _, group := range greaterGroups() {
		checkAll(t, group)
		// The same in another way: the list ascends, all of it has the sums, and switches lead to so many images.
		rows, cols := rowsAndCols(group[0])
		list, _ := impl.AllImages(rows, cols)
		for i, m := range list {
			if !impl.ImageOk(m) || !sameSumsAs(m, rows, cols) || i > 0 && slices.Compare(slices.Concat(list[i-1]...), slices.Concat(m...)) >= 0 {
				t.Fatalf("AllImages(%v, %v) has %v as its element %d", rows, cols, m, i)
			}
		}
		if found := flooded(group[len(group)/2]); len(found) != len(list) {
			t.Fatalf("AllImages(%v, %v) has %d elements, but switches lead to %d images", rows, cols, len(list), len(found))
		}
	}
}

func TestP3SwitchesJoinAllOfAllImages(t *testing.T) {
	t.Parallel()
	eachGroup(1, 12, func(group [][][]int) {
		rows, cols := rowsAndCols(group[0])
		list, _ := impl.AllImages(rows, cols)
		found := flooded(list[0])
		for _, m := range list {
			if !found[impl.FormatImage(m)] {
				t.Fatalf("no switches lead from %v to %v", list[0], m)
			}
			if impl.IsUnique(m) != (len(list) == 1) {
				t.Fatalf("IsUnique(%v) = %t, but AllImages has %d", m, impl.IsUnique(m), len(list))
			}
		}
		if len(found) != impl.CountImages(rows, cols) {
			t.Fatalf("switches lead from %v to %d images, but CountImages is %d", list[0], len(found), impl.CountImages(rows, cols))
		}
	})
}

func TestP3ImagesOfAllSumsAreAllImages(t *testing.T) {
	for nRows := 1; nRows <= 4; nRows++ {
		for nCols := 1; nCols <= 3; nCols++ {
			count := 0
			for _, rows := range listsOf(nRows, 0, nCols) {
				for _, cols := range listsOf(nCols, 0, nRows) {
					got := impl.CountImages(rows, cols)
					if got != impl.CountImages(cols, rows) || (got == -1) != (total(rows) != total(cols)) {
						t.Fatalf("CountImages(%v, %v) = %d, and %d with rows and columns exchanged", rows, cols, got, impl.CountImages(cols, rows))
					}
					count += max(got, 0)
				}
			}
			if count != 1<<(nRows*nCols) {
				t.Errorf("there are %d images of %d rows and %d columns", count, nRows, nCols)
			}
		}
	}
}

func TestP9SumsWithoutAnImage(t *testing.T) {
	t.Parallel()
	eachSums(func(rows, cols []int, exists bool) {
		if exists {
			return
		}
		if got, ok := impl.AllImages(rows, cols); len(got) != 0 || !ok {
			t.Fatalf("AllImages(%v, %v) = %v, %t", rows, cols, got, ok)
		}
		if got := impl.CountImages(rows, cols); got != 0 {
			t.Fatalf("CountImages(%v, %v) = %d", rows, cols, got)
		}
		if got := impl.FixedCells(rows, cols); len(got) != 0 {
			t.Fatalf("FixedCells(%v, %v) = %v", rows, cols, got)
		}
		if got := impl.GreatestPath(rows, cols); got != -1 {
			t.Fatalf("GreatestPath(%v, %v) = %d", rows, cols, got)
		}
	})
}

func TestP9FixedCellsIsFixedAndFreeCells(t *testing.T) {
	for _, c := range agreements {
		want := masked(c.cells)
		if got := impl.FixedCells(c.rows, c.cols); !same(got, want) {
			t.Errorf("FixedCells(%v, %v) = %v, want %s", c.rows, c.cols, got, c.cells)
		}
		for _, m := range imagesByRows(c.rows, colSumsOf(c.cols), len(c.cols)) {
			if got := impl.FreeCells(m); got != strings.Count(c.cells, "?") {
				t.Errorf("FreeCells(%v) = %d, cells %s", m, got, c.cells)
			}
			for y, row := range want {
				for x, cell := range row {
					if got := impl.IsFixed(m, y, x); got != (cell != -1) {
						t.Errorf("IsFixed(%v, %d, %d) = %t, cells %s", m, y, x, got, c.cells)
					}
				}
			}
		}
	}
}

func TestP9FreeCells(t *testing.T) {
	for _, c := range []struct {
		text string
		want int
	}{
		{"#", 0}, {".", 0}, {"##/#.", 0}, {"#.#.#", 0}, {"#/./#", 0}, {"#####/####./###../##.../#....", 0}, {"..#../#####/..#../..#../..#..", 0}, {"#####/#####/#####/#####/#####", 0}, {"...../...../...../...../.....", 0},
		{"#./.#", 4}, {".#/#.", 4}, {"##./..#", 6}, {"#../.#./..#", 9}, {"#.#./.#.#/#.#./.#.#", 16}, {"#.#.#/.#.#./#.#.#/.#.#./#.#.#", 25}, {"#..../.#.../..#../...#./....#", 25}, {".####/#.###/##.##/###.#/####.", 25},
		{"###/.#./..#", 4}, {"#../##./#.#", 4}, {"#.##/.###/..#./...#", 8}, {"#####/..#../...#./....#/.....", 9}, {"#..../...../...../...../....#", 4},
	} {
		if got := impl.FreeCells(drawn(c.text)); got != c.want {
			t.Errorf("FreeCells(%s) = %d, want %d", c.text, got, c.want)
		}
	}
}

func TestP9FixedCellsSayWhatAllImagesAgreeIn(t *testing.T) {
	t.Parallel()
	eachGroup(1, 12, func(group [][][]int) {
		for _, m := range group {
			checkFixed(t, group, m)
		}
	})
}

func TestP9FixedCellsOfGreaterImages(t *testing.T) {
	t.Parallel()
	check := func(group [][][]int) {
		for _, m := range [][][]int{group[0], group[len(group)-1]} {
			checkFixed(t, group, m)
		}
	}
	eachGroup(13, 16, check)
	for _, group := range greaterGroups() {
		check(group)
	}
}

func TestP3CellsAreFixedExactlyWithoutACycle(t *testing.T) {
	t.Parallel()
	check := func(m [][]int) {
		free := 0
		for y, row := range m {
			for x := range row {
				cycle := onCycle(m, y, x)
				if got := impl.IsFixed(m, y, x); got == cycle {
					t.Fatalf("IsFixed(%v, %d, %d) = %t, and a cycle contains the cell: %t", m, y, x, got, cycle)
				}
				if cycle {
					free++
				}
			}
		}
		if got := impl.FreeCells(m); got != free {
			t.Fatalf("FreeCells(%v) = %d, but cycles contain %d cells", m, got, free)
		}
	}
	eachGroup(1, 12, func(group [][][]int) {
		for _, m := range group {
			check(m)
		}
	})
	eachGroup(13, 16, func(group [][][]int) { check(group[len(group)/2]) })
	for _, group := range greaterGroups() {
		check(group[0])
		check(group[len(group)/3])
	}
}

func TestP3UniqueImagesHaveNoFreeCell(t *testing.T) {
	for _, m := range manyImages() {
		if unique, free := impl.IsUnique(m), impl.FreeCells(m); unique != (free == 0) || !unique && free < 4 {
			t.Errorf("FreeCells(%v) = %d, but IsUnique is %t", m, free, unique)
		}
		rows, cols := rowsAndCols(m)
		if got := impl.FixedCells(rows, cols); freeIn(got) != impl.FreeCells(m) || impl.FreeCells(m) == 0 && !same(got, m) {
			t.Errorf("FixedCells(%v, %v) = %v, FreeCells(%v) = %d", rows, cols, got, m, impl.FreeCells(m))
		}
	}
}

func TestP9GreatestPath(t *testing.T) {
	for _, c := range []struct {
		rows, cols []int
		want       int
	}{
		// One image.
		{[]int{0}, []int{0}, 0}, {[]int{1}, []int{1}, 0}, {[]int{2, 1}, []int{2, 1}, 0}, {[]int{2}, []int{1, 0, 0, 1}, 0}, {[]int{1, 0, 0, 1}, []int{2}, 0}, {[]int{0, 0, 0, 0}, []int{0, 0, 0, 0}, 0}, {[]int{4, 4, 4, 4}, []int{4, 4, 4, 4}, 0}, {[]int{4, 3, 2, 1}, []int{4, 3, 2, 1}, 0},
		{[]int{1, 1}, []int{1, 1}, 1}, {[]int{1, 2}, []int{1, 1, 1}, 1}, {[]int{1, 1, 1}, []int{1, 1, 1}, 2}, {[]int{2, 2}, []int{1, 1, 1, 1}, 2}, {[]int{3, 3, 1, 1}, []int{1, 1, 3, 3}, 2},
		// 4 rows and columns.
		{[]int{1, 1, 1, 1}, []int{1, 1, 1, 1}, 3}, {[]int{3, 3, 3, 3}, []int{3, 3, 3, 3}, 3}, {[]int{2, 2, 2, 2}, []int{2, 2, 2, 2}, 4}, {[]int{1, 0, 0, 1}, []int{0, 1, 1, 0}, 1},
		// No image.
		{[]int{3, 0}, []int{2, 1, 0}, -1}, {[]int{2, 0}, []int{0, 2}, -1}, {[]int{4, 4, 2, 2}, []int{4, 4, 4, 0}, -1},
		// 5 rows or columns.
		{[]int{0}, []int{0, 0, 0, 0, 0}, -1}, {[]int{0, 0, 0, 0, 0}, []int{0}, -1}, {[]int{5}, []int{1, 1, 1, 1, 1}, -1}, {[]int{1, 1, 1, 1, 1}, []int{5}, -1}, {[]int{1, 1}, []int{1, 0, 0, 0, 1}, -1}, {[]int{1, 0, 0, 0, 1}, []int{1, 1}, -1},
		{[]int{1, 1, 1, 1}, []int{1, 1, 1, 1, 0}, -1}, {[]int{1, 1, 1, 1, 0}, []int{1, 1, 1, 1}, -1}, {[]int{1, 1, 1, 1, 1}, []int{1, 1, 1, 1, 1}, -1}, {[]int{5, 5, 0, 0, 0}, []int{3, 3, 2, 1, 1}, -1},
	} {
		if got := impl.GreatestPath(c.rows, c.cols); got != c.want {
			t.Errorf("GreatestPath(%v, %v) = %d, want %d", c.rows, c.cols, got, c.want)
		}
	}
}

func TestP3GreatestPathIsThatOfPathTo(t *testing.T) {
	t.Parallel()
	eachGroup(1, 16, func(group [][][]int) {
		rows, cols := rowsAndCols(group[0])
		want := -1
		if len(rows) <= 4 && len(cols) <= 4 {
			for _, m := range group {
				list, _ := impl.PathTo(group[0], m)
				want = max(want, len(list))
			}
		}
		if got := impl.GreatestPath(rows, cols); got != want {
			t.Fatalf("GreatestPath(%v, %v) = %d, want %d", rows, cols, got, want)
		}
	})
	for _, group := range greaterGroups() {
		if rows, cols := rowsAndCols(group[0]); impl.GreatestPath(rows, cols) != -1 {
			t.Errorf("GreatestPath(%v, %v) = %d", rows, cols, impl.GreatestPath(rows, cols))
		}
	}
}

func TestP3GreatestPathIsTheGreatestDistance(t *testing.T) {
	t.Parallel()
	eachGroup(1, 12, func(group [][][]int) {
		if rows, cols := rowsAndCols(group[0]); len(rows) <= 4 && len(cols) <= 4 {
			if got, want := impl.GreatestPath(rows, cols), slices.Max(webOf(group).distances(0)); got != want {
				t.Fatalf("GreatestPath(%v, %v) = %d, want %d", rows, cols, got, want)
			}
		}
	})
}

func TestP9ClassesOfInvalidSums(t *testing.T) {
	for label, c := range invalidSums() {
		if got, ok := impl.AllImages(c[0], c[1]); len(got) != 0 || ok {
			t.Errorf("AllImages = %v, %t: %s", got, ok, label)
		}
		if got := impl.CountImages(c[0], c[1]); got != -1 {
			t.Errorf("CountImages = %d: %s", got, label)
		}
		if got := impl.FixedCells(c[0], c[1]); len(got) != 0 {
			t.Errorf("FixedCells = %v: %s", got, label)
		}
		if got := impl.GreatestPath(c[0], c[1]); got != -1 {
			t.Errorf("GreatestPath = %d: %s", got, label)
		}
	}
}

func TestP9CellsOfInvalidImages(t *testing.T) {
	bad := invalidImages()
	bad["a switch of 2 and 0"] = [][]int{{2, 0}, {0, 2}}
	bad["a switch and a longer row"] = [][]int{{1, 0}, {0, 1}, {1, 0, 1}}
	for label, m := range bad {
		if got := impl.FreeCells(m); got != -1 {
			t.Errorf("FreeCells = %d: %s", got, label)
		}
		for y := -1; y <= impl.MaxSide; y++ {
			for x := -1; x <= impl.MaxSide; x++ {
				if impl.IsFixed(m, y, x) {
					t.Errorf("IsFixed of (%d, %d) is true: %s", y, x, label)
				}
			}
		}
	}
}

func TestP9IsFixedOfCellsFarAway(t *testing.T) {
	for _, m := range [][][]int{{{0}}, {{1}}, {{1, 0, 1}}, drawn("#./.#"), drawn("###/.#./..#"), numbered(5, 5, 0), numbered(5, 5, 1<<25-1), numbered(5, 5, 0x1234567)} {
		for _, far := range farInts {
			for _, place := range [][2]int{{far, 0}, {0, far}, {far, far}, {len(m) - 1, far}, {far, len(m[0]) - 1}, {len(m), far}, {far, -1}} {
				if impl.IsFixed(m, place[0], place[1]) {
					t.Errorf("IsFixed(%v, %d, %d) is true", m, place[0], place[1])
				}
			}
		}
		for _, place := range [][2]int{{-1, 0}, {0, -1}, {len(m), 0}, {0, len(m[0])}, {len(m), len(m[0])}, {-1, -1}, {-1, len(m[0])}, {len(m), -1}} {
			if impl.IsFixed(m, place[0], place[1]) {
				t.Errorf("IsFixed(%v, %d, %d) is true", m, place[0], place[1])
			}
		}
	}
}

func TestP9ClassArgumentsStay(t *testing.T) {
	for _, c := range [][2][]int{
		{{1, 2}, {1, 1, 1}}, {{1, 2}, {2, 1, 0}}, {{0}, {0}}, {{2, 2, 2, 2}, {2, 2, 2, 2}}, {{2, 2, 2, 2, 2}, {2, 2, 2, 2, 2}}, {{5, 1, 1, 1, 0}, {1, 1, 2, 2, 2}}, {{1, 3, 2}, {1, 2, 3}}, {{1, 0, 1, 1, 0}, {3}}, {{3}, {1, 0, 1, 1, 0}},
		{{3, 0}, {2, 1, 0}}, {{2, 2}, {1, 3}}, {{-1, 7}, {3, -2}}, {{}, {}}, {{1, 1, 1, 1, 1, 1}, {3, 3}}, {{math.MinInt, 0, math.MaxInt}, {math.MaxInt, math.MinInt}},
	} {
		rows, wholeRows := withRoom(c[0])
		cols, wholeCols := withRoom(c[1])
		rowsBefore, colsBefore := slices.Clone(wholeRows), slices.Clone(wholeCols)
		impl.AllImages(rows, cols)
		impl.CountImages(rows, cols)
		impl.FixedCells(rows, cols)
		impl.GreatestPath(rows, cols)
		if !slices.Equal(wholeRows, rowsBefore) || !slices.Equal(wholeCols, colsBefore) {
			t.Errorf("the arguments %v and %v or the room behind them have become %v and %v", c[0], c[1], wholeRows, wholeCols)
		}
	}
	for _, m := range [][][]int{{{1}}, {{0, 1, 1}}, drawn("#./.#"), drawn("###/.#./..#"), numbered(5, 5, 0x1234567), numbered(6, 6, 5), {{1, 2}, {0, 1}}, {{1}, {0, 1}}, {}} {
		a, whole := roomy(m)
		before := copied(memory(whole))
		impl.FreeCells(a)
		for y := range impl.MaxSide {
			for x := range impl.MaxSide {
				impl.IsFixed(a, y, x)
			}
		}
		if !same(memory(whole), before) {
			t.Errorf("the argument %v or the room behind it has become %v", m, memory(whole))
		}
	}
}

// checkImagesApart puts other rows into all memory of each image, upwards and downwards, and checks that no image has those of another one.
func checkImagesApart(t *testing.T, label string, list [][][]int) {
	t.Helper()
	for _, down := range []bool{false, true} {
		for i := range list {
			if down {
				i = len(list) - 1 - i
			}
			m := list[i][:cap(list[i])]
			for y := range m {
				m[y] = []int{i}
			}
		}
		for i, m := range list {
			for _, row := range m {
				if row[0] != i {
					t.Fatalf("%s: two images of one result share memory", label)
				}
			}
		}
	}
}

// copiedAll returns equal images.
func copiedAll(list [][][]int) [][][]int {
	var all [][][]int
	for _, m := range list {
		all = append(all, copied(m))
	}
	return all
}

func TestP9ClassResultsAreNew(t *testing.T) {
	for _, c := range [][2][]int{
		{{1, 1}, {1, 1}}, {{1, 2}, {1, 1, 1}}, {{0}, {0}}, {{1}, {1}}, {{3}, {1, 0, 1, 1, 0}}, {{1, 0, 1, 1, 0}, {3}}, {{1, 3, 2}, {1, 2, 3}}, {{2, 2, 2, 2}, {2, 2, 2, 2}}, {{1, 1, 1, 1, 1}, {1, 1, 1, 1, 1}},
		{{5, 1, 1, 1, 0}, {1, 1, 2, 2, 2}}, {{0, 0, 0, 0, 0}, {0, 0, 0, 0, 0}}, {{5, 5, 5, 5, 5}, {5, 5, 5, 5, 5}},
	} {
		rows, wholeRows := withRoom(c[0])
		cols, wholeCols := withRoom(c[1])
		rowsBefore, colsBefore := slices.Clone(wholeRows), slices.Clone(wholeCols)
		cells := impl.FixedCells(rows, cols)
		wantCells := copied(cells)
		list, _ := impl.AllImages(rows, cols)
		want := copiedAll(list)
		if len(cells) != len(rows) || len(list) == 0 {
			t.Errorf("FixedCells(%v, %v) = %v, AllImages %v", rows, cols, cells, list)
			continue
		}
		checkRowsApart(t, "FixedCells", cells)
		checkRowsApart(t, "AllImages", slices.Concat(list...))
		checkImagesApart(t, "AllImages", list)
		clear(list[:cap(list)])
		if !slices.Equal(wholeRows, rowsBefore) || !slices.Equal(wholeCols, colsBefore) {
			t.Errorf("a result for %v and %v is memory of its arguments", c[0], c[1])
		}
		if second := impl.FixedCells(rows, cols); !same(second, wantCells) {
			t.Errorf("FixedCells(%v, %v) = %v after its first result was overwritten, want %v", rows, cols, second, wantCells)
		}
		if second, ok := impl.AllImages(rows, cols); !ok || !slices.EqualFunc(second, want, same) {
			t.Errorf("AllImages(%v, %v) = %v, %t after its first result was overwritten, want %v", rows, cols, second, ok, want)
		}
	}
}

package tests

import (
	"math"
	"slices"
	"strings"
	"testing"

	"loop.example/g00860/impl"
)

// ordered returns the image of this size whose cells, from the first to the last, are the bits of n, so that images ascend with n.
func ordered(rows, cols, n int) [][]int {
	m := numbered(rows, cols, 0)
	for y := range m {
		for x := range m[y] {
			m[y][x] = n >> (rows*cols - 1 - y*cols - x) & 1
		}
	}
	return m
}

// A family is what all images with the same sums have in common.
type family struct {
	rows, cols []int
	least      [][]int
	count      int
	// blackIn counts the images in which a cell is black.
	blackIn [][]int
}

// familiesOf tries all images of a size, in lexicographic order.
func familiesOf(nRows, nCols int) map[[2]colSums]*family {
	families := map[[2]colSums]*family{}
	for n := range 1 << (nRows * nCols) {
		m := ordered(nRows, nCols, n)
		rows, cols := rowsAndCols(m)
		key := [2]colSums{colSumsOf(rows), colSumsOf(cols)}
		f := families[key]
		if f == nil {
			f = &family{rows: rows, cols: cols, least: m, blackIn: numbered(nRows, nCols, 0)}
			families[key] = f
		}
		f.count++
		for y, row := range m {
			for x, cell := range row {
				f.blackIn[y][x] += cell
			}
		}
	}
	return families
}

// eachFamily calls check for the families of all sizes of at most 16 cells.
func eachFamily(check func(f *family)) {
	for nRows := 1; nRows <= impl.MaxSide; nRows++ {
		for nCols := 1; nCols <= impl.MaxSide; nCols++ {
			if nRows*nCols > 16 {
				continue
			}
			for _, f := range familiesOf(nRows, nCols) {
				check(f)
			}
		}
	}
}

// builtByHand chooses the black cells one by one, each in the column that has most left.
func builtByHand(rows, cols []int) [][]int {
	left := slices.Clone(cols)
	m := numbered(len(rows), len(cols), 0)
	for y, sum := range rows {
		for range sum {
			best := -1
			for x := range left {
				if m[y][x] == 0 && (best < 0 || left[x] > left[best]) {
					best = x
				}
			}
			m[y][best] = 1
		}
		for x := range left {
			left[x] -= m[y][x]
		}
	}
	return m
}

// without returns the column sums that are left below a row, with zeros behind them.
func without(sums colSums, row []int) colSums {
	for x, cell := range row {
		sums[x] -= cell
	}
	return sums
}

// A tail has the column sums of all images that the rows from one row on have.
type tail map[colSums]bool

func tailsOf(rows []int, cols int) []tail {
	var tails []tail
	for y := range len(rows) + 1 {
		tails = append(tails, colSumsFor(rows[y:], cols))
	}
	return tails
}

// leastByTails takes for each row the first one with which the rows below still have what is left.
func leastByTails(tails []tail, cols []int) [][]int {
	left := colSumsOf(cols)
	var m [][]int
	for y := range len(tails) - 1 {
		for n := range 1 << len(cols) {
			row := ordered(1, len(cols), n)[0]
			// What is left says how many cells of the row are black: the rows below have one total.
			if rest := without(left, row); tails[y+1][rest] {
				m = append(m, row)
				left = rest
				break
			}
		}
	}
	return m
}

func sameSumsAs(m [][]int, rows, cols []int) bool {
	gotRows, gotCols := rowsAndCols(m)
	return slices.Equal(gotRows, rows) && slices.Equal(gotCols, cols)
}

func TestP9BuildImageAndLeastImage(t *testing.T) {
	for _, c := range []struct {
		rows, cols   []int
		built, least string
	}{
		{[]int{1, 2}, []int{1, 1, 1}, "#../.##", "..#/##."}, {[]int{2, 1}, []int{1, 1, 1}, "##./..#", ".##/#.."}, {[]int{1, 1}, []int{1, 1}, "#./.#", ".#/#."},
		// Equal column sums that are left, of which those further to the left come first.
		{[]int{2, 2, 1}, []int{2, 2, 1}, "##./##./..#", ".##/##./#.."}, {[]int{2, 2, 2, 2, 2}, []int{2, 2, 2, 2, 2}, "##.../..##./#...#/.##../...##", "...##/...##/.##../#.#../##..."},
		{[]int{1, 1, 1, 1, 1}, []int{1, 1, 1, 1, 1}, "#..../.#.../..#../...#./....#", "....#/...#./..#../.#.../#...."}, {[]int{3, 2}, []int{1, 1, 1, 1, 1}, "###../...##", "..###/##..."},
		// Column sums in no order.
		{[]int{2, 2, 1}, []int{1, 3, 1}, "##./.##/.#.", ".##/##./.#."}, {[]int{1, 2, 0, 1, 1}, []int{2, 3}, ".#/##/../#./.#", ".#/##/../.#/#."}, {[]int{2, 1, 2}, []int{1, 0, 2, 2}, "..##/#.../..##", "..##/...#/#.#."},
		// Sums of one image alone.
		{[]int{1, 3, 2}, []int{1, 2, 3}, "..#/###/.##", "..#/###/.##"}, {[]int{0, 2, 0}, []int{1, 0, 1}, ".../#.#/...", ".../#.#/..."}, {[]int{3, 2, 1}, []int{3, 2, 1}, "###/##./#..", "###/##./#.."},
		{[]int{1, 5, 1, 1, 1}, []int{1, 1, 5, 1, 1}, "..#../#####/..#../..#../..#..", "..#../#####/..#../..#../..#.."}, {[]int{0, 1}, []int{0, 0, 0, 0, 1}, "...../....#", "...../....#"},
		// 1 row or 1 column.
		{[]int{0}, []int{0}, ".", "."}, {[]int{1}, []int{1}, "#", "#"}, {[]int{3}, []int{1, 0, 1, 1, 0}, "#.##.", "#.##."}, {[]int{1, 0, 1, 1, 0}, []int{3}, "#/./#/#/.", "#/./#/#/."},
		{[]int{5}, []int{1, 1, 1, 1, 1}, "#####", "#####"}, {[]int{0}, []int{0, 0, 0, 0, 0}, ".....", "....."}, {[]int{1, 1, 1, 1, 1}, []int{5}, "#/#/#/#/#", "#/#/#/#/#"}, {[]int{0, 0}, []int{0}, "./.", "./."},
		// Sums that are all 0 and all the greatest ones.
		{[]int{0, 0}, []int{0, 0, 0}, ".../...", ".../..."}, {[]int{3, 3}, []int{2, 2, 2}, "###/###", "###/###"},
		{[]int{0, 0, 0, 0, 0}, []int{0, 0, 0, 0, 0}, "...../...../...../...../.....", "...../...../...../...../....."}, {[]int{5, 5, 5, 5, 5}, []int{5, 5, 5, 5, 5}, "#####/#####/#####/#####/#####", "#####/#####/#####/#####/#####"},
		// Without an image.
		{[]int{3, 0}, []int{2, 1, 0}, "", ""}, {[]int{2, 0}, []int{0, 2}, "", ""}, {[]int{5, 5, 0, 0, 0}, []int{3, 3, 2, 1, 1}, "", ""}, {[]int{4, 4, 2, 2}, []int{4, 4, 4, 0}, "", ""},
	} {
		if got, ok := impl.BuildImage(c.rows, c.cols); impl.FormatImage(got) != c.built || ok != (c.built != "") || !ok && len(got) != 0 {
			t.Errorf("BuildImage(%v, %v) = %v, %t, want %s", c.rows, c.cols, got, ok, c.built)
		}
		if got, ok := impl.LeastImage(c.rows, c.cols); impl.FormatImage(got) != c.least || ok != (c.least != "") || !ok && len(got) != 0 {
			t.Errorf("LeastImage(%v, %v) = %v, %t, want %s", c.rows, c.cols, got, ok, c.least)
		}
	}
}

func TestP2BuiltImagesHaveTheSums(t *testing.T) {
	t.Parallel()
	eachSums(func(rows, cols []int, exists bool) {
		got, ok := impl.BuildImage(rows, cols)
		if ok != exists || !ok && len(got) != 0 {
			t.Fatalf("BuildImage(%v, %v) = %v, %t", rows, cols, got, ok)
		}
		if exists && (!impl.ImageOk(got) || !sameSumsAs(got, rows, cols)) {
			t.Fatalf("BuildImage(%v, %v) = %v has other sums", rows, cols, got)
		}
		if exists && !same(got, builtByHand(rows, cols)) {
			t.Fatalf("BuildImage(%v, %v) = %v, want %v", rows, cols, got, builtByHand(rows, cols))
		}
	})
}

func TestP2LeastImageOfAllSums(t *testing.T) {
	t.Parallel()
	// The tails serve for all column sums that come one after the other with the same row sums.
	var tails []tail
	var tailRows []int
	tailCols := 0
	eachSums(func(rows, cols []int, exists bool) {
		got, ok := impl.LeastImage(rows, cols)
		if ok != exists || !ok && len(got) != 0 {
			t.Fatalf("LeastImage(%v, %v) = %v, %t", rows, cols, got, ok)
		}
		if !exists {
			return
		}
		if !impl.ImageOk(got) || !sameSumsAs(got, rows, cols) {
			t.Fatalf("LeastImage(%v, %v) = %v has other sums", rows, cols, got)
		}
		if tailCols != len(cols) || !slices.Equal(tailRows, rows) {
			tails, tailRows, tailCols = tailsOf(rows, len(cols)), rows, len(cols)
		}
		if want := leastByTails(tails, cols); !same(got, want) {
			t.Fatalf("LeastImage(%v, %v) = %v, want %v", rows, cols, got, want)
		}
	})
}

func TestP2LeastImageIsTheFirstOfAll(t *testing.T) {
	eachFamily(func(f *family) {
		if got, ok := impl.LeastImage(f.rows, f.cols); !ok || !same(got, f.least) {
			t.Fatalf("LeastImage(%v, %v) = %v, %t, want %v", f.rows, f.cols, got, ok, f.least)
		}
		built, ok := impl.BuildImage(f.rows, f.cols)
		if !ok || slices.Compare(slices.Concat(built...), slices.Concat(f.least...)) < 0 {
			t.Fatalf("BuildImage(%v, %v) = %v, %t, but the least one is %v", f.rows, f.cols, built, ok, f.least)
		}
	})
}

// agreements are sums, with the cells in which all of their images agree.
var agreements = []struct {
	rows, cols []int
	// In all images the cells are # or . or, for ?, black in some and white in others.
	cells string
}{
	{[]int{1, 1}, []int{1, 1}, "??/??"}, {[]int{2, 1}, []int{2, 1}, "##/#."}, {[]int{1, 2}, []int{1, 2}, ".#/##"}, {[]int{1, 2}, []int{1, 1, 1}, "???/???"},
	{[]int{3, 1, 1}, []int{1, 2, 2}, "###/.??/.??"}, {[]int{1, 1, 3}, []int{2, 2, 1}, "??./??./###"}, {[]int{0, 1, 1}, []int{0, 1, 1}, ".../.??/.??"}, {[]int{1, 0, 1}, []int{1, 0, 1}, "?.?/.../?.?"},
	{[]int{5, 1, 1, 1, 0}, []int{1, 1, 2, 2, 2}, "#####/..???/..???/..???/....."}, {[]int{1, 1, 1, 1, 1}, []int{1, 1, 1, 1, 1}, "?????/?????/?????/?????/?????"},
	{[]int{1, 5, 1, 1, 1}, []int{1, 1, 5, 1, 1}, "..#../#####/..#../..#../..#.."}, {[]int{5, 4, 4, 5, 5}, []int{5, 5, 5, 4, 4}, "#####/###??/###??/#####/#####"},
	// Two parts that are free, with fixed cells of both colors between them.
	{[]int{3, 3, 1, 1}, []int{1, 1, 3, 3}, "??##/??##/..??/..??"}, {[]int{1, 3, 1, 3}, []int{3, 1, 3, 1}, "?.?./#?#?/?.?./#?#?"}, {[]int{2, 4, 2, 2, 4}, []int{5, 5, 1, 1, 2}, "##.../##??#/##.../##.../##??#"},
	{[]int{0}, []int{0}, "."}, {[]int{1}, []int{1}, "#"}, {[]int{3}, []int{1, 0, 1, 1, 0}, "#.##."}, {[]int{1, 0, 1, 1, 0}, []int{3}, "#/./#/#/."},
	{[]int{0, 0}, []int{0, 0, 0}, ".../..."}, {[]int{3, 3}, []int{2, 2, 2}, "###/###"}, {[]int{5, 5, 5, 5, 5}, []int{5, 5, 5, 5, 5}, "#####/#####/#####/#####/#####"}, {[]int{0, 0, 0, 0, 0}, []int{0, 0, 0, 0, 0}, "...../...../...../...../....."},
}

func TestP9CanPlace(t *testing.T) {
	for _, c := range agreements {
		for y, row := range strings.Split(c.cells, "/") {
			for x, sign := range row {
				if got := impl.CanPlace(c.rows, c.cols, y, x, 1); got != (sign != '.') {
					t.Errorf("CanPlace(%v, %v, %d, %d, 1) = %t, cells %s", c.rows, c.cols, y, x, got, c.cells)
				}
				if got := impl.CanPlace(c.rows, c.cols, y, x, 0); got != (sign != '#') {
					t.Errorf("CanPlace(%v, %v, %d, %d, 0) = %t, cells %s", c.rows, c.cols, y, x, got, c.cells)
				}
			}
		}
	}
}

func TestP9CanPlaceAgreesWithAllImages(t *testing.T) {
	t.Parallel()
	eachFamily(func(f *family) {
		for y := -1; y <= len(f.rows); y++ {
			for x := -1; x <= len(f.cols); x++ {
				canBlack, canWhite := false, false
				if y >= 0 && y < len(f.rows) && x >= 0 && x < len(f.cols) {
					canBlack, canWhite = f.blackIn[y][x] > 0, f.blackIn[y][x] < f.count
				}
				for cell, want := range map[int]bool{-1: false, 0: canWhite, 1: canBlack, 2: false} {
					if got := impl.CanPlace(f.rows, f.cols, y, x, cell); got != want {
						t.Fatalf("CanPlace(%v, %v, %d, %d, %d) = %t", f.rows, f.cols, y, x, cell, got)
					}
				}
			}
		}
	})
}

// canPlaceByRows tries all rows for the row y; rest has the column sums of all images of the other rows.
func canPlaceByRows(rest tail, rows, cols []int, y, x, cell int) bool {
	for n := range 1 << len(cols) {
		row := ordered(1, len(cols), n)[0]
		if row[x] == cell && total(row) == rows[y] && rest[without(colSumsOf(cols), row)] {
			return true
		}
	}
	return false
}

func TestP9CanPlaceInGreaterImages(t *testing.T) {
	for nCols := 4; nCols <= impl.MaxSide; nCols++ {
		for i, rows := range listsOf(impl.MaxSide, 0, nCols) {
			// A step that shares no factor with 5 and 6 goes through all kinds of lists.
			if i%29 != 0 {
				continue
			}
			_, cols := rowsAndCols(builtByHand(rows, []int{1, 4, 2, 5, 3}[:nCols]))
			for _, sums := range [][2][]int{{rows, cols}, {cols, rows}, {rows, sortedByHand(cols)}, {sortedByHand(cols), rows}} {
				checkPlaces(t, sums[0], sums[1])
			}
		}
	}
}

// checkPlaces expects sums of an image.
func checkPlaces(t *testing.T, rows, cols []int) {
	t.Helper()
	for y := range rows {
		rest := tail(colSumsFor(slices.Delete(slices.Clone(rows), y, y+1), len(cols)))
		for x := range cols {
			for cell := range 2 {
				want := canPlaceByRows(rest, rows, cols, y, x, cell)
				if got := impl.CanPlace(rows, cols, y, x, cell); got != want {
					t.Fatalf("CanPlace(%v, %v, %d, %d, %d) = %t", rows, cols, y, x, cell, got)
				}
			}
		}
	}
}

func TestP9CanPlaceWithoutAnImage(t *testing.T) {
	t.Parallel()
	eachSums(func(rows, cols []int, exists bool) {
		if exists {
			return
		}
		for _, place := range [][2]int{{0, 0}, {0, len(cols) - 1}, {len(rows) - 1, 0}, {len(rows) - 1, len(cols) - 1}, {len(rows) / 2, len(cols) / 2}} {
			for cell := range 2 {
				if impl.CanPlace(rows, cols, place[0], place[1], cell) {
					t.Fatalf("CanPlace(%v, %v, %d, %d, %d) is true without an image", rows, cols, place[0], place[1], cell)
				}
			}
		}
	})
}

func TestP9CanPlaceFarNumbers(t *testing.T) {
	for _, m := range [][][]int{{{0}}, {{1}}, numbered(2, 3, 0x2b), numbered(5, 5, 0), numbered(5, 5, 1<<25-1), numbered(5, 5, 0x1234567)} {
		rows, cols := rowsAndCols(m)
		for _, far := range append([]int{2, 3, 256, 257}, farInts...) {
			if impl.CanPlace(rows, cols, 0, 0, far) || impl.CanPlace(rows, cols, len(rows)-1, len(cols)-1, far) {
				t.Errorf("CanPlace(%v, %v) is true for the cell %d", rows, cols, far)
			}
		}
		for _, far := range append([]int{max(len(rows), len(cols))}, farInts...) {
			for cell := range 2 {
				if impl.CanPlace(rows, cols, far, 0, cell) || impl.CanPlace(rows, cols, 0, far, cell) || impl.CanPlace(rows, cols, far, far, cell) {
					t.Errorf("CanPlace(%v, %v) is true for a cell with a coordinate %d", rows, cols, far)
				}
			}
		}
	}
}

func TestP9ConstructionOfInvalidSums(t *testing.T) {
	for label, c := range invalidSums() {
		if got, ok := impl.BuildImage(c[0], c[1]); len(got) != 0 || ok {
			t.Errorf("BuildImage = %v, %t: %s", got, ok, label)
		}
		if got, ok := impl.LeastImage(c[0], c[1]); len(got) != 0 || ok {
			t.Errorf("LeastImage = %v, %t: %s", got, ok, label)
		}
		for y := -1; y <= impl.MaxSide; y++ {
			for x := -1; x <= impl.MaxSide; x++ {
				for cell := -1; cell <= 2; cell++ {
					if impl.CanPlace(c[0], c[1], y, x, cell) {
						t.Errorf("CanPlace of (%d, %d) with the cell %d is true: %s", y, x, cell, label)
					}
				}
			}
		}
	}
}

func TestP9IsStaircase(t *testing.T) {
	for _, c := range []struct {
		text string
		want bool
	}{
		{"##./#..", true}, {"#../##.", true}, {"#", true}, {".", true}, {".#", false}, {"#.", true}, {"./#/./#/#", true}, {"#.#", false}, {"###", true}, {"...", true},
		{".../...", true}, {"###/...", true}, {".../###", true}, {"##./.#.", false}, {"..#/###", false}, {"###/.##/###", false}, {"#../.../##.", true},
		{"#####/####./###../##.../#....", true}, {"#..../##.../###../####./#####", true}, {"#####/####./###../##.../#...#", false}, {".####/#####/#####/#####/#####", false},
		{"...../...../...../...../.....", true}, {"#####/#####/#####/#####/#####", true}, {"...../...../...../...../....#", false}, {"...../...../...../...../#....", true}, {"#####/#####/#####/#####/####.", true},
	} {
		m, ok := impl.ParseImage(c.text)
		if got := impl.IsStaircase(m); !ok || got != c.want {
			t.Errorf("IsStaircase(%s) = %t", c.text, got)
		}
	}
}

// beginsBlack is IsStaircase by the text of an image.
func beginsBlack(m [][]int) bool { return !strings.Contains(impl.FormatImage(m), ".#") }

func TestP9IsStaircaseOfManyImages(t *testing.T) {
	for _, m := range manyImages() {
		if got := impl.IsStaircase(m); got != beginsBlack(m) {
			t.Errorf("IsStaircase(%v) = %t", m, got)
		}
	}
	for label, m := range invalidImages() {
		if impl.IsStaircase(m) {
			t.Errorf("IsStaircase is true: %s", label)
		}
	}
	for y := range impl.MaxSide {
		for x := range impl.MaxSide {
			for _, cell := range append([]int{2}, farInts...) {
				m := numbered(impl.MaxSide, impl.MaxSide, 0)
				m[y][x] = cell
				if impl.IsStaircase(m) {
					t.Errorf("IsStaircase is true with the cell %d at (%d, %d)", cell, y, x)
				}
			}
		}
	}
}

func TestP2StaircasesAreDeterminedByTheirSums(t *testing.T) {
	eachFamily(func(f *family) {
		// With column sums in descending order, the staircases are the images that no other one has the sums of.
		descend := slices.Equal(f.cols, sortedByHand(f.cols))
		if got := impl.IsStaircase(f.least); got != (descend && f.count == 1) {
			t.Fatalf("IsStaircase(%v) = %t, and %d images have its sums", f.least, got, f.count)
		}
	})
}

func TestP9StaircaseOf(t *testing.T) {
	for _, c := range []struct {
		rows []int
		cols int
		want string
	}{
		{[]int{1, 3}, 3, "#../###"}, {[]int{3, 1}, 3, "###/#.."}, {[]int{0}, 1, "."}, {[]int{1}, 1, "#"}, {[]int{2}, 5, "##..."}, {[]int{1, 0, 1}, 1, "#/./#"},
		// Row sums 0 and cols.
		{[]int{0, 0}, 2, "../.."}, {[]int{2, 2}, 2, "##/##"}, {[]int{0, 4, 0}, 4, "..../####/...."}, {[]int{0, 1, 2, 3, 5}, 5, "...../#..../##.../###../#####"},
		{[]int{5, 5, 5, 5, 5}, 5, "#####/#####/#####/#####/#####"}, {[]int{0, 0, 0, 0, 0}, 5, "...../...../...../...../....."},
		{nil, 3, ""}, {[]int{}, 5, ""}, {nil, 0, ""}, {[]int{4}, 3, ""}, {[]int{-1}, 3, ""}, {[]int{3, -1}, 3, ""}, {[]int{-1, 3}, 3, ""}, {[]int{6, 5, 5, 5, 5}, 5, ""}, {[]int{2}, 1, ""},
		{[]int{0}, 0, ""}, {[]int{0}, -1, ""}, {[]int{-1}, -1, ""}, {[]int{0}, 6, ""}, {[]int{6}, 6, ""}, {[]int{0, 0, 0, 0, 0, 0}, 5, ""}, {[]int{1, 1, 1, 1, 1, 1}, 1, ""}, {make([]int, 1000), 2, ""},
	} {
		if got := impl.StaircaseOf(c.rows, c.cols); impl.FormatImage(got) != c.want || c.want == "" && len(got) != 0 {
			t.Errorf("StaircaseOf(%v, %d) = %v, want %s", c.rows, c.cols, got, c.want)
		}
	}
}

func TestP9StaircaseOfAllLists(t *testing.T) {
	for cols := 1; cols <= impl.MaxSide; cols++ {
		for size := range impl.MaxSide + 1 {
			for _, rows := range listsOf(size, -1, cols+1) {
				var want [][]int
				if size > 0 && slices.Min(rows) >= 0 && slices.Max(rows) <= cols {
					want = numbered(size, cols, 0)
					for y, sum := range rows {
						for x := range want[y] {
							if x < sum {
								want[y][x] = 1
							}
						}
					}
				}
				got := impl.StaircaseOf(rows, cols)
				if !same(got, want) || impl.IsStaircase(got) != (want != nil) {
					t.Fatalf("StaircaseOf(%v, %d) = %v, want %v", rows, cols, got, want)
				}
			}
		}
	}
}

func TestP9StaircaseOfFarNumbers(t *testing.T) {
	for _, far := range farInts {
		for _, rows := range [][]int{nil, {}, {0}, {1, 1}, {far}, {far, far}, {0, 0, 0, 0, 0}} {
			if got := impl.StaircaseOf(rows, far); len(got) != 0 {
				t.Errorf("StaircaseOf(%v, %d) = %v", rows, far, got)
			}
		}
		for cols := 1; cols <= impl.MaxSide; cols++ {
			for _, rows := range [][]int{{far}, {far, 0}, {0, far}, {1, 0, far, 1, 1}, {1, 1, 1, 1, far}} {
				if got := impl.StaircaseOf(rows, cols); len(got) != 0 {
					t.Errorf("StaircaseOf(%v, %d) = %v", rows, cols, got)
				}
			}
		}
	}
}

func TestP2BuiltStaircasesAreTheOnlyImages(t *testing.T) {
	for cols := 1; cols <= impl.MaxSide; cols++ {
		for size := 1; size <= impl.MaxSide; size++ {
			for _, rows := range listsOf(size, 0, cols) {
				stairs := impl.StaircaseOf(rows, cols)
				conjugate := impl.ConjugateOf(rows, cols)
				if !sameSumsAs(stairs, rows, conjugate) {
					t.Fatalf("StaircaseOf(%v, %d) = %v, but ConjugateOf is %v", rows, cols, stairs, conjugate)
				}
				built, _ := impl.BuildImage(rows, conjugate)
				least, _ := impl.LeastImage(rows, conjugate)
				if !same(built, stairs) || !same(least, stairs) {
					t.Fatalf("the sums of the staircase %v: BuildImage %v, LeastImage %v", stairs, built, least)
				}
			}
		}
	}
}

// builders are the functions of this chapter that return an image, each for the same row sums.
func builders(cols []int) map[string]func(rows []int) [][]int {
	return map[string]func(rows []int) [][]int{
		"BuildImage": func(rows []int) [][]int {
			m, _ := impl.BuildImage(rows, cols)
			return m
		},
		"LeastImage": func(rows []int) [][]int {
			m, _ := impl.LeastImage(rows, cols)
			return m
		},
		"StaircaseOf": func(rows []int) [][]int { return impl.StaircaseOf(rows, len(cols)) },
	}
}

func TestP9ConstructionArgumentsStay(t *testing.T) {
	for _, c := range [][2][]int{
		{{1, 2}, {1, 1, 1}}, {{1, 2}, {2, 1, 0}}, {{0}, {0}}, {{2, 2, 2, 2, 2}, {2, 2, 2, 2, 2}}, {{5, 1, 1, 1, 0}, {1, 1, 2, 2, 2}}, {{1, 3, 2}, {1, 2, 3}}, {{1, 0, 1, 1, 0}, {3}}, {{3}, {1, 0, 1, 1, 0}},
		{{3, 0}, {2, 1, 0}}, {{2, 2}, {1, 3}}, {{-1, 7}, {3, -2}}, {{}, {}}, {{1, 1, 1, 1, 1, 1}, {3, 3}}, {{math.MinInt, 0, math.MaxInt}, {math.MaxInt, math.MinInt}},
	} {
		rows, wholeRows := withRoom(c[0])
		cols, wholeCols := withRoom(c[1])
		rowsBefore, colsBefore := slices.Clone(wholeRows), slices.Clone(wholeCols)
		for _, build := range builders(cols) {
			build(rows)
		}
		for y := range impl.MaxSide {
			for x := range impl.MaxSide {
				impl.CanPlace(rows, cols, y, x, 0)
				impl.CanPlace(rows, cols, y, x, 1)
			}
		}
		if !slices.Equal(wholeRows, rowsBefore) || !slices.Equal(wholeCols, colsBefore) {
			t.Errorf("the arguments %v and %v or the room behind them have become %v and %v", c[0], c[1], wholeRows, wholeCols)
		}
	}
	for _, m := range [][][]int{{{1}}, {{0, 1, 1}}, {{1, 1, 0}, {1, 0, 0}}, numbered(5, 5, 0x1234567), numbered(6, 6, 5), {{1, 2}, {0, 1}}, {{1}, {0, 1}}} {
		a, whole := roomy(m)
		before := copied(memory(whole))
		impl.IsStaircase(a)
		if !same(memory(whole), before) {
			t.Errorf("the argument %v or the room behind it has become %v", m, memory(whole))
		}
	}
}

func TestP9ConstructionResultsAreNew(t *testing.T) {
	for _, c := range [][2][]int{
		{{1, 2}, {1, 1, 1}}, {{2, 1}, {1, 1, 1}}, {{0}, {0}}, {{1}, {1}}, {{3}, {1, 0, 1, 1, 0}}, {{1, 0, 1, 1, 0}, {3}}, {{1, 3, 2}, {1, 2, 3}},
		{{2, 2, 2, 2, 2}, {2, 2, 2, 2, 2}}, {{5, 1, 1, 1, 0}, {1, 1, 2, 2, 2}}, {{0, 0, 0, 0, 0}, {0, 0, 0, 0, 0}}, {{5, 5, 5, 5, 5}, {5, 5, 5, 5, 5}},
	} {
		rows, wholeRows := withRoom(c[0])
		cols, wholeCols := withRoom(c[1])
		rowsBefore, colsBefore := slices.Clone(wholeRows), slices.Clone(wholeCols)
		for label, build := range builders(cols) {
			first := build(rows)
			want := copied(first)
			if len(first) != len(rows) {
				t.Errorf("%s(%v, %v) = %v", label, rows, cols, first)
				continue
			}
			checkRowsApart(t, label, first)
			if !slices.Equal(wholeRows, rowsBefore) || !slices.Equal(wholeCols, colsBefore) {
				t.Errorf("%s returns memory of its arguments %v and %v", label, c[0], c[1])
			}
			if second := build(rows); !same(second, want) {
				t.Errorf("%s(%v, %v) = %v after its first result was overwritten, want %v", label, rows, cols, second, want)
			}
		}
	}
}

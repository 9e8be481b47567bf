package tests

import (
	"math"
	"slices"
	"testing"

	"loop.example/g00860/impl"
)

// validDirections are all of them, written out.
var validDirections = []impl.Direction{
	{DX: 0, DY: 1},
	{DX: 1, DY: -3}, {DX: 1, DY: -2}, {DX: 1, DY: -1}, {DX: 1, DY: 0}, {DX: 1, DY: 1}, {DX: 1, DY: 2}, {DX: 1, DY: 3},
	{DX: 2, DY: -3}, {DX: 2, DY: -1}, {DX: 2, DY: 1}, {DX: 2, DY: 3},
	{DX: 3, DY: -2}, {DX: 3, DY: -1}, {DX: 3, DY: 1}, {DX: 3, DY: 2},
}

// invalidDirections returns directions near the valid ones, and some with far numbers.
func invalidDirections() []impl.Direction {
	var bad []impl.Direction
	for dx := -7; dx <= 7; dx++ {
		for dy := -7; dy <= 7; dy++ {
			if d := (impl.Direction{DX: dx, DY: dy}); !slices.Contains(validDirections, d) {
				bad = append(bad, d)
			}
		}
	}
	for _, n := range farInts {
		if n > -4 && n < 0 {
			continue
		}
		for k := -3; k <= 3; k++ {
			bad = append(bad, impl.Direction{DX: n, DY: k}, impl.Direction{DX: k, DY: n})
		}
		bad = append(bad, impl.Direction{DX: n, DY: n}, impl.Direction{DX: n, DY: -n})
	}
	return bad
}

// numberOf numbers the line of a cell by looking at all cells of the image.
func numberOf(rows, cols int, d impl.Direction, y, x int) int {
	least := math.MaxInt
	for v := range rows {
		for u := range cols {
			least = min(least, d.DX*v-d.DY*u)
		}
	}
	return d.DX*y - d.DY*x - least
}

// linesOf counts the lines by looking at all cells of the image.
func linesOf(rows, cols int, d impl.Direction) int {
	count := 0
	for y := range rows {
		for x := range cols {
			count = max(count, numberOf(rows, cols, d, y, x)+1)
		}
	}
	return count
}

// sumsOn adds up the black cells of each line by looking at all cells.
func sumsOn(m [][]int, d impl.Direction) []int {
	sums := make([]int, linesOf(len(m), len(m[0]), d))
	for y, row := range m {
		for x, cell := range row {
			sums[numberOf(len(m), len(row), d, y, x)] += cell
		}
	}
	return sums
}

// rowsAndCols adds up the black cells of each row and each column.
func rowsAndCols(m [][]int) ([]int, []int) {
	rows, cols := make([]int, len(m)), make([]int, len(m[0]))
	for y, row := range m {
		for x, cell := range row {
			rows[y] += cell
			cols[x] += cell
		}
	}
	return rows, cols
}

func total(list []int) int {
	n := 0
	for _, k := range list {
		n += k
	}
	return n
}

func TestP9DirectionOk(t *testing.T) {
	for _, d := range validDirections {
		if !impl.DirectionOk(d) {
			t.Errorf("DirectionOk(%v) is false", d)
		}
	}
	for _, d := range invalidDirections() {
		if impl.DirectionOk(d) {
			t.Errorf("DirectionOk(%v) is true", d)
		}
	}
}

func TestP9LineNumbers(t *testing.T) {
	for _, c := range []struct {
		d    impl.Direction
		want [][]int
	}{
		{impl.Direction{DX: 1, DY: 0}, [][]int{{0, 0, 0}, {1, 1, 1}}},
		{impl.Direction{DX: 0, DY: 1}, [][]int{{2, 1, 0}, {2, 1, 0}}},
		{impl.Direction{DX: 1, DY: 1}, [][]int{{2, 1, 0}, {3, 2, 1}}},
		{impl.Direction{DX: 1, DY: -1}, [][]int{{0, 1, 2}, {1, 2, 3}}},
		{impl.Direction{DX: 2, DY: 1}, [][]int{{2, 1, 0}, {4, 3, 2}}},
		{impl.Direction{DX: 1, DY: 3}, [][]int{{6, 3, 0}, {7, 4, 1}}},
		{impl.Direction{DX: 3, DY: -2}, [][]int{{0, 2, 4}, {3, 5, 7}}},
		{impl.Direction{DX: 3, DY: 2}, [][]int{{4, 2, 0}, {7, 5, 3}}},
		{impl.Direction{DX: 1, DY: -3}, [][]int{{0, 3, 6}, {1, 4, 7}}},
		{impl.Direction{DX: 3, DY: 1}, [][]int{{0}, {3}, {6}, {9}, {12}}},
		{impl.Direction{DX: 0, DY: 1}, [][]int{{0}, {0}, {0}}},
		{impl.Direction{DX: 2, DY: 3}, [][]int{{12, 9, 6, 3, 0}}},
		{impl.Direction{DX: 2, DY: -3}, [][]int{{0, 3, 6, 9, 12}}},
		{impl.Direction{DX: 1, DY: 0}, [][]int{{0, 0, 0, 0, 0}}},
		{impl.Direction{DX: 1, DY: 1}, [][]int{{0}}},
	} {
		for y, row := range c.want {
			for x, want := range row {
				if got := impl.LineOf(len(c.want), len(row), c.d, y, x); got != want {
					t.Errorf("LineOf(%d, %d, %v, %d, %d) = %d, want %d", len(c.want), len(row), c.d, y, x, got, want)
				}
			}
		}
	}
}

func TestP9LineOf(t *testing.T) {
	for rows := 1; rows <= impl.MaxSide; rows++ {
		for cols := 1; cols <= impl.MaxSide; cols++ {
			for _, d := range validDirections {
				for y := -2; y <= impl.MaxSide+1; y++ {
					for x := -2; x <= impl.MaxSide+1; x++ {
						want := -1
						if y >= 0 && y < rows && x >= 0 && x < cols {
							want = numberOf(rows, cols, d, y, x)
						}
						if got := impl.LineOf(rows, cols, d, y, x); got != want {
							t.Fatalf("LineOf(%d, %d, %v, %d, %d) = %d, want %d", rows, cols, d, y, x, got, want)
						}
					}
				}
			}
		}
	}
}

func TestP9LineOfCellsFarAway(t *testing.T) {
	for _, d := range validDirections {
		for _, n := range farInts {
			for _, place := range [][]int{{n, 0}, {0, n}, {n, n}, {n, 4}, {4, n}} {
				if got := impl.LineOf(5, 5, d, place[0], place[1]); got != -1 {
					t.Errorf("LineOf(5, 5, %v, %d, %d) = %d", d, place[0], place[1], got)
				}
			}
		}
	}
}

func TestP9LineOfNextToCorners(t *testing.T) {
	const rows, cols = 3, 4
	for _, d := range validDirections {
		for _, y := range []int{0, rows - 1} {
			for _, x := range []int{0, cols - 1} {
				if got := impl.LineOf(rows, cols, d, y, x); got < 0 {
					t.Errorf("LineOf(%d, %d, %v, %d, %d) = %d", rows, cols, d, y, x, got)
				}
			}
		}
		for _, place := range [][]int{{-1, -1}, {-1, 0}, {0, -1}, {-1, cols - 1}, {-1, cols}, {0, cols}, {rows, 0}, {rows, -1}, {rows - 1, -1}, {rows, cols}, {rows - 1, cols}, {rows, cols - 1}} {
			if got := impl.LineOf(rows, cols, d, place[0], place[1]); got != -1 {
				t.Errorf("LineOf(%d, %d, %v, %d, %d) = %d", rows, cols, d, place[0], place[1], got)
			}
		}
	}
}

func TestP9CountLines(t *testing.T) {
	for _, c := range []struct{ rows, cols, dx, dy, want int }{
		{1, 1, 1, 0, 1}, {1, 1, 3, -2, 1}, {5, 1, 1, 0, 5}, {5, 1, 0, 1, 1}, {1, 5, 1, 0, 1}, {1, 5, 0, 1, 5},
		{2, 3, 1, 1, 4}, {2, 3, 1, -1, 4}, {5, 5, 3, 2, 21}, {5, 5, 3, -2, 21}, {5, 5, 2, -3, 21}, {5, 5, 1, 3, 17}, {5, 5, 1, -3, 17}, {5, 5, 3, 1, 17}, {4, 5, 3, 2, 18}, {5, 4, 3, 2, 19},
	} {
		if got := impl.CountLines(c.rows, c.cols, impl.Direction{DX: c.dx, DY: c.dy}); got != c.want {
			t.Errorf("CountLines(%d, %d, {%d, %d}) = %d, want %d", c.rows, c.cols, c.dx, c.dy, got, c.want)
		}
	}
	for rows := 1; rows <= impl.MaxSide; rows++ {
		for cols := 1; cols <= impl.MaxSide; cols++ {
			for _, d := range validDirections {
				if got, want := impl.CountLines(rows, cols, d), linesOf(rows, cols, d); got != want {
					t.Errorf("CountLines(%d, %d, %v) = %d, want %d", rows, cols, d, got, want)
				}
			}
		}
	}
}

func TestP9LinesOfInvalidSizes(t *testing.T) {
	for _, n := range append([]int{0}, farInts...) {
		for _, size := range [][]int{{n, 1}, {1, n}, {n, impl.MaxSide}, {impl.MaxSide, n}, {n, n}} {
			for _, d := range append([]impl.Direction{{}, {DX: 2, DY: 2}}, validDirections...) {
				if got := impl.LineOf(size[0], size[1], d, 0, 0); got != -1 {
					t.Errorf("LineOf(%d, %d, %v, 0, 0) = %d", size[0], size[1], d, got)
				}
				if got := impl.CountLines(size[0], size[1], d); got != -1 {
					t.Errorf("CountLines(%d, %d, %v) = %d", size[0], size[1], d, got)
				}
			}
		}
	}
}

func TestP9LinesOfInvalidDirections(t *testing.T) {
	for _, d := range invalidDirections() {
		for _, m := range [][][]int{{{1}}, numbered(2, 3, 0x2b), numbered(5, 5, 1<<25-1)} {
			if got := impl.LineOf(len(m), len(m[0]), d, 0, 0); got != -1 {
				t.Errorf("LineOf(%d, %d, %v, 0, 0) = %d", len(m), len(m[0]), d, got)
			}
			if got := impl.CountLines(len(m), len(m[0]), d); got != -1 {
				t.Errorf("CountLines(%d, %d, %v) = %d", len(m), len(m[0]), d, got)
			}
			if got := impl.LineSums(m, d); len(got) != 0 {
				t.Errorf("LineSums(%v, %v) = %v", m, d, got)
			}
		}
	}
}

func TestP9RowAndColSums(t *testing.T) {
	for _, c := range []struct {
		m          [][]int
		rows, cols []int
	}{
		{[][]int{{0}}, []int{0}, []int{0}}, {[][]int{{1}}, []int{1}, []int{1}},
		{[][]int{{1, 0, 0}, {1, 1, 0}}, []int{1, 2}, []int{2, 1, 0}},
		{[][]int{{0, 1, 1, 1, 0}}, []int{3}, []int{0, 1, 1, 1, 0}}, {[][]int{{1}, {0}, {0}, {1}, {1}}, []int{1, 0, 0, 1, 1}, []int{3}},
		{numbered(5, 5, 0), []int{0, 0, 0, 0, 0}, []int{0, 0, 0, 0, 0}}, {numbered(5, 5, 1<<25-1), []int{5, 5, 5, 5, 5}, []int{5, 5, 5, 5, 5}},
	} {
		if rows, cols := impl.RowSums(c.m), impl.ColSums(c.m); !slices.Equal(rows, c.rows) || !slices.Equal(cols, c.cols) {
			t.Errorf("%v has the sums %v and %v, want %v and %v", c.m, rows, cols, c.rows, c.cols)
		}
	}
	for _, m := range manyImages() {
		rows, cols := rowsAndCols(m)
		if gotRows, gotCols := impl.RowSums(m), impl.ColSums(m); !slices.Equal(gotRows, rows) || !slices.Equal(gotCols, cols) {
			t.Errorf("%v has the sums %v and %v, want %v and %v", m, gotRows, gotCols, rows, cols)
		}
	}
}

func TestP9LineSums(t *testing.T) {
	for _, c := range []struct {
		m      [][]int
		dx, dy int
		want   []int
	}{
		{[][]int{{1}}, 3, -2, []int{1}}, {[][]int{{0}}, 3, -2, []int{0}},
		{[][]int{{1, 0, 0}, {1, 1, 0}}, 1, 1, []int{0, 0, 2, 1}}, {[][]int{{1, 0, 0}, {1, 1, 0}}, 1, -1, []int{1, 1, 1, 0}},
		{[][]int{{1, 0, 0}, {1, 1, 0}}, 0, 1, []int{0, 1, 2}}, {[][]int{{1, 0, 0}, {1, 1, 0}}, 1, 0, []int{1, 2}},
		{[][]int{{1, 1, 1}}, 1, 3, []int{1, 0, 0, 1, 0, 0, 1}}, {[][]int{{1}, {0}, {1}}, 3, 1, []int{1, 0, 0, 0, 0, 0, 1}},
		{[][]int{{1, 1}, {1, 1}}, 3, 2, []int{1, 0, 1, 1, 0, 1}}, {[][]int{{1, 0, 0}, {0, 0, 0}, {0, 0, 1}}, 2, -1, []int{1, 0, 0, 0, 0, 0, 1}},
		{[][]int{{0, 0, 1}, {0, 0, 0}, {1, 0, 0}}, 2, 1, []int{1, 0, 0, 0, 0, 0, 1}},
	} {
		if got := impl.LineSums(c.m, impl.Direction{DX: c.dx, DY: c.dy}); !slices.Equal(got, c.want) {
			t.Errorf("LineSums(%v, {%d, %d}) = %v, want %v", c.m, c.dx, c.dy, got, c.want)
		}
	}
	for _, m := range manyImages() {
		for _, d := range validDirections {
			if got, want := impl.LineSums(m, d), sumsOn(m, d); !slices.Equal(got, want) {
				t.Fatalf("LineSums(%v, %v) = %v, want %v", m, d, got, want)
			}
		}
	}
}

func TestP1SumsOfAllDirectionsAgree(t *testing.T) {
	for _, m := range manyImages() {
		want := impl.CountBlack(m)
		for _, d := range validDirections {
			sums := impl.LineSums(m, d)
			if total(sums) != want || len(sums) != impl.CountLines(len(m), len(m[0]), d) {
				t.Errorf("LineSums(%v, %v) = %v for %d black cells", m, d, sums, want)
			}
		}
		rows, cols := impl.RowSums(m), impl.ColSums(m)
		slices.Reverse(cols)
		if !slices.Equal(rows, impl.LineSums(m, impl.Direction{DX: 1})) || !slices.Equal(cols, impl.LineSums(m, impl.Direction{DY: 1})) {
			t.Errorf("the sums of the rows or columns of %v are not those of their lines", m)
		}
	}
}

func TestP1SumsOfOneCell(t *testing.T) {
	for rows := 1; rows <= impl.MaxSide; rows++ {
		for cols := 1; cols <= impl.MaxSide; cols++ {
			for _, d := range validDirections {
				for cell := range rows * cols {
					want := make([]int, impl.CountLines(rows, cols, d))
					want[impl.LineOf(rows, cols, d, cell/cols, cell%cols)] = 1
					if got := impl.LineSums(numbered(rows, cols, 1<<cell), d); !slices.Equal(got, want) {
						t.Errorf("LineSums of the cell %d of %d rows and %d columns for %v = %v, want %v", cell, rows, cols, d, got, want)
					}
				}
			}
		}
	}
}

func TestP9SumsOfInvalidImages(t *testing.T) {
	for label, m := range invalidImages() {
		if rows, cols := impl.RowSums(m), impl.ColSums(m); len(rows) != 0 || len(cols) != 0 {
			t.Errorf("the sums are %v and %v: %s", rows, cols, label)
		}
		for _, d := range append([]impl.Direction{{}}, validDirections...) {
			if got := impl.LineSums(m, d); len(got) != 0 {
				t.Errorf("LineSums for %v = %v: %s", d, got, label)
			}
		}
		for _, good := range [][][]int{{{0}}, {{1}}, numbered(2, 2, 6), numbered(5, 5, 0)} {
			if impl.SameSums(m, good) || impl.SameSums(good, m) || impl.SameSums(m, m) {
				t.Errorf("SameSums is true: %s", label)
			}
		}
	}
}

func TestP9SameSums(t *testing.T) {
	for _, c := range []struct {
		a, b [][]int
		want bool
	}{
		{[][]int{{1, 0}, {0, 1}}, [][]int{{0, 1}, {1, 0}}, true}, {[][]int{{0}}, [][]int{{0}}, true}, {[][]int{{0}}, [][]int{{1}}, false},
		{[][]int{{1, 0}}, [][]int{{0, 1}}, false}, {[][]int{{1}, {0}}, [][]int{{0}, {1}}, false},
		{[][]int{{1, 0}, {1, 0}}, [][]int{{1, 0}, {0, 1}}, false}, {[][]int{{1, 1}, {0, 0}}, [][]int{{1, 0}, {0, 1}}, false},
		{[][]int{{1, 1}, {1, 0}}, [][]int{{1, 1}, {0, 1}}, false}, {[][]int{{1, 1, 0}, {0, 1, 1}}, [][]int{{0, 1, 1}, {1, 1, 0}}, true},
		{[][]int{{0}}, [][]int{{0, 0}}, false}, {[][]int{{0}}, [][]int{{0}, {0}}, false}, {[][]int{{1}}, [][]int{{1, 0}}, false}, {[][]int{{1}}, [][]int{{1}, {0}}, false},
		{[][]int{{1, 0}}, [][]int{{1}, {0}}, false}, {numbered(2, 3, 0), numbered(3, 2, 0), false}, {numbered(5, 5, 0), numbered(5, 4, 0), false},
		{numbered(5, 5, 1<<24|1), numbered(5, 5, 1<<20|1<<4), true}, {numbered(5, 5, 1<<25-1), numbered(5, 5, 1<<25-1), true},
		{nil, nil, false}, {[][]int{}, [][]int{}, false}, {numbered(6, 5, 0), numbered(6, 5, 0), false}, {[][]int{{2}}, [][]int{{2}}, false},
	} {
		if got, back := impl.SameSums(c.a, c.b), impl.SameSums(c.b, c.a); got != c.want || back != c.want {
			t.Errorf("SameSums(%v, %v) = %t, and %t the other way", c.a, c.b, got, back)
		}
	}
}

func TestP9SameSumsOfAllPairs(t *testing.T) {
	for _, size := range [][]int{{1, 1}, {1, 3}, {3, 1}, {2, 2}, {2, 3}, {3, 2}, {2, 4}} {
		count := 1 << (size[0] * size[1])
		for i := range count {
			a := numbered(size[0], size[1], i)
			rows, cols := rowsAndCols(a)
			for j := range count {
				b := numbered(size[0], size[1], j)
				otherRows, otherCols := rowsAndCols(b)
				want := slices.Equal(rows, otherRows) && slices.Equal(cols, otherCols)
				if got := impl.SameSums(a, b); got != want {
					t.Fatalf("SameSums(%v, %v) = %t", a, b, got)
				}
			}
		}
	}
}

func TestP9SameSumsOfManySizes(t *testing.T) {
	all := manyImages()
	for i, a := range all {
		if !impl.SameSums(a, copied(a)) {
			t.Errorf("SameSums(%v, itself) is false", a)
		}
		rows, cols := rowsAndCols(a)
		for j := i % 23; j < len(all); j += 23 {
			otherRows, otherCols := rowsAndCols(all[j])
			want := slices.Equal(rows, otherRows) && slices.Equal(cols, otherCols)
			if got := impl.SameSums(a, all[j]); got != want {
				t.Errorf("SameSums(%v, %v) = %t", a, all[j], got)
			}
		}
	}
}

// listsOf returns all lists of n elements from least to most.
func listsOf(n, least, most int) [][]int {
	if n == 0 {
		return [][]int{{}}
	}
	var all [][]int
	for _, list := range listsOf(n-1, least, most) {
		for k := least; k <= most; k++ {
			all = append(all, append(slices.Clone(list), k))
		}
	}
	return all
}

func TestP9SumsOkOfSmallLists(t *testing.T) {
	for nRows := range 4 {
		for nCols := range 4 {
			for _, rows := range listsOf(nRows, -1, nCols+1) {
				for _, cols := range listsOf(nCols, -1, nRows+1) {
					want := nRows > 0 && nCols > 0 && total(rows) == total(cols) &&
						slices.Min(rows) >= 0 && slices.Max(rows) <= nCols && slices.Min(cols) >= 0 && slices.Max(cols) <= nRows
					if got := impl.SumsOk(rows, cols); got != want {
						t.Fatalf("SumsOk(%v, %v) = %t", rows, cols, got)
					}
				}
			}
		}
	}
}

func TestP9SumsOk(t *testing.T) {
	for _, c := range []struct {
		rows, cols []int
		want       bool
	}{
		{[]int{1, 2}, []int{2, 1, 0}, true}, {[]int{1, 2}, []int{2, 2, 0}, false}, {[]int{0}, []int{0}, true}, {[]int{1}, []int{1}, true}, {[]int{1}, []int{0}, false},
		{[]int{0, 0, 0, 0, 0}, []int{0, 0, 0, 0, 0}, true}, {[]int{5, 5, 5, 5, 5}, []int{5, 5, 5, 5, 5}, true}, {[]int{5, 5, 5, 5, 5}, []int{5, 5, 5, 5, 4}, false},
		{[]int{5}, []int{1, 1, 1, 1, 1}, true}, {[]int{1, 1, 1, 1, 1}, []int{5}, true}, {[]int{4}, []int{1, 1, 1}, false}, {[]int{1, 1, 1}, []int{4}, false},
		// There is no image with these sums, but they are valid.
		{[]int{2, 0}, []int{2, 0}, true}, {[]int{3, 3, 0}, []int{3, 3, 0}, true},
		{[]int{6, 0, 0, 0, 0}, []int{2, 1, 1, 1, 1}, false}, {[]int{2, 1, 1, 1, 1}, []int{6, 0, 0, 0, 0}, false}, {[]int{-1, 1}, []int{0, 0}, false}, {[]int{0, 0}, []int{1, -1}, false},
		{[]int{0, 0, 0, 0, 0, 0}, []int{0}, false}, {[]int{0}, []int{0, 0, 0, 0, 0, 0}, false}, {[]int{1, 1, 1, 1, 1, 0}, []int{5}, false}, {make([]int, 6), make([]int, 6), false}, {make([]int, 1000), make([]int, 1000), false},
		{nil, nil, false}, {[]int{}, []int{}, false}, {nil, []int{0}, false}, {[]int{0}, nil, false}, {[]int{}, []int{0, 0}, false}, {[]int{0, 0}, []int{}, false},
	} {
		if got := impl.SumsOk(c.rows, c.cols); got != c.want {
			t.Errorf("SumsOk(%v, %v) = %t", c.rows, c.cols, got)
		}
	}
}

func TestP9SumsOkFarNumbers(t *testing.T) {
	for _, n := range farInts {
		for _, c := range [][2][]int{
			{{n}, {n}}, {{n, 0}, {n, 0}}, {{0, n}, {0, n}}, {{n, -n}, {0, 0}}, {{0, 0}, {n, -n}}, {{n, n, n, n, n}, {n, n, n, n, n}}, {{n, n, 0}, {0, n, n}},
			// These add up to the same number only with wraparound.
			{{math.MinInt, math.MinInt}, {0, 0}}, {{0, 0}, {math.MinInt, math.MinInt}}, {{1 << 62, 1 << 62, 1 << 62, 1 << 62}, {0}}, {{math.MaxInt, math.MaxInt, 2}, {0, 0, 0}},
		} {
			if impl.SumsOk(c[0], c[1]) {
				t.Errorf("SumsOk(%v, %v) is true", c[0], c[1])
			}
		}
	}
}

func TestP1SumsOfImagesAreValid(t *testing.T) {
	for _, m := range manyImages() {
		rows, cols := impl.RowSums(m), impl.ColSums(m)
		if !impl.SumsOk(rows, cols) {
			t.Errorf("SumsOk(%v, %v) is false for %v", rows, cols, m)
		}
		for i := range rows {
			rows[i]++
			if impl.SumsOk(rows, cols) {
				t.Errorf("SumsOk(%v, %v) is true", rows, cols)
			}
			rows[i]--
		}
	}
}

// listers are the functions of this chapter that return a list, for an image.
func listers() map[string]func(m [][]int) []int {
	all := map[string]func(m [][]int) []int{"RowSums": impl.RowSums, "ColSums": impl.ColSums}
	for _, d := range validDirections {
		all["LineSums "+impl.FormatInt(d.DX)+","+impl.FormatInt(d.DY)] = func(m [][]int) []int { return impl.LineSums(m, d) }
	}
	return all
}

func TestP9SumsArgumentsStay(t *testing.T) {
	for _, m := range [][][]int{{{1}}, {{0, 1, 1}}, {{1}, {0}, {1}}, numbered(2, 3, 0x2b), numbered(5, 5, 0x1234567), numbered(6, 6, 5), {{1, 2}, {0, 1}}, {{1}, {0, 1}}} {
		a, whole := roomy(m)
		b, wholeB := roomy(m)
		before := copied(memory(whole))
		for _, sums := range listers() {
			sums(a)
		}
		impl.SameSums(a, b)
		if !same(memory(whole), before) || !same(memory(wholeB), before) {
			t.Errorf("the argument %v or the room behind it has become %v, %v", m, memory(whole), memory(wholeB))
		}
	}
	for _, c := range [][2][]int{{{1, 2}, {2, 1, 0}}, {{0}, {0}}, {{5, 4, 3, 2, 1}, {1, 2, 3, 4, 5}}, {{3, -1, 7}, {2, 2}}, {{}, {}}, {{1, 1, 1, 1, 1, 1}, {2, 2}}} {
		rows, cols := append(slices.Clone(c[0]), 7, 8, 9), append(slices.Clone(c[1]), 9, 8, 7)
		impl.SumsOk(rows[:len(c[0])], cols[:len(c[1])])
		if !slices.Equal(rows, append(slices.Clone(c[0]), 7, 8, 9)) || !slices.Equal(cols, append(slices.Clone(c[1]), 9, 8, 7)) {
			t.Errorf("the arguments %v and %v or the room behind them have become %v and %v", c[0], c[1], rows, cols)
		}
	}
}

func TestP9SumsResultsAreNew(t *testing.T) {
	for _, m := range [][][]int{{{0}}, {{1}}, {{0, 1, 1}}, {{1}, {0}, {1}}, numbered(2, 3, 0x2b), numbered(5, 5, 0x1234567)} {
		for label, sums := range listers() {
			a, whole := roomy(m)
			before := copied(memory(whole))
			first := sums(a)
			want := slices.Clone(first)
			first = first[:cap(first)]
			for i := range first {
				first[i] = 99
			}
			if !same(memory(whole), before) {
				t.Errorf("%s returns memory of its argument %v", label, m)
			}
			if second := sums(a); !slices.Equal(second, want) {
				t.Errorf("%s(%v) = %v after its first result was overwritten, want %v", label, m, second, want)
			}
		}
	}
}

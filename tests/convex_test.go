package tests

import (
	"math"
	"runtime"
	"slices"
	"sync"
	"testing"
	"testing/synctest"

	"loop.example/g00860/impl"
)

// gapIn reports whether a cell that is not black lies between two black ones, trying all three places.
func gapIn(line []int) bool {
	for c := range line {
		for b := range c {
			for a := range b {
				if line[a] == 1 && line[b] != 1 && line[c] == 1 {
					return true
				}
			}
		}
	}
	return false
}

// columnsOf returns the columns of an image as lists.
func columnsOf(m [][]int) [][]int {
	var cols [][]int
	for x := range m[0] {
		var col []int
		for _, row := range m {
			col = append(col, row[x])
		}
		cols = append(cols, col)
	}
	return cols
}

// classesIn counts the classes of black cells: each begins as a class of its own, and those of two cells with a common side become one.
func classesIn(m [][]int) int {
	class := map[[2]int]int{}
	for y, row := range m {
		for x, cell := range row {
			if cell == 1 {
				class[[2]int{y, x}] = 10*y + x
			}
		}
	}
	join := func(a, b [2]int) {
		first, black := class[a]
		second, other := class[b]
		for place, n := range class {
			if black && other && n == second {
				class[place] = first
			}
		}
	}
	for y := range m {
		for x := range m[y] {
			join([2]int{y, x}, [2]int{y + 1, x})
			join([2]int{y, x}, [2]int{y, x + 1})
		}
	}
	classes := map[int]bool{}
	for _, n := range class {
		classes[n] = true
	}
	return len(classes)
}

// A shape has what the chapter says of one image.
type shape struct {
	h, v   bool
	pieces int
}

func shapeOf(m [][]int) shape {
	return shape{!slices.ContainsFunc(m, gapIn), !slices.ContainsFunc(columnsOf(m), gapIn), classesIn(m)}
}

func (s shape) convex() bool { return s.h && s.v }

func (s shape) convexPolyomino() bool { return s.convex() && s.pieces == 1 }

// checkShape checks all functions that say something of the shape of m.
func checkShape(t *testing.T, label string, m [][]int, want shape) {
	t.Helper()
	if got := (shape{impl.IsHConvex(m), impl.IsVConvex(m), impl.CountPieces(m)}); got != want {
		t.Fatalf("IsHConvex, IsVConvex and CountPieces of %v are %v, want %v: %s", m, got, want, label)
	}
	if got := impl.IsConvex(m); got != want.convex() {
		t.Fatalf("IsConvex(%v) = %t: %s", m, got, label)
	}
	if got := impl.IsPolyomino(m); got != (want.pieces == 1) {
		t.Fatalf("IsPolyomino(%v) = %t, but it has %d pieces: %s", m, got, want.pieces, label)
	}
	intervals := !slices.ContainsFunc(m, func(row []int) bool {
		_, _, ok := impl.IntervalOf(row)
		return !ok
	})
	if intervals != want.h {
		t.Fatalf("IntervalOf is true for all rows of %v: %t, but IsHConvex is %t: %s", m, intervals, want.h, label)
	}
}

// checkTurnedShapes checks m as it is, mirrored in both ways, and transposed.
func checkTurnedShapes(t *testing.T, m [][]int) {
	t.Helper()
	s := shapeOf(m)
	upsideDown := slices.Clone(m)
	slices.Reverse(upsideDown)
	checkShape(t, "as it is", m, s)
	checkShape(t, "mirrored", impl.MirrorOf(m), s)
	checkShape(t, "upside down", upsideDown, s)
	checkShape(t, "transposed", impl.TransposeOf(m), shape{s.v, s.h, s.pieces})
}

// convexIn returns those of a group that are convex polyominoes.
func convexIn(group [][][]int) [][][]int {
	return slices.DeleteFunc(slices.Clone(group), func(m [][]int) bool { return !shapeOf(m).convexPolyomino() })
}

// inOrder returns the images in lexicographic order.
func inOrder(list [][][]int) [][][]int {
	return slices.SortedFunc(slices.Values(list), func(a, b [][]int) int {
		return slices.Compare(slices.Concat(a...), slices.Concat(b...))
	})
}

// checkConvexImages checks what is found for sums, of which want has all convex polyominoes.
func checkConvexImages(t *testing.T, rows, cols []int, want [][][]int) {
	t.Helper()
	got, ok := impl.ConvexImages(rows, cols)
	if !ok || !slices.EqualFunc(got, want, same) {
		t.Fatalf("ConvexImages(%v, %v) = %v, %t, want %v", rows, cols, got, ok, want)
	}
	first, some := impl.ConvexImage(rows, cols)
	if some != (len(want) > 0) || some && !same(first, want[0]) || !some && len(first) > 0 {
		t.Fatalf("ConvexImage(%v, %v) = %v, %t, want the first of %v", rows, cols, first, some, want)
	}
	for _, m := range want {
		if got := impl.UniqueConvex(m); got != (len(want) == 1) {
			t.Fatalf("UniqueConvex(%v) = %t, but the convex polyominoes with its sums are %v", m, got, want)
		}
	}
}

// checkExchanged checks that the images with exchanged sums are the transposed ones.
func checkExchanged(t *testing.T, rows, cols []int) {
	t.Helper()
	list, _ := impl.ConvexImages(rows, cols)
	var want [][][]int
	for _, m := range list {
		want = append(want, impl.TransposeOf(m))
	}
	if got, ok := impl.ConvexImages(cols, rows); !ok || !slices.EqualFunc(got, inOrder(want), same) {
		t.Fatalf("ConvexImages(%v, %v) = %v, %t, but those with exchanged sums are %v", cols, rows, got, ok, list)
	}
}

// runsOf returns all rows with one run of black cells.
func runsOf(cols int) [][]int {
	var runs [][]int
	for end := range cols + 1 {
		for start := range end {
			row := make([]int, cols)
			for x := start; x < end; x++ {
				row[x] = 1
			}
			runs = append(runs, row)
		}
	}
	return runs
}

func touches(above, below []int) bool {
	for x := range above {
		if above[x]*below[x] == 1 {
			return true
		}
	}
	return false
}

// chainsBelow returns all images of so many rows whose first one, and each one after it, is a run that touches the one above, until only white rows follow.
func chainsBelow(above []int, rows int) [][][]int {
	all := [][][]int{evenMask(rows, len(above), 0)}
	if rows == 0 {
		return all
	}
	for _, run := range runsOf(len(above)) {
		if touches(above, run) {
			for _, below := range chainsBelow(run, rows-1) {
				all = append(all, append([][]int{run}, below...))
			}
		}
	}
	return all
}

// convexOfSize returns all convex polyominoes of a size: chains of runs, in any rows, without a gap in a column.
func convexOfSize(nRows, nCols int) [][][]int {
	var all [][][]int
	for first := range nRows {
		for _, run := range runsOf(nCols) {
			for _, below := range chainsBelow(run, nRows-first-1) {
				m := slices.Concat(evenMask(first, nCols, 0), [][]int{run}, below)
				if !slices.ContainsFunc(columnsOf(m), gapIn) {
					all = append(all, m)
				}
			}
		}
	}
	return all
}

// convexBySums returns the same, those with the same sums together and in order.
func convexBySums(nRows, nCols int) [][][][]int {
	return groupedBySums(inOrder(convexOfSize(nRows, nCols)))
}

func TestP5ConvexImagesOfAllSumsOfSmallSizes(t *testing.T) {
	t.Parallel()
	eachGroup(1, 16, func(group [][][]int) {
		rows, cols := rowsAndCols(group[0])
		checkConvexImages(t, rows, cols, convexIn(group))
	})
}

func TestP5UniqueConvexOfAllImagesOfSmallSizes(t *testing.T) {
	t.Parallel()
	eachGroup(1, 16, func(group [][][]int) {
		convex := convexIn(group)
		for _, m := range group {
			want := len(convex) == 1 && same(m, convex[0])
			if got := impl.UniqueConvex(m); got != want {
				t.Fatalf("UniqueConvex(%v) = %t, but the convex polyominoes with its sums are %v", m, got, convex)
			}
		}
	})
}

func TestP5AllConvexPolyominoesOfEverySizeAreFound(t *testing.T) {
	t.Parallel()
	for nRows := 1; nRows <= impl.MaxSide; nRows++ {
		for nCols := 1; nCols <= impl.MaxSide; nCols++ {
			for _, group := range convexBySums(nRows, nCols) {
				rows, cols := rowsAndCols(group[0])
				checkConvexImages(t, rows, cols, group)
			}
		}
	}
}

func TestP5ConvexImagesOfGreaterImages(t *testing.T) {
	t.Parallel()
	for _, group := range greaterGroups() {
		rows, cols := rowsAndCols(group[0])
		convex := convexIn(group)
		checkConvexImages(t, rows, cols, convex)
		for i := 0; i < len(group); i += 1 + len(group)/20 {
			if got := impl.UniqueConvex(group[i]); got && (len(convex) != 1 || !same(group[i], convex[0])) {
				t.Fatalf("UniqueConvex(%v) is true, but the convex polyominoes with its sums are %v", group[i], convex)
			}
		}
	}
}

func TestP5ConvexImagesAreThoseOfAllImages(t *testing.T) {
	t.Parallel()
	// The same as the program says it: the images with these sums for which IsConvex and IsPolyomino are true. The sums are those of convex polyominoes and of images near them.
	count := 0
	for i, m := range convexOfSize(impl.MaxSide, impl.MaxSide) {
		if i%150 != 0 {
			continue
		}
		for _, near := range [][][]int{m, spoilt(m, i), spoilt(spoilt(m, i+1), i+2)} {
			rows, cols := rowsAndCols(near)
			all, _ := impl.AllImages(rows, cols)
			want := slices.DeleteFunc(all, func(m [][]int) bool { return !impl.IsConvex(m) || !impl.IsPolyomino(m) })
			checkConvexImages(t, rows, cols, want)
			if len(want) == 0 {
				count++
			}
		}
	}
	if count == 0 {
		t.Error("all sums that were tried have convex polyominoes")
	}
}

func TestP5ExchangedSumsHaveTheTransposedImages(t *testing.T) {
	t.Parallel()
	eachGroup(1, 12, func(group [][][]int) {
		rows, cols := rowsAndCols(group[0])
		checkExchanged(t, rows, cols)
	})
	for _, size := range [][2]int{{3, 5}, {4, 4}, {4, 5}, {5, 5}} {
		for i, group := range convexBySums(size[0], size[1]) {
			if i%5 == 0 || len(group) > 2 {
				rows, cols := rowsAndCols(group[0])
				checkExchanged(t, rows, cols)
			}
		}
	}
}

func TestP9ShapesOfAllImagesOfSmallSizes(t *testing.T) {
	t.Parallel()
	eachGroup(1, 12, func(group [][][]int) {
		for _, m := range group {
			checkTurnedShapes(t, m)
		}
	})
}

func TestP9ShapesOfGreaterImages(t *testing.T) {
	t.Parallel()
	for _, m := range manyImages() {
		checkTurnedShapes(t, m)
	}
	for seed := range 4000 {
		checkTurnedShapes(t, ordered(5, 5, scattered(seed, 1<<25)))
		// More black cells make fewer and greater pieces, also with holes.
		checkTurnedShapes(t, ordered(5, 5, scattered(seed, 1<<25)|scattered(seed+1<<20, 1<<25)&scattered(seed+1<<21, 1<<25)))
	}
	for i, m := range convexOfSize(5, 5) {
		if i%10 == 0 {
			checkTurnedShapes(t, m)
			checkTurnedShapes(t, spoilt(m, i))
			checkTurnedShapes(t, impl.InvertOf(m))
		}
	}
}

func TestP9ConvexityAndPieces(t *testing.T) {
	for _, c := range []struct {
		text   string
		h, v   bool
		pieces int
	}{
		// No black cell.
		{".", true, true, 0}, {".../...", true, true, 0}, {".....", true, true, 0}, {"././././.", true, true, 0}, {"...../...../...../...../.....", true, true, 0},
		// All cells black.
		{"#", true, true, 1}, {"##/##", true, true, 1}, {"###/###", true, true, 1}, {"#####", true, true, 1}, {"#/#/#/#/#", true, true, 1}, {"#####/#####/#####/#####/#####", true, true, 1},
		// One black cell.
		{".#/..", true, true, 1}, {"...../...../..#../...../.....", true, true, 1}, {"#..../...../...../...../.....", true, true, 1}, {"...../...../...../...../....#", true, true, 1}, {"....#", true, true, 1}, {"./././#/.", true, true, 1},
		// 1 row or 1 column.
		{"##.", true, true, 1}, {".###.", true, true, 1}, {"..###", true, true, 1}, {"#.#", false, true, 2}, {"##.##", false, true, 2}, {"#...#", false, true, 2}, {"#.#.#", false, true, 3}, {".#.#.", false, true, 2}, {"./#/#/#/.", true, true, 1}, {"#/./#", true, false, 2}, {"#/./#/./#", true, false, 3}, {"./#/./#/#", true, false, 2},
		// All kinds of rows: without a black cell, with a run at the start, in the middle, at the end and over the whole row, and with a gap.
		{"...../##.../.##../..###/#####", true, false, 1}, {"...../##.../.##../..###/...##", true, true, 1}, {".##../##.../...../...##/#####", true, false, 2}, {"##.##/#####", false, true, 1}, {"#####/##.##", false, true, 1}, {"##.##/##.##", false, true, 2}, {".#.#./.###.", false, true, 1},
		// Pieces that touch at a corner only.
		{"#./.#", true, true, 2}, {".#/#.", true, true, 2}, {"#.#/.#.", false, true, 3}, {"#.#/.#./#.#", false, false, 5}, {"#..../.#.../..#../...#./....#", true, true, 5}, {"#.#.#/.#.#./#.#.#/.#.#./#.#.#", false, false, 13}, {".#.#./#.#.#/.#.#./#.#.#/.#.#.", false, false, 12}, {"##.../##.../..##./..##./....#", true, true, 3}, {"##./##./..#", true, true, 2},
		// Rings and pieces with a hole.
		{"###/#.#/###", false, false, 1}, {"####/#.##/####", false, false, 1}, {".#./#.#/.#.", false, false, 4}, {"#####/#...#/#...#/#...#/#####", false, false, 1}, {"#####/#...#/#.#.#/#...#/#####", false, false, 2}, {"#####/#.#.#/#####/#.#.#/#####", false, false, 1}, {"#####/#...#/#.###/#...#/#####", false, false, 1}, {"##.##/#...#/...../#...#/##.##", false, false, 4},
		// Convex in the rows, but not in the columns, and the other way round.
		{"###/#../###", true, false, 1}, {"##/#./##", true, false, 1}, {"##/../##", true, false, 2}, {"#####/....#/#####/#..../#####", true, false, 1}, {"###/#.#", false, true, 1}, {"#.#/#.#/###", false, true, 1}, {"#.#/###/#.#", false, true, 1}, {"#.###/#.#.#/#.#.#/#.#.#/###.#", false, true, 1},
		{"#####/....#/###.#/#...#/#####", false, false, 1},
		// Convex, with two pieces or more.
		{"#../.../..#", true, true, 2}, {"#../..#", true, true, 2}, {"##.../##.../..##./..##./.....", true, true, 2}, {"#..../...../...../...../....#", true, true, 2}, {"...##/...##/...../##.../##...", true, true, 2}, {"..#/.#./#..", true, true, 3},
		// Convex polyominoes.
		{".#./###/.#.", true, true, 1}, {"##./.##", true, true, 1}, {"..##/.##./##..", true, true, 1}, {"#../#../###", true, true, 1}, {"..#../.###./#####/.###./..#..", true, true, 1}, {"##.../.##../..##./...##/....#", true, true, 1}, {"...../..##./.##../...../.....", true, true, 1},
	} {
		checkShape(t, c.text, drawn(c.text), shape{c.h, c.v, c.pieces})
	}
}

func TestP9CountPiecesOfSeparateCells(t *testing.T) {
	// Black cells with white ones between them, each way round: as many pieces as cells.
	for n := range 1 << 9 {
		m := numbered(5, 5, 0)
		for i := range 9 {
			m[2*(i/3)][2*(i%3)] = n >> i & 1
		}
		if got := impl.CountPieces(m); got != total(slices.Concat(m...)) {
			t.Errorf("CountPieces(%v) = %d", m, got)
		}
	}
	// All cells of one color are left by one of the other one: it joins or divides nothing but itself.
	for i := range 25 {
		m := numbered(5, 5, 1<<i)
		if got, other := impl.CountPieces(m), impl.CountPieces(impl.InvertOf(m)); got != 1 || other != 1 {
			t.Errorf("CountPieces(%v) = %d, and inverted %d", m, got, other)
		}
	}
}

func TestP9IntervalOf(t *testing.T) {
	for _, c := range []struct {
		row          []int
		first, count int
		ok           bool
	}{
		// No element, and no black cell.
		{nil, 0, 0, true}, {[]int{}, 0, 0, true}, {[]int{0}, 0, 0, true}, {[]int{0, 0}, 0, 0, true}, {[]int{0, 0, 0, 0, 0}, 0, 0, true},
		// One run: the whole row, at the start, in the middle and at the end.
		{[]int{1}, 0, 1, true}, {[]int{1, 1}, 0, 2, true}, {[]int{1, 1, 1, 1, 1}, 0, 5, true}, {[]int{1, 0, 0, 0, 0}, 0, 1, true}, {[]int{1, 1, 1, 1, 0}, 0, 4, true}, {[]int{0, 1, 1, 0}, 1, 2, true}, {[]int{0, 0, 1, 0, 0}, 2, 1, true}, {[]int{0, 1, 1, 1, 0}, 1, 3, true}, {[]int{0, 0, 0, 0, 1}, 4, 1, true}, {[]int{0, 1, 1, 1, 1}, 1, 4, true},
		// A gap.
		{[]int{1, 0, 1}, 0, 0, false}, {[]int{1, 0, 0, 0, 1}, 0, 0, false}, {[]int{1, 1, 0, 1, 1}, 0, 0, false}, {[]int{0, 1, 0, 1, 0}, 0, 0, false}, {[]int{1, 0, 1, 0, 1}, 0, 0, false}, {[]int{0, 1, 0, 0, 1}, 0, 0, false}, {[]int{1, 0, 1, 1, 1}, 0, 0, false},
		// Other elements, also where they add up to a run.
		{[]int{2}, 0, 0, false}, {[]int{-1}, 0, 0, false}, {[]int{0, 2}, 0, 0, false}, {[]int{2, -1}, 0, 0, false}, {[]int{1, 2, 1}, 0, 0, false}, {[]int{0, 1, 1, 2}, 0, 0, false}, {[]int{-1, 1, 1, 0}, 0, 0, false}, {[]int{1, 1, -1, 1}, 0, 0, false}, {[]int{2, 0, 0, 0, 0}, 0, 0, false}, {[]int{1, -1}, 0, 0, false}, {[]int{-1, 1}, 0, 0, false},
		{[]int{math.MinInt}, 0, 0, false}, {[]int{math.MaxInt}, 0, 0, false}, {[]int{1, math.MaxInt, math.MinInt, 1}, 0, 0, false}, {[]int{1, math.MaxInt, math.MaxInt, 2}, 0, 0, false}, {[]int{math.MaxInt, 1, 1}, 0, 0, false}, {[]int{0, math.MinInt, math.MinInt}, 0, 0, false},
		// More than MaxSide elements.
		{[]int{0, 0, 0, 0, 0, 0}, 0, 0, true}, {[]int{1, 1, 1, 1, 1, 1}, 0, 6, true}, {[]int{0, 0, 0, 0, 0, 0, 1}, 6, 1, true}, {[]int{1, 0, 0, 0, 0, 0, 1}, 0, 0, false}, {[]int{0, 0, 0, 1, 1, 1, 1, 1, 1, 0}, 3, 6, true}, {[]int{0, 0, 0, 0, 0, 0, 2}, 0, 0, false},
	} {
		if first, count, ok := impl.IntervalOf(c.row); first != c.first || count != c.count || ok != c.ok {
			t.Errorf("IntervalOf(%v) = %d, %d, %t, want %d, %d, %t", c.row, first, count, ok, c.first, c.count, c.ok)
		}
	}
}

func TestP9IntervalOfAllShortLists(t *testing.T) {
	for n := range 8 {
		for _, row := range listsOf(n, -1, 2) {
			fine := !gapIn(row) && !slices.ContainsFunc(row, func(cell int) bool { return cell != 0 && cell != 1 })
			wantFirst, wantCount := 0, 0
			if fine && total(row) > 0 {
				wantFirst, wantCount = slices.Index(row, 1), total(row)
			}
			if first, count, ok := impl.IntervalOf(row); first != wantFirst || count != wantCount || ok != fine {
				t.Fatalf("IntervalOf(%v) = %d, %d, %t, want %d, %d, %t", row, first, count, ok, wantFirst, wantCount, fine)
			}
		}
	}
}

func TestP9IntervalOfLongLists(t *testing.T) {
	for _, n := range []int{6, 7, 64, 65, 1000} {
		for _, start := range []int{0, 1, n / 2, n - 2, n - 1} {
			for _, end := range []int{start + 1, (start + 1 + n) / 2, n - 1, n} {
				row := make([]int, n)
				for x := start; x < end; x++ {
					row[x] = 1
				}
				black := max(0, end-start)
				wantFirst := start
				if black == 0 {
					wantFirst = 0
				}
				if first, count, ok := impl.IntervalOf(row); first != wantFirst || count != black || !ok {
					t.Errorf("IntervalOf of %d black cells from %d among %d = %d, %d, %t", black, start, n, first, count, ok)
				}
				if black > 2 {
					row[start+1] = 0
					if first, count, ok := impl.IntervalOf(row); first != 0 || count != 0 || ok {
						t.Errorf("IntervalOf with a gap at %d = %d, %d, %t", start+1, first, count, ok)
					}
				}
			}
		}
	}
}

func TestP9IntervalOfInvalidRows(t *testing.T) {
	for _, row := range append(runsOf(5), []int{0, 0, 0, 0, 0}, []int{1}, []int{0}, []int{0, 1, 1, 1, 1, 1, 1, 0}) {
		for x := range row {
			for _, cell := range append([]int{2, 3, 256, 257}, farInts...) {
				other := slices.Clone(row)
				other[x] = cell
				if first, count, ok := impl.IntervalOf(other); first != 0 || count != 0 || ok {
					t.Errorf("IntervalOf(%v) = %d, %d, %t", other, first, count, ok)
				}
			}
		}
	}
}

// A polyominoes has sums and the texts of all convex polyominoes with them.
type polyominoes struct {
	rows, cols []int
	want       []string
}

// convexByHand are sums whose convex polyominoes are found by hand.
var convexByHand = []polyominoes{
	// One.
	{[]int{1, 2, 1}, []int{1, 3}, []string{".#/##/.#"}}, {[]int{1, 2}, []int{2, 1}, []string{"#./##"}}, {[]int{1, 3, 1}, []int{1, 3, 1}, []string{".#./###/.#."}}, {[]int{1, 1, 3}, []int{3, 1, 1}, []string{"#../#../###"}}, {[]int{2, 4, 4, 2}, []int{2, 4, 4, 2}, []string{".##./####/####/.##."}},
	{[]int{1, 3, 5, 3, 1}, []int{1, 3, 5, 3, 1}, []string{"..#../.###./#####/.###./..#.."}}, {[]int{0, 0, 1, 0, 0}, []int{0, 0, 1, 0, 0}, []string{"...../...../..#../...../....."}}, {[]int{5, 4, 3, 2, 1}, []int{5, 4, 3, 2, 1}, []string{"#####/####./###../##.../#...."}},
	// One, but several images.
	{[]int{2, 3}, []int{1, 1, 2, 1}, []string{"..##/###."}}, {[]int{2, 3}, []int{1, 2, 1, 1}, []string{"##../.###"}}, {[]int{2, 4}, []int{1, 2, 1, 1, 1}, []string{"##.../.####"}},
	// Several.
	{[]int{2, 2}, []int{1, 2, 1}, []string{".##/##.", "##./.##"}}, {[]int{2, 3, 1}, []int{2, 2, 2}, []string{".##/###/#..", "##./###/..#"}}, {[]int{0, 2, 2, 0, 0}, []int{0, 1, 2, 1, 0}, []string{"...../..##./.##../...../.....", "...../.##../..##./...../....."}}, {[]int{2, 3, 3, 3, 2}, []int{2, 3, 3, 3, 2}, []string{"...##/..###/.###./###../##...", "##.../###../.###./..###/...##"}},
	{[]int{3, 4, 5, 4, 3}, []int{3, 4, 5, 4, 3}, []string{"..###/.####/#####/####./###..", "###../####./#####/.####/..###"}}, {[]int{2, 3, 4, 3, 2}, []int{2, 3, 4, 3, 2}, []string{"...##/..###/####./###../.##..", "..##./..###/.####/###../##...", ".##../###../####./..###/...##", "##.../###../.####/..###/..##."}},
	// Images, but no convex polyomino: in two pieces, with a row or column between, or with a gap.
	{[]int{1, 1}, []int{1, 1}, nil}, {[]int{1, 1, 1}, []int{1, 1, 1}, nil}, {[]int{2, 0, 2}, []int{2, 2}, nil}, {[]int{2, 2}, []int{2, 0, 2}, nil}, {[]int{3, 2, 3}, []int{3, 2, 3}, nil}, {[]int{1, 2, 2, 1}, []int{1, 2, 2, 1}, nil}, {[]int{2, 2, 2}, []int{2, 2, 2}, nil}, {[]int{1, 0, 0, 0, 1}, []int{1, 0, 0, 0, 1}, nil}, {[]int{2, 2, 2, 2, 2}, []int{2, 2, 2, 2, 2}, nil}, {[]int{4, 4, 4, 4, 4}, []int{4, 4, 4, 4, 4}, nil},
	// No image.
	{[]int{3, 0}, []int{2, 1, 0}, nil}, {[]int{2, 0}, []int{0, 2}, nil}, {[]int{2, 0}, []int{2, 0}, nil}, {[]int{5, 5, 0, 0, 0}, []int{3, 3, 2, 1, 1}, nil}, {[]int{4, 4, 2, 2}, []int{4, 4, 4, 0}, nil},
	// 1 row or 1 column.
	{[]int{1}, []int{1}, []string{"#"}}, {[]int{3}, []int{0, 1, 1, 1, 0}, []string{".###."}}, {[]int{3}, []int{1, 0, 1, 1, 0}, nil}, {[]int{1, 1, 0, 0, 0}, []int{2}, []string{"#/#/././."}}, {[]int{1, 0, 0, 1, 0}, []int{2}, nil}, {[]int{5}, []int{1, 1, 1, 1, 1}, []string{"#####"}}, {[]int{1, 1, 1, 1, 1}, []int{5}, []string{"#/#/#/#/#"}},
	// Sums 0, full rows and columns.
	{[]int{0}, []int{0}, nil}, {[]int{0, 0}, []int{0, 0, 0}, nil}, {[]int{0}, []int{0, 0, 0, 0, 0}, nil}, {[]int{0, 0, 0, 0, 0}, []int{0}, nil}, {[]int{0, 0, 0, 0, 0}, []int{0, 0, 0, 0, 0}, nil},
	{[]int{3, 3}, []int{2, 2, 2}, []string{"###/###"}}, {[]int{5, 5, 5, 5, 5}, []int{5, 5, 5, 5, 5}, []string{"#####/#####/#####/#####/#####"}}, {[]int{0, 5, 5, 0, 0}, []int{2, 2, 2, 2, 2}, []string{"...../#####/#####/...../....."}}, {[]int{5, 0, 5, 0, 0}, []int{2, 2, 2, 2, 2}, nil}, {[]int{1, 5, 1, 1, 1}, []int{1, 1, 5, 1, 1}, []string{"..#../#####/..#../..#../..#.."}}, {[]int{0, 3, 1}, []int{1, 2, 1}, []string{".../###/.#."}},
}

func TestP9ConvexImages(t *testing.T) {
	for _, c := range convexByHand {
		var want [][][]int
		for _, text := range c.want {
			want = append(want, drawn(text))
		}
		checkConvexImages(t, c.rows, c.cols, want)
	}
}

func TestP9ConvexImagesOfSumsWithoutAnImage(t *testing.T) {
	t.Parallel()
	eachSums(func(rows, cols []int, exists bool) {
		if !exists {
			checkConvexImages(t, rows, cols, nil)
		}
	})
}

func TestP9UniqueConvex(t *testing.T) {
	for _, c := range []struct {
		text string
		want bool
	}{
		{"#", true}, {"##/#.", true}, {".#./###/.#.", true}, {"..##/###.", true}, {"..#../.###./#####/.###./..#..", true}, {"...../...../..#../...../.....", true}, {"#####/#####/#####/#####/#####", true}, {".###.", true}, {"./#/#/./.", true}, {"#####/####./###../##.../#....", true},
		// Another convex polyomino has the sums.
		{"##./.##", false}, {".##/##.", false}, {".##/###/##.", false}, {"...../..##./.##../...../.....", false}, {"##.../###../.####/..###/..##.", false}, {".##../###../####./..###/...##", false},
		// Not a convex polyomino, also where another image with the sums is the only one.
		{".", false}, {"...../...../...../...../.....", false}, {"#./.#", false}, {"#.#", false}, {"#/./#", false}, {"###/#.#", false}, {"##/#./##", false}, {"###/#.#/###", false}, {"#..../...../...../...../....#", false}, {".##./#.##", false}, {"..##/##.#", false}, {"##.../##.../..##./..##./.....", false},
	} {
		if got := impl.UniqueConvex(drawn(c.text)); got != c.want {
			t.Errorf("UniqueConvex(%s) = %t", c.text, got)
		}
	}
}

// checkNoConvex checks that there is no result for sums that SumsOk does not accept.
func checkNoConvex(t *testing.T, label string, rows, cols []int) {
	t.Helper()
	if got, ok := impl.ConvexImages(rows, cols); len(got) != 0 || ok {
		t.Errorf("ConvexImages(%v, %v) = %v, %t: %s", rows, cols, got, ok, label)
	}
	if got, ok := impl.ConvexImage(rows, cols); len(got) != 0 || ok {
		t.Errorf("ConvexImage(%v, %v) = %v, %t: %s", rows, cols, got, ok, label)
	}
}

func TestP9ConvexImagesOfInvalidSums(t *testing.T) {
	for label, c := range invalidSums() {
		checkNoConvex(t, label, c[0], c[1])
		checkNoConvex(t, label+", exchanged", c[1], c[0])
	}
	// So many columns have more rows than can be tried.
	for _, n := range []int{40, 63, 64} {
		checkNoConvex(t, "columns", []int{0}, make([]int, n))
		checkNoConvex(t, "black columns", []int{n}, slices.Repeat([]int{1}, n))
		checkNoConvex(t, "rows", make([]int, n), []int{0})
		checkNoConvex(t, "black rows", slices.Repeat([]int{1}, n), []int{n})
	}
	for _, rows := range listsOf(2, -1, 3) {
		for _, cols := range listsOf(2, -1, 3) {
			if slices.Min(rows) < 0 || slices.Max(rows) > 2 || slices.Min(cols) < 0 || slices.Max(cols) > 2 || total(rows) != total(cols) {
				checkNoConvex(t, "sums", rows, cols)
			} else {
				checkConvexImages(t, rows, cols, convexIn(imagesByRows(rows, colSumsOf(cols), 2)))
			}
		}
	}
}

func TestP9ShapesOfInvalidImages(t *testing.T) {
	bad := invalidImages()
	bad["convex, and a longer row"] = [][]int{{1, 0}, {1, 1}, {0, 1, 1}}
	bad["a full row of MaxSide + 1"] = [][]int{{1, 1, 1, 1, 1, 1}}
	bad["a full column of MaxSide + 1"] = [][]int{{1}, {1}, {1}, {1}, {1}, {1}}
	for y := range impl.MaxSide {
		for x := range impl.MaxSide {
			for _, cell := range append([]int{2}, farInts...) {
				m := numbered(impl.MaxSide, impl.MaxSide, (1<<25-1)*(x%2))
				m[y][x] = cell
				bad["the cell "+impl.FormatInt(cell)+" at "+impl.FormatInt(10*y+x)] = m
			}
		}
	}
	for label, m := range bad {
		if impl.IsHConvex(m) || impl.IsVConvex(m) || impl.IsConvex(m) || impl.IsPolyomino(m) || impl.UniqueConvex(m) {
			t.Errorf("IsHConvex, IsVConvex, IsConvex, IsPolyomino or UniqueConvex is true: %s", label)
		}
		if got := impl.CountPieces(m); got != -1 {
			t.Errorf("CountPieces = %d: %s", got, label)
		}
	}
}

func TestP9ConvexArgumentsStay(t *testing.T) {
	for _, c := range append(convexByHand, polyominoes{rows: []int{2, 2}, cols: []int{1, 3}}, polyominoes{rows: []int{-1, 7}, cols: []int{3, -2}}, polyominoes{rows: []int{}, cols: []int{}}, polyominoes{rows: []int{1, 1, 1, 1, 1, 1}, cols: []int{3, 3}}, polyominoes{rows: []int{math.MinInt, 0, math.MaxInt}, cols: []int{math.MaxInt, math.MinInt}}) {
		rows, wholeRows := withRoom(c.rows)
		cols, wholeCols := withRoom(c.cols)
		rowsBefore, colsBefore := slices.Clone(wholeRows), slices.Clone(wholeCols)
		impl.ConvexImages(rows, cols)
		impl.ConvexImage(rows, cols)
		impl.IntervalOf(rows)
		impl.IntervalOf(cols)
		if !slices.Equal(wholeRows, rowsBefore) || !slices.Equal(wholeCols, colsBefore) {
			t.Errorf("the arguments %v and %v or the room behind them have become %v and %v", c.rows, c.cols, wholeRows, wholeCols)
		}
	}
	for _, m := range [][][]int{{{1}}, {{0}}, {{0, 1, 1}}, {{1}, {0}, {1}}, drawn("#./.#"), drawn(".#./###/.#."), drawn("##./.##"), drawn("#####/....#/###.#/#...#/#####"), numbered(5, 5, 1<<25-1), numbered(5, 5, 0x1234567), numbered(6, 6, 5), {{1, 2}, {0, 1}}, {{1}, {0, 1}}, {{1, 0}, {1}}, {}} {
		a, whole := roomy(m)
		before := copied(memory(whole))
		impl.IsHConvex(a)
		impl.IsVConvex(a)
		impl.IsConvex(a)
		impl.CountPieces(a)
		impl.IsPolyomino(a)
		impl.UniqueConvex(a)
		for _, row := range a {
			impl.IntervalOf(row)
		}
		if !same(memory(whole), before) {
			t.Errorf("the argument %v or the room behind it has become %v", m, memory(whole))
		}
	}
}

func TestP9ConvexImagesAreNew(t *testing.T) {
	for _, c := range convexByHand {
		rows, wholeRows := withRoom(c.rows)
		cols, wholeCols := withRoom(c.cols)
		rowsBefore, colsBefore := slices.Clone(wholeRows), slices.Clone(wholeCols)
		list, _ := impl.ConvexImages(rows, cols)
		want := copiedAll(list)
		first, _ := impl.ConvexImage(rows, cols)
		checkRowsApart(t, "ConvexImages", slices.Concat(list...))
		checkImagesApart(t, "ConvexImages", list)
		clear(list[:cap(list)])
		checkRowsApart(t, "ConvexImage", first)
		if !slices.Equal(wholeRows, rowsBefore) || !slices.Equal(wholeCols, colsBefore) {
			t.Errorf("a result for %v and %v is memory of its arguments", c.rows, c.cols)
		}
		// What was overwritten must not be found again.
		checkConvexImages(t, rows, cols, want)
	}
}

// callConvex calls all functions that look for pieces, with images and sums of all kinds.
func callConvex(texts []string) {
	for _, text := range texts {
		m := drawn(text)
		impl.CountPieces(m)
		impl.IsPolyomino(m)
		impl.UniqueConvex(m)
	}
	for _, c := range convexByHand {
		impl.ConvexImages(c.rows, c.cols)
		impl.ConvexImage(c.rows, c.cols)
	}
}

// checkNoGoroutineLeft checks that the call starts no goroutine that goes on after it.
func checkNoGoroutineLeft(t *testing.T, call func()) {
	t.Helper()
	// A goroutine that waits for ever after its call, or a call that waits for ever itself, is a deadlock here, which fails the test.
	synctest.Test(t, func(t *testing.T) {
		call()
		synctest.Wait()
	})
	before := runtime.NumGoroutine()
	call()
	// A goroutine that has nothing left to do may need a moment to end.
	for range 1000000 {
		if runtime.NumGoroutine() <= before {
			return
		}
		runtime.Gosched()
	}
	t.Errorf("there were %d goroutines before, and are %d now", before, runtime.NumGoroutine())
}

func TestP9NoGoroutineIsLeftBehind(t *testing.T) {
	texts := []string{".", "#", "#./.#", "##./.##", "#.#.#/.#.#./#.#.#/.#.#./#.#.#", "#####/....#/###.#/#...#/#####", "#####/#####/#####/#####/#####", "...../...../...../...../.....", "##.../##.../..##./..##./.....", "######", "#./#"}
	checkNoGoroutineLeft(t, func() { callConvex(texts) })
}

// TestP9PiecesByGoroutines is also run with the race detector, where .ci/run can build it.
func TestP9PiecesByGoroutines(t *testing.T) {
	defer runtime.GOMAXPROCS(runtime.GOMAXPROCS(0))
	for _, threads := range []int{1, 2, 3, 8, 32} {
		runtime.GOMAXPROCS(threads)
		for _, c := range convexByHand {
			rows, cols := slices.Clone(c.rows), slices.Clone(c.cols)
			for i, text := range append(slices.Clone(c.want), "#.#.#/.#.#./#.#.#/.#.#./#.#.#", "##.../##.../..##./..##./....#") {
				m := drawn(text)
				want := shapeOf(m)
				// Several calls at once read the same arguments.
				var calls sync.WaitGroup
				for range 4 {
					calls.Go(func() {
						if got := impl.CountPieces(m); got != want.pieces {
							t.Errorf("CountPieces(%s) = %d with %d threads", text, got, threads)
						}
						if got, ok := impl.ConvexImages(rows, cols); !ok || len(got) != len(c.want) || i < len(got) && impl.FormatImage(got[i]) != text {
							t.Errorf("ConvexImages(%v, %v) = %v, %t with %d threads, want %v", c.rows, c.cols, got, ok, threads, c.want)
						}
						if got := impl.UniqueConvex(m); got != (want.convexPolyomino() && len(c.want) == 1) {
							t.Errorf("UniqueConvex(%s) = %t with %d threads", text, got, threads)
						}
					})
				}
				calls.Wait()
				// A goroutine that still read the arguments would be found here by the race detector.
				for _, row := range m {
					clear(row)
				}
			}
			clear(rows)
			clear(cols)
		}
	}
}

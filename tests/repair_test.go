package tests

import (
	"math"
	"runtime"
	"slices"
	"sync"
	"testing"

	"loop.example/g00860/impl"
)

// A wrong has sums that need not belong to an image, and what is said of them.
type wrong struct {
	rows, cols []int
	// closest is the lexicographically least of the images that change the sums least.
	closest              string
	change               int
	rightRows, rightCols []int
}

var wrongByHand = []wrong{
	// One cell: a black and a white one change as much.
	{[]int{0}, []int{0}, ".", 0, []int{0}, []int{0}}, {[]int{1}, []int{1}, "#", 0, []int{1}, []int{1}}, {[]int{1}, []int{0}, ".", 1, []int{0}, []int{0}}, {[]int{0}, []int{1}, ".", 1, []int{0}, []int{0}},
	// 1 row and 1 column.
	{[]int{0}, []int{1, 1}, "..", 2, []int{0}, []int{0, 0}}, {[]int{2}, []int{0, 1}, ".#", 1, []int{1}, []int{0, 1}}, {[]int{1}, []int{1, 0, 1}, "..#", 1, []int{1}, []int{0, 0, 1}}, {[]int{2}, []int{1, 1, 1, 1}, "..##", 2, []int{2}, []int{0, 0, 1, 1}},
	{[]int{4}, []int{0, 0, 0, 0}, "....", 4, []int{0}, []int{0, 0, 0, 0}}, {[]int{4}, []int{1, 1, 1, 1}, "####", 0, []int{4}, []int{1, 1, 1, 1}}, {[]int{3}, []int{1, 1, 1, 1}, ".###", 1, []int{3}, []int{0, 1, 1, 1}},
	{[]int{1, 0, 1}, []int{1}, "././#", 1, []int{0, 0, 1}, []int{1}}, {[]int{1, 1, 1, 1}, []int{0}, "./././.", 4, []int{0, 0, 0, 0}, []int{0}}, {[]int{0, 1, 0, 0}, []int{4}, "./#/./.", 3, []int{0, 1, 0, 0}, []int{1}},
	// Sums of an image.
	{[]int{1, 1}, []int{1, 1}, ".#/#.", 0, []int{1, 1}, []int{1, 1}}, {[]int{2, 0, 1}, []int{1, 1, 1}, ".##/.../#..", 0, []int{2, 0, 1}, []int{1, 1, 1}}, {[]int{4, 4, 4}, []int{3, 3, 3, 3}, "####/####/####", 0, []int{4, 4, 4}, []int{3, 3, 3, 3}}, {[]int{2, 2, 2}, []int{1, 2, 2, 1}, "..##/.##./##..", 0, []int{2, 2, 2}, []int{1, 2, 2, 1}},
	// Sums that do not add up to the same number.
	{[]int{2, 0}, []int{2, 1}, "##/..", 1, []int{2, 0}, []int{1, 1}}, {[]int{0, 0}, []int{2, 2}, "../..", 4, []int{0, 0}, []int{0, 0}}, {[]int{1, 1}, []int{2, 2}, ".#/.#", 2, []int{1, 1}, []int{0, 2}}, {[]int{2, 2}, []int{2, 1}, "#./##", 1, []int{1, 2}, []int{2, 1}},
	// Sums that do, and of which there is no image.
	{[]int{2, 0}, []int{2, 0}, "#./..", 2, []int{1, 0}, []int{1, 0}}, {[]int{0, 2}, []int{0, 2}, "../.#", 2, []int{0, 1}, []int{0, 1}}, {[]int{3, 0, 0}, []int{0, 3, 0}, ".#./.../...", 4, []int{1, 0, 0}, []int{0, 1, 0}}, {[]int{3, 3, 0}, []int{3, 3, 0}, "##./##./...", 4, []int{2, 2, 0}, []int{2, 2, 0}},
	// 12 cells.
	{[]int{4, 4, 4}, []int{0, 0, 0, 0}, "..../..../....", 12, []int{0, 0, 0}, []int{0, 0, 0, 0}}, {[]int{4, 0, 4}, []int{3, 0, 3, 0}, "#.#./..../#.#.", 6, []int{2, 0, 2}, []int{2, 0, 2, 0}},
	{[]int{0, 0, 0, 0}, []int{4, 4, 4}, ".../.../.../...", 12, []int{0, 0, 0, 0}, []int{0, 0, 0}}, {[]int{3, 0, 3, 0}, []int{4, 0, 4}, "#.#/.../#.#/...", 6, []int{2, 0, 2, 0}, []int{2, 0, 2}},
}

// changeByHand adds up how far the sums of the image are from those given.
func changeByHand(rows, cols []int, m [][]int) int {
	change := 0
	mRows, mCols := rowsAndCols(m)
	for _, pair := range [][2][]int{{rows, mRows}, {cols, mCols}} {
		for i, n := range pair[0] {
			change += max(n-pair[1][i], pair[1][i]-n)
		}
	}
	return change
}

// eachFit calls check for all sums of a size that are in range, with a number for each.
func eachFit(nRows, nCols int, check func(seed int, rows, cols []int)) {
	seed := 0
	for _, rows := range listsOf(nRows, 0, nCols) {
		for _, cols := range listsOf(nCols, 0, nRows) {
			seed++
			check(seed, rows, cols)
		}
	}
}

// leastImages returns, in lexicographic order, the least image of each of the sums that an image of this size can have.
func leastImages(nRows, nCols int) [][][]int {
	var least [][][]int
	for _, group := range imagesBySums(nRows, nCols) {
		least = append(least, group[0])
	}
	return inOrder(least)
}

// closestIn returns the first of the images that change the sums least, and how many of them do.
func closestIn(images [][][]int, rows, cols []int) ([][]int, int) {
	var closest [][]int
	least, count := math.MaxInt, 0
	for _, m := range images {
		switch change := changeByHand(rows, cols, m); {
		case change < least:
			closest, least, count = m, change, 1
		case change == least:
			count++
		}
	}
	return closest, count
}

// checkClosest checks what is said of the sums, of which m is the closest image.
func checkClosest(t *testing.T, rows, cols []int, m [][]int) {
	t.Helper()
	change := changeByHand(rows, cols, m)
	if got, n, ok := impl.ClosestImage(rows, cols); !ok || n != change || !same(got, m) {
		t.Fatalf("ClosestImage(%v, %v) = %v, %d, %t, want %v, %d", rows, cols, got, n, ok, m, change)
	}
	mRows, mCols := rowsAndCols(m)
	if gotRows, gotCols, ok := impl.RepairSums(rows, cols); !ok || !slices.Equal(gotRows, mRows) || !slices.Equal(gotCols, mCols) || !impl.Exists(gotRows, gotCols) {
		t.Fatalf("RepairSums(%v, %v) = %v, %v, %t, want %v, %v", rows, cols, gotRows, gotCols, ok, mRows, mCols)
	}
	if got := impl.LeastChange(rows, cols); got != change || got%2 != impl.ParityOf(rows, cols) || (got == 0) != impl.Exists(rows, cols) {
		t.Fatalf("LeastChange(%v, %v) = %d, want %d; ParityOf = %d, Exists = %t", rows, cols, got, change, impl.ParityOf(rows, cols), impl.Exists(rows, cols))
	}
	if got := impl.ChangeOf(rows, cols, m); got != change {
		t.Fatalf("ChangeOf(%v, %v, %v) = %d, want %d", rows, cols, m, got, change)
	}
}

func TestP7WrongSumsByHand(t *testing.T) {
	for _, c := range wrongByHand {
		checkClosest(t, c.rows, c.cols, drawn(c.closest))
		if got := impl.LeastChange(c.rows, c.cols); got != c.change {
			t.Errorf("LeastChange(%v, %v) = %d, want %d", c.rows, c.cols, got, c.change)
		}
		if rows, cols, ok := impl.RepairSums(c.rows, c.cols); !ok || !slices.Equal(rows, c.rightRows) || !slices.Equal(cols, c.rightCols) {
			t.Errorf("RepairSums(%v, %v) = %v, %v, %t, want %v, %v", c.rows, c.cols, rows, cols, ok, c.rightRows, c.rightCols)
		}
	}
}

func TestP9ChangeByHand(t *testing.T) {
	for _, c := range []struct {
		rows, cols []int
		m          string
		change     int
	}{
		{[]int{0}, []int{0}, ".", 0}, {[]int{0}, []int{0}, "#", 2}, {[]int{1}, []int{1}, ".", 2}, {[]int{1}, []int{0}, "#", 1}, {[]int{0}, []int{1}, "#", 1},
		{[]int{1, 1}, []int{1, 1}, "#./.#", 0}, {[]int{1, 1}, []int{1, 1}, "##/##", 4}, {[]int{1, 1}, []int{1, 1}, "##/..", 2}, {[]int{1, 1}, []int{1, 1}, "#./#.", 2}, {[]int{2, 0}, []int{2, 1}, "../##", 5}, {[]int{2, 0}, []int{1, 1}, "../##", 4},
		// One row too many and another one too few do not make up for each other.
		{[]int{2, 0, 1}, []int{1, 1, 1}, "#../##./...", 6}, {[]int{0, 2}, []int{2, 0}, "##/..", 6}, {[]int{0, 3}, []int{0, 1, 2}, "###/...", 8},
		{[]int{4, 0, 4, 0}, []int{0, 4, 0, 4}, "..../####/..../####", 24}, {[]int{4, 4, 4, 4}, []int{4, 4, 4, 4}, "..../..../..../....", 32}, {[]int{0, 0, 0, 0}, []int{0, 0, 0, 0}, "####/####/####/####", 32}, {[]int{1, 2, 3, 4}, []int{4, 3, 2, 1}, "#.../##../###./####", 0}, {[]int{4, 3, 2, 1}, []int{4, 3, 2, 1}, "#.../##../###./####", 8},
		// Images of another size.
		{[]int{1, 1}, []int{1, 1}, "##", -1}, {[]int{1, 1}, []int{1, 1}, "#/#", -1}, {[]int{1, 1}, []int{1, 1}, "#../.#.", -1}, {[]int{1, 1}, []int{1, 1}, "#./.#/..", -1}, {[]int{1}, []int{1, 0}, "#/.", -1}, {[]int{0, 0, 0, 0}, []int{0}, "./././.", 0}, {[]int{0, 0, 0, 0}, []int{0}, "././././.", -1}, {[]int{0, 0, 0, 0}, []int{0}, "....", -1}, {[]int{2, 2}, []int{2, 2, 0}, "##/##", -1},
		// An image of 5 rows or columns, of which the sums do not fit.
		{[]int{0, 0, 0, 0, 0}, []int{0}, "././././.", -1}, {[]int{0}, []int{0, 0, 0, 0, 0}, ".....", -1}, {[]int{1, 0, 0, 0, 0}, []int{1, 0, 0, 0, 0}, "#..../...../...../...../.....", -1},
	} {
		if got := impl.ChangeOf(c.rows, c.cols, drawn(c.m)); got != c.change {
			t.Errorf("ChangeOf(%v, %v, %s) = %d, want %d", c.rows, c.cols, c.m, got, c.change)
		}
	}
}

func TestP9ChangeOfAllImages(t *testing.T) {
	t.Parallel()
	for nRows := 1; nRows <= 4; nRows++ {
		for nCols := 1; nCols <= 4; nCols++ {
			eachFit(nRows, nCols, func(seed int, rows, cols []int) {
				images := 1 << (nRows * nCols)
				// Above 6 cells a few images of each of the sums, and above 9 of a part of them.
				step := 1
				if nRows*nCols > 6 {
					step = images/3 + scattered(seed, 7)
				}
				if nRows*nCols > 9 && seed%(nRows*nCols-6) > 0 {
					return
				}
				for n := scattered(seed, step); n < images; n += step {
					m := ordered(nRows, nCols, n)
					want := changeByHand(rows, cols, m)
					got := impl.ChangeOf(rows, cols, m)
					if got != want || got%2 != impl.ParityOf(rows, cols) {
						t.Fatalf("ChangeOf(%v, %v, %v) = %d, want %d; ParityOf = %d", rows, cols, m, got, want, impl.ParityOf(rows, cols))
					}
				}
			})
		}
	}
}

func TestP9ChangeOfImagesOfOtherSizes(t *testing.T) {
	for nRows := 1; nRows <= impl.MaxSide; nRows++ {
		for nCols := 1; nCols <= impl.MaxSide; nCols++ {
			m := ordered(nRows, nCols, scattered(nRows+5*nCols, 1<<(nRows*nCols)))
			for sumRows := range impl.MaxSide + 3 {
				for sumCols := range impl.MaxSide + 3 {
					fits := sumRows == nRows && sumCols == nCols && nRows <= 4 && nCols <= 4
					if got := impl.ChangeOf(make([]int, sumRows), make([]int, sumCols), m); fits && got != 2*impl.CountBlack(m) || !fits && got != -1 {
						t.Errorf("ChangeOf of %d rows and %d columns and %v = %d", sumRows, sumCols, m, got)
					}
				}
			}
		}
	}
}

func TestP7ClosestImageOfAllSums(t *testing.T) {
	t.Parallel()
	several := 0
	for nRows := 1; nRows <= 4; nRows++ {
		for nCols := 1; nCols <= 4; nCols++ {
			if nRows*nCols > 9 {
				continue
			}
			images := leastImages(nRows, nCols)
			eachFit(nRows, nCols, func(_ int, rows, cols []int) {
				m, count := closestIn(images, rows, cols)
				if count > 1 {
					several++
				}
				checkClosest(t, rows, cols, m)
			})
		}
	}
	if several == 0 {
		t.Error("no sums have several closest images")
	}
}

func TestP7ClosestImageOf12Cells(t *testing.T) {
	t.Parallel()
	for _, size := range [][2]int{{3, 4}, {4, 3}} {
		images := leastImages(size[0], size[1])
		eachFit(size[0], size[1], func(seed int, rows, cols []int) {
			if scattered(seed, 32) > 0 {
				return
			}
			m, _ := closestIn(images, rows, cols)
			checkClosest(t, rows, cols, m)
		})
	}
}

// TestP7NoImageIsCloser asks ChangeOf for all images of a size, not only for one of each of their sums.
func TestP7NoImageIsCloser(t *testing.T) {
	t.Parallel()
	for nRows := 1; nRows <= 4; nRows++ {
		for nCols := 1; nCols <= 4; nCols++ {
			cells := nRows * nCols
			if cells > 12 {
				continue
			}
			eachFit(nRows, nCols, func(seed int, rows, cols []int) {
				if scattered(seed, max(1, 1<<cells/16)) > 0 {
					return
				}
				m, change, ok := impl.ClosestImage(rows, cols)
				if !ok || impl.ChangeOf(rows, cols, m) != change {
					t.Fatalf("ClosestImage(%v, %v) = %v, %d, %t, but ChangeOf = %d", rows, cols, m, change, ok, impl.ChangeOf(rows, cols, m))
				}
				for n := range 1 << cells {
					other := ordered(nRows, nCols, n)
					if got := impl.ChangeOf(rows, cols, other); got < change || got == change && comesFirst(other, m) {
						t.Fatalf("ClosestImage(%v, %v) = %v, %d, but ChangeOf = %d for %v", rows, cols, m, change, got, other)
					}
				}
			})
		}
	}
}

func TestP7SumsOfImagesNeedNoChange(t *testing.T) {
	t.Parallel()
	seed := 0
	eachGroup(1, 12, func(group [][][]int) {
		seed++
		if len(group[0]) > 4 || len(group[0][0]) > 4 || cellsOf(group[0]) > 9 && seed%8 > 0 {
			return
		}
		rows, cols := rowsAndCols(group[0])
		checkClosest(t, rows, cols, group[0])
		least, ok := impl.LeastImage(rows, cols)
		if m, change, fine := impl.ClosestImage(rows, cols); !ok || !fine || change != 0 || !same(m, least) {
			t.Fatalf("ClosestImage(%v, %v) = %v, %d, %t, LeastImage = %v, %t", rows, cols, m, change, fine, least, ok)
		}
		for _, m := range group {
			if got := impl.ChangeOf(rows, cols, m); got != 0 {
				t.Fatalf("ChangeOf(%v, %v, %v) = %d", rows, cols, m, got)
			}
		}
	})
}

// TestP7EachChangeIsByOne changes one sum by 1, after which the least change is another one by 1, and is less for at least one sum if it is not 0.
func TestP7EachChangeIsByOne(t *testing.T) {
	t.Parallel()
	for _, size := range [][2]int{{1, 1}, {1, 4}, {4, 1}, {2, 2}, {2, 3}, {3, 2}, {2, 4}, {3, 3}} {
		least := map[[2]colSums]int{}
		eachFit(size[0], size[1], func(_ int, rows, cols []int) {
			least[[2]colSums{colSumsOf(rows), colSumsOf(cols)}] = impl.LeastChange(rows, cols)
		})
		for key, change := range least {
			nearer := false
			for side := range key {
				for i := range key[side] {
					for _, step := range []int{-1, 1} {
						next := key
						next[side][i] += step
						other, ok := least[next]
						if ok && other != change-1 && other != change+1 {
							t.Fatalf("LeastChange of %v is %d, that of %v is %d", key, change, next, other)
						}
						nearer = nearer || ok && other == change-1
					}
				}
			}
			if nearer != (change > 0) {
				t.Fatalf("LeastChange of %v is %d, with less for sums that differ by 1: %t", key, change, nearer)
			}
		}
	}
}

func TestP9SumsFitOfSmallLists(t *testing.T) {
	for nRows := range 4 {
		for nCols := range 4 {
			for _, rows := range listsOf(nRows, -1, nCols+1) {
				for _, cols := range listsOf(nCols, -1, nRows+1) {
					want := nRows > 0 && nCols > 0 &&
						slices.Min(rows) >= 0 && slices.Max(rows) <= nCols && slices.Min(cols) >= 0 && slices.Max(cols) <= nRows
					if got := impl.SumsFit(rows, cols); got != want {
						t.Fatalf("SumsFit(%v, %v) = %t", rows, cols, got)
					}
					parity := -1
					if want {
						parity = (total(rows) + total(cols)) % 2
					}
					if got := impl.ParityOf(rows, cols); got != parity {
						t.Fatalf("ParityOf(%v, %v) = %d, want %d", rows, cols, got, parity)
					}
				}
			}
		}
	}
}

func TestP9SumsFitOfGreaterLists(t *testing.T) {
	for nRows := range impl.MaxSide + 3 {
		for nCols := range impl.MaxSide + 3 {
			for n := -1; n <= impl.MaxSide+1; n++ {
				sizeOk := nRows >= 1 && nRows <= 4 && nCols >= 1 && nCols <= 4
				inRows, inCols := n >= 0 && n <= nCols, n >= 0 && n <= nRows
				for i := range nRows {
					rows := make([]int, nRows)
					rows[i] = n
					if got := impl.SumsFit(rows, make([]int, nCols)); got != (sizeOk && inRows) {
						t.Errorf("SumsFit of the rows %v and %d columns of 0 is %t", rows, nCols, got)
					}
				}
				for i := range nCols {
					cols := make([]int, nCols)
					cols[i] = n
					if got := impl.SumsFit(make([]int, nRows), cols); got != (sizeOk && inCols) {
						t.Errorf("SumsFit of %d rows of 0 and the columns %v is %t", nRows, cols, got)
					}
				}
				rows, cols := slices.Repeat([]int{n}, nRows), slices.Repeat([]int{n}, nCols)
				if got := impl.SumsFit(rows, cols); got != (sizeOk && inRows && inCols) {
					t.Errorf("SumsFit(%v, %v) = %t", rows, cols, got)
				}
			}
		}
	}
}

// checkNotRepaired checks that there is no image for these sums, and no value beside the boolean.
func checkNotRepaired(t *testing.T, label string, rows, cols []int) {
	t.Helper()
	if m, change, ok := impl.ClosestImage(rows, cols); len(m) != 0 || change != 0 || ok {
		t.Errorf("ClosestImage(%v, %v) = %v, %d, %t: %s", rows, cols, m, change, ok, label)
	}
	if a, b, ok := impl.RepairSums(rows, cols); len(a) != 0 || len(b) != 0 || ok {
		t.Errorf("RepairSums(%v, %v) = %v, %v, %t: %s", rows, cols, a, b, ok, label)
	}
	if got := impl.LeastChange(rows, cols); got != -1 {
		t.Errorf("LeastChange(%v, %v) = %d: %s", rows, cols, got, label)
	}
}

func TestP9NoRepairOf16Cells(t *testing.T) {
	four := []int{4, 4, 4, 4}
	for seed, c := range [][2][]int{{{0, 0, 0, 0}, {0, 0, 0, 0}}, {four, four}, {{0, 0, 0, 0}, four}, {four, {0, 0, 0, 0}}, {{1, 1, 1, 1}, {1, 1, 1, 1}}, {{1, 2, 3, 4}, {4, 3, 2, 0}}, {{0, 4, 0, 4}, {2, 2, 2, 1}}} {
		rows, cols := c[0], c[1]
		checkNotRepaired(t, "16 cells", rows, cols)
		if !impl.SumsFit(rows, cols) {
			t.Errorf("SumsFit(%v, %v) is false", rows, cols)
		}
		if got, want := impl.ParityOf(rows, cols), (total(rows)+total(cols))%2; got != want {
			t.Errorf("ParityOf(%v, %v) = %d, want %d", rows, cols, got, want)
		}
		m := ordered(4, 4, scattered(seed, 1<<16))
		if got, want := impl.ChangeOf(rows, cols, m), changeByHand(rows, cols, m); got != want {
			t.Errorf("ChangeOf(%v, %v, %v) = %d, want %d", rows, cols, m, got, want)
		}
	}
}

func TestP9SizesThatAreRepaired(t *testing.T) {
	for nRows := range impl.MaxSide + 3 {
		for nCols := range impl.MaxSide + 3 {
			rows, cols := make([]int, nRows), make([]int, nCols)
			if nRows >= 1 && nRows <= 4 && nCols >= 1 && nCols <= 4 && nRows*nCols <= 12 {
				checkClosest(t, rows, cols, numbered(nRows, nCols, 0))
			} else {
				checkNotRepaired(t, "size", rows, cols)
			}
		}
	}
}

// unfitSums returns rows and columns that SumsFit does not accept, each for one reason.
func unfitSums() map[string][2][]int {
	bad := map[string][2][]int{
		"nil": {nil, nil}, "empty": {{}, {}}, "nil rows": {nil, {0}}, "nil columns": {{0}, nil}, "empty rows": {{}, {0, 0}}, "empty columns": {{0, 0}, {}},
		"5 rows": {make([]int, 5), {0}}, "5 columns": {{0}, make([]int, 5)}, "5 both": {make([]int, 5), make([]int, 5)}, "5 full rows": {{1, 1, 1, 1, 1}, {5}}, "5 full columns": {{5}, {1, 1, 1, 1, 1}}, "5 rows of 2": {{2, 2, 2, 2, 2}, {5, 5}},
		"6 rows": {make([]int, 6), {0, 0}}, "6 columns": {{0, 0}, make([]int, 6)}, "12 rows": {make([]int, 12), {0}}, "12 columns": {{0}, make([]int, 12)}, "1000 both": {make([]int, 1000), make([]int, 1000)},
		"wraparound to 0": {{math.MinInt, math.MinInt}, {0, 0}}, "wraparound to 1": {{math.MaxInt, math.MaxInt, 3}, {1, 0, 0}},
	}
	for nRows := 1; nRows <= 4; nRows++ {
		for nCols := 1; nCols <= 4; nCols++ {
			size := impl.FormatInt(nRows) + " x " + impl.FormatInt(nCols)
			for _, n := range append([]int{5}, farInts...) {
				label := size + " with " + impl.FormatInt(n)
				for i := range nRows {
					rows := make([]int, nRows)
					rows[i] = n
					bad[label+" as row "+impl.FormatInt(i)] = [2][]int{rows, make([]int, nCols)}
				}
				for i := range nCols {
					cols := make([]int, nCols)
					cols[i] = n
					bad[label+" as column "+impl.FormatInt(i)] = [2][]int{make([]int, nRows), cols}
				}
				bad[label+" everywhere"] = [2][]int{slices.Repeat([]int{n}, nRows), slices.Repeat([]int{n}, nCols)}
			}
			// One beyond what fits, in one place.
			bad[size+" with a row beyond"] = [2][]int{slices.Repeat([]int{nCols + 1}, nRows), slices.Repeat([]int{nRows}, nCols)}
			bad[size+" with a column beyond"] = [2][]int{slices.Repeat([]int{nCols}, nRows), slices.Repeat([]int{nRows + 1}, nCols)}
		}
	}
	return bad
}

func TestP9InvalidSumsAreNotRepaired(t *testing.T) {
	for label, c := range unfitSums() {
		rows, cols := c[0], c[1]
		if impl.SumsFit(rows, cols) {
			t.Errorf("SumsFit(%v, %v) is true: %s", rows, cols, label)
		}
		if got := impl.ParityOf(rows, cols); got != -1 {
			t.Errorf("ParityOf(%v, %v) = %d: %s", rows, cols, got, label)
		}
		checkNotRepaired(t, label, rows, cols)
		m := numbered(len(rows), len(cols), 5)
		if got := impl.ChangeOf(rows, cols, m); got != -1 {
			t.Errorf("ChangeOf(%v, %v, %v) = %d: %s", rows, cols, m, got, label)
		}
		if got := impl.ChangeOf(rows, cols, nil); got != -1 {
			t.Errorf("ChangeOf(%v, %v, nil) = %d: %s", rows, cols, got, label)
		}
	}
}

func TestP9ChangeOfInvalidImages(t *testing.T) {
	bad := invalidImages()
	bad["rows of 2 and 3"] = [][]int{{1, 0}, {0, 1, 1}}
	bad["rows of 4 and 3"] = [][]int{{1, 0, 1, 0}, {0, 1, 1}, {0, 0, 0, 0}}
	for label, m := range bad {
		for nRows := range impl.MaxSide + 3 {
			for nCols := range impl.MaxSide + 3 {
				if got := impl.ChangeOf(make([]int, nRows), make([]int, nCols), m); got != -1 {
					t.Errorf("ChangeOf of %d rows and %d columns = %d: %s", nRows, nCols, got, label)
				}
			}
		}
	}
	for y := range 4 {
		for x := range 4 {
			for _, cell := range append([]int{2}, farInts...) {
				m := numbered(4, 4, 0x5aa5)
				m[y][x] = cell
				if got := impl.ChangeOf([]int{2, 2, 2, 2}, []int{2, 2, 2, 2}, m); got != -1 {
					t.Errorf("ChangeOf = %d with the cell %d at (%d, %d)", got, cell, y, x)
				}
			}
		}
	}
}

// callRepair calls all functions of wrong sums.
func callRepair(rows, cols []int, m [][]int) {
	impl.SumsFit(rows, cols)
	impl.ChangeOf(rows, cols, m)
	impl.ClosestImage(rows, cols)
	impl.RepairSums(rows, cols)
	impl.LeastChange(rows, cols)
	impl.ParityOf(rows, cols)
}

func TestP9RepairArgumentsStay(t *testing.T) {
	check := func(rows, cols []int, m [][]int) {
		t.Helper()
		a, wholeRows := withRoom(rows)
		b, wholeCols := withRoom(cols)
		c, whole := roomy(m)
		rowsBefore, colsBefore, before := slices.Clone(wholeRows), slices.Clone(wholeCols), copied(memory(whole))
		callRepair(a, b, c)
		if !slices.Equal(wholeRows, rowsBefore) || !slices.Equal(wholeCols, colsBefore) || !same(memory(whole), before) {
			t.Errorf("the arguments %v, %v and %v or the room behind them have become %v, %v and %v", rows, cols, m, wholeRows, wholeCols, memory(whole))
		}
	}
	for _, c := range wrongByHand {
		check(c.rows, c.cols, drawn(c.closest))
		check(c.rows, c.cols, numbered(len(c.rows), len(c.cols), 0xb5d))
	}
	for _, c := range unfitSums() {
		check(c[0], c[1], numbered(len(c[0]), len(c[1]), 0xb5d))
	}
	check([]int{4, 3, 2, 1}, []int{0, 4, 4, 1}, numbered(4, 4, 0x5aa5))
	for _, m := range invalidImages() {
		check([]int{2, 0}, []int{2, 1}, m)
	}
}

func TestP9RepairResultsAreNew(t *testing.T) {
	for _, c := range wrongByHand {
		rows, wholeRows := withRoom(c.rows)
		cols, wholeCols := withRoom(c.cols)
		rowsBefore, colsBefore := slices.Clone(wholeRows), slices.Clone(wholeCols)
		for range 3 {
			checkClosest(t, rows, cols, drawn(c.closest))
			m, _, _ := impl.ClosestImage(rows, cols)
			a, b, _ := impl.RepairSums(rows, cols)
			checkRowsApart(t, "ClosestImage and RepairSums", append(m, a, b))
		}
		if !slices.Equal(wholeRows, rowsBefore) || !slices.Equal(wholeCols, colsBefore) {
			t.Errorf("a result for %v and %v is memory of its arguments", c.rows, c.cols)
		}
	}
}

func TestP9NoGoroutineOfRepairIsLeftBehind(t *testing.T) {
	checkNoGoroutineLeft(t, func() {
		for _, c := range wrongByHand {
			callRepair(c.rows, c.cols, drawn(c.closest))
		}
		callRepair([]int{0, 0, 0, 0}, []int{0, 0, 0, 0}, numbered(4, 4, 5))
		callRepair([]int{3, 0}, []int{0, 0}, numbered(2, 2, 5))
	})
}

// TestP9RepairByGoroutines is also run with the race detector, where .ci/run can build it.
func TestP9RepairByGoroutines(t *testing.T) {
	defer runtime.GOMAXPROCS(runtime.GOMAXPROCS(0))
	for _, threads := range []int{1, 2, 3, 8, 32} {
		runtime.GOMAXPROCS(threads)
		for _, c := range wrongByHand {
			rows, cols, closest := slices.Clone(c.rows), slices.Clone(c.cols), drawn(c.closest)
			// Several calls at once read the same arguments.
			var calls sync.WaitGroup
			for range 8 {
				calls.Go(func() {
					if m, change, ok := impl.ClosestImage(rows, cols); !ok || change != c.change || !same(m, closest) {
						t.Errorf("ClosestImage(%v, %v) = %v, %d, %t with %d threads", c.rows, c.cols, m, change, ok, threads)
					}
					if a, b, ok := impl.RepairSums(rows, cols); !ok || !slices.Equal(a, c.rightRows) || !slices.Equal(b, c.rightCols) {
						t.Errorf("RepairSums(%v, %v) = %v, %v, %t with %d threads", c.rows, c.cols, a, b, ok, threads)
					}
					if got := impl.LeastChange(rows, cols); got != c.change {
						t.Errorf("LeastChange(%v, %v) = %d with %d threads", c.rows, c.cols, got, threads)
					}
				})
			}
			calls.Wait()
			// A goroutine that still read the arguments would be found here by the race detector.
			clear(rows)
			clear(cols)
		}
	}
}

package tests

import (
	"cmp"
	"runtime"
	"slices"
	"sync"
	"testing"

	"loop.example/g00860/impl"
)

// numberedCell returns the cell with this number.
func numberedCell(m [][]int, number int) int { return m[number/len(m[0])][number%len(m[0])] }

func cellsOf(m [][]int) int { return len(m) * len(m[0]) }

// allCells returns the numbers of all cells.
func allCells(m [][]int) []int { return bitsOf(1<<cellsOf(m) - 1) }

// agreeingIn counts the images of the group that agree with m in these cells.
func agreeingIn(group [][][]int, m [][]int, cells ...int) int {
	count := 0
	for _, other := range group {
		if !slices.ContainsFunc(cells, func(cell int) bool { return numberedCell(other, cell) != numberedCell(m, cell) }) {
			count++
		}
	}
	return count
}

// nextIn is what RevealNext is for m, of which group has all images with its sums.
func nextIn(group [][][]int, m [][]int, cells []int) int {
	next, fewest := -1, agreeingIn(group, m, cells...)
	if fewest == 1 {
		return -1
	}
	for cell := range cellsOf(m) {
		if left := agreeingIn(group, m, append(slices.Clone(cells), cell)...); left < fewest {
			next, fewest = cell, left
		}
	}
	return next
}

// greedyIn returns the cells that nextIn leads to, in ascending order.
func greedyIn(group [][][]int, m [][]int) []int {
	cells := []int{}
	for next := nextIn(group, m, cells); next != -1; next = nextIn(group, m, cells) {
		cells = append(cells, next)
		slices.Sort(cells)
	}
	return cells
}

// cellLists returns all ascending lists of numbers below n, the shorter ones first, those of one length in lexicographic order.
func cellLists(n int) [][]int {
	var lists [][]int
	for set := range 1 << n {
		lists = append(lists, bitsOf(set))
	}
	slices.SortFunc(lists, func(a, b []int) int { return cmp.Or(len(a)-len(b), slices.Compare(a, b)) })
	return lists
}

// cellSample returns some ascending lists of numbers of cells: none, each one alone, all, all but each one, and some that follow no rule.
func cellSample(m [][]int, seed, count int) [][]int {
	all := 1<<cellsOf(m) - 1
	lists := [][]int{nil, {}, allCells(m)}
	for cell := range cellsOf(m) {
		lists = append(lists, []int{cell}, bitsOf(all&^(1<<cell)))
	}
	for i := range count {
		// Long lists are nearly always enough, so the sets become smaller from one to the next.
		set := all
		for k := range 1 + i%4 {
			set &= scattered(seed+100*i+k, all+1)
		}
		lists = append(lists, bitsOf(set))
	}
	return lists
}

// checkRevealed checks what is said of m and these cells. It returns how many images agree.
func checkRevealed(t *testing.T, group [][][]int, m [][]int, cells []int) int {
	t.Helper()
	want := agreeingIn(group, m, cells...)
	if got := impl.CountAgreeing(m, cells); got != want {
		t.Fatalf("CountAgreeing(%v, %v) = %d, want %d", m, cells, got, want)
	}
	if got := impl.IsEnough(m, cells); got != (want == 1) {
		t.Fatalf("IsEnough(%v, %v) = %t, but %d images agree", m, cells, got, want)
	}
	if got, next := impl.RevealNext(m, cells), nextIn(group, m, cells); got != next {
		t.Fatalf("RevealNext(%v, %v) = %d, want %d", m, cells, got, next)
	}
	return want
}

// checkGreedy checks GreedyReveal against the group and against RevealNext. It returns the list.
func checkGreedy(t *testing.T, group [][][]int, m [][]int) []int {
	t.Helper()
	want := greedyIn(group, m)
	list, ok := impl.GreedyReveal(m)
	if !ok || !slices.Equal(list, want) {
		t.Fatalf("GreedyReveal(%v) = %v, %t, want %v", m, list, ok, want)
	}
	var cells []int
	for next := impl.RevealNext(m, nil); next != -1; next = impl.RevealNext(m, cells) {
		if !slices.Contains(list, next) || slices.Contains(cells, next) {
			t.Fatalf("RevealNext(%v, %v) = %d, but GreedyReveal is %v", m, cells, next, list)
		}
		cells = append(cells, next)
		slices.Sort(cells)
	}
	if !slices.Equal(cells, list) || !impl.IsEnough(m, list) {
		t.Fatalf("GreedyReveal(%v) = %v, RevealNext leads to %v", m, list, cells)
	}
	return list
}

// leastIn returns the first of the lists after which only m is left.
func leastIn(group [][][]int, m [][]int, lists [][]int) []int {
	return lists[slices.IndexFunc(lists, func(cells []int) bool { return agreeingIn(group, m, cells...) == 1 })]
}

// revealedByHand has images with the number of images that have their sums, and what is revealed of them.
var revealedByHand = []struct {
	m             string
	count         int
	least, greedy []int
}{
	// The only ones with their sums.
	{"#", 1, nil, nil}, {".", 1, nil, nil}, {"##", 1, nil, nil}, {"#/.", 1, nil, nil}, {".#.#", 1, nil, nil}, {"#/./#", 1, nil, nil}, {"##/#.", 1, nil, nil}, {".../...", 1, nil, nil}, {"####/####/####", 1, nil, nil}, {"###./##../#...", 1, nil, nil}, {"#.#./#.##/#...", 1, nil, nil},
	// Two images: each of the four cells of the switch is enough.
	{"#./.#", 2, []int{0}, []int{0}}, {".#/#.", 2, []int{0}, []int{0}}, {"##/#./.#", 2, []int{2}, []int{2}}, {"###/#.#/##.", 2, []int{4}, []int{4}}, {"...#/..../..#.", 2, []int{2}, []int{2}}, {"####/####/###./##.#", 2, nil, []int{10}},
	// One black cell in each row and column.
	{"#../.#./..#", 6, []int{0, 4}, []int{0, 4}}, {"..#/.#./#..", 6, []int{0, 4}, []int{2, 3}}, {"..#/#../.#.", 6, []int{0, 7}, []int{2, 3}}, {".#./..#/#..", 6, []int{0, 5}, []int{1, 3}}, {"##./#.#/.##", 6, []int{0, 4}, []int{2, 3}},
	{"#..../.#.../..#../...#./....#", 120, nil, []int{0, 6, 12, 18}},
	// The second cell that is revealed has a lesser number than the first one.
	{"...#/..##/##..", 12, []int{6, 11}, []int{6, 11}}, {"...#/.##./##.#", 8, []int{1, 6}, []int{1, 6}}, {"...#/#.#./.#.#", 12, []int{4, 6}, []int{5, 7}},
	// One row above all columns.
	{"##../..##", 6, []int{0, 1}, []int{0, 1}}, {"#..#/.##.", 6, []int{0, 3}, []int{0, 3}}, {"##/#./.#/..", 2, nil, []int{2}},
}

func TestP7RevealedByHand(t *testing.T) {
	for _, c := range revealedByHand {
		m := drawn(c.m)
		if got := impl.CountAgreeing(m, nil); got != c.count {
			t.Errorf("CountAgreeing(%s, nil) = %d, want %d", c.m, got, c.count)
		}
		if got := impl.IsEnough(m, nil); got != (c.count == 1) {
			t.Errorf("IsEnough(%s, nil) = %t", c.m, got)
		}
		small := len(m) <= 3 && len(m[0]) <= 4
		if got, ok := impl.LeastReveal(m); ok != small || !slices.Equal(got, c.least) {
			t.Errorf("LeastReveal(%s) = %v, %t, want %v", c.m, got, ok, c.least)
		}
		if got, ok := impl.GreedyReveal(m); !ok || !slices.Equal(got, c.greedy) {
			t.Errorf("GreedyReveal(%s) = %v, %t, want %v", c.m, got, ok, c.greedy)
		}
	}
}

func TestP7CellsByHand(t *testing.T) {
	for _, c := range []struct {
		m     string
		cells []int
		count int
		next  int
	}{
		{"#./.#", nil, 2, 0}, {"#./.#", []int{0}, 1, -1}, {"#./.#", []int{1}, 1, -1}, {"#./.#", []int{3}, 1, -1}, {"#./.#", []int{0, 3}, 1, -1}, {"#./.#", []int{0, 1, 2, 3}, 1, -1},
		// The number of cells, and numbers that are too small or too great.
		{"#./.#", []int{4}, -1, -1}, {"#./.#", []int{-1}, -1, -1}, {"#./.#", []int{0, 4}, -1, -1}, {"#./.#", []int{-1, 0}, -1, -1}, {"#./.#", []int{0, 1, 2, 3, 4}, -1, -1}, {"#", []int{0}, 1, -1}, {"#", []int{1}, -1, -1}, {"#", []int{-1}, -1, -1},
		// Not ascending, and a number twice.
		{"#./.#", []int{1, 0}, -1, -1}, {"#./.#", []int{0, 0}, -1, -1}, {"#./.#", []int{0, 2, 1}, -1, -1}, {"#./.#", []int{0, 1, 1}, -1, -1}, {"#./.#", []int{3, 3}, -1, -1}, {"#", []int{0, 0}, -1, -1},
		// Cells that all images have.
		{"##/#./.#", nil, 2, 2}, {"##/#./.#", []int{0}, 2, 2}, {"##/#./.#", []int{0, 1}, 2, 2}, {"##/#./.#", []int{1, 5}, 1, -1}, {"...#/..../..#.", []int{0, 1, 4, 5, 6, 7, 8, 9}, 2, 2}, {"...#/..../..#.", []int{0, 1, 4, 5, 6, 7, 8, 9, 11}, 1, -1},
		// One black cell in each row and column: a black cell alone leaves fewer images than a white one.
		{"#../.#./..#", nil, 6, 0}, {"#../.#./..#", []int{0}, 2, 4}, {"#../.#./..#", []int{1}, 4, 8}, {"#../.#./..#", []int{8}, 2, 0}, {"#../.#./..#", []int{4}, 2, 0}, {"#../.#./..#", []int{1, 2}, 2, 4}, {"#../.#./..#", []int{1, 3}, 3, 8}, {"#../.#./..#", []int{0, 1, 2, 3, 6}, 2, 4}, {"#../.#./..#", []int{0, 4}, 1, -1},
		{"..#/.#./#..", nil, 6, 2}, {"..#/.#./#..", []int{2}, 2, 3}, {"..#/.#./#..", []int{0}, 4, 4}, {"..#/.#./#..", []int{2, 8}, 2, 3},
		{"#..../.#.../..#../...#./....#", nil, 120, 0}, {"#..../.#.../..#../...#./....#", []int{0}, 24, 6}, {"#..../.#.../..#../...#./....#", []int{1}, 96, 12}, {"#..../.#.../..#../...#./....#", []int{24}, 24, 0}, {"#..../.#.../..#../...#./....#", []int{0, 6}, 6, 12}, {"#..../.#.../..#../...#./....#", []int{0, 6, 12}, 2, 18}, {"#..../.#.../..#../...#./....#", []int{6, 12, 24}, 2, 0},
		{"#..../.#.../..#../...#./....#", []int{0, 6, 12, 24}, 1, -1}, {"#..../.#.../..#../...#./....#", []int{0, 6, 12, 25}, -1, -1}, {"....#/...#./..#../.#.../#....", nil, 120, 4}, {"....#/...#./..#../.#.../#....", []int{4, 8, 12}, 2, 15},
		// 1 row and 1 column.
		{"#.##.", nil, 1, -1}, {"#.##.", []int{0, 4}, 1, -1}, {"#.##.", []int{5}, -1, -1}, {"#/./#/#/.", []int{0, 4}, 1, -1}, {"#/./#/#/.", []int{5}, -1, -1}, {"#/./#/#/.", []int{4}, 1, -1},
		// In an image of 2 rows and 3 columns 5 is the last cell, and so it is in one of 3 rows and 2 columns.
		{"#.#/.#.", []int{5}, 2, 0}, {"#.#/.#.", []int{6}, -1, -1}, {"#.#/.#.", []int{2}, 2, 0}, {"#.#/.#.", []int{0}, 2, 1}, {"#./.#/#.", []int{5}, 2, 0}, {"#./.#/#.", []int{6}, -1, -1}, {"#./.#/#.", []int{2}, 1, -1}, {"#./.#/#.", []int{1}, 2, 2},
	} {
		m := drawn(c.m)
		if got := impl.CountAgreeing(m, c.cells); got != c.count {
			t.Errorf("CountAgreeing(%s, %v) = %d, want %d", c.m, c.cells, got, c.count)
		}
		if got := impl.IsEnough(m, c.cells); got != (c.count == 1) {
			t.Errorf("IsEnough(%s, %v) = %t", c.m, c.cells, got)
		}
		if got := impl.RevealNext(m, c.cells); got != c.next {
			t.Errorf("RevealNext(%s, %v) = %d, want %d", c.m, c.cells, got, c.next)
		}
	}
}

func TestP7AllListsOfCells(t *testing.T) {
	t.Parallel()
	eachGroup(1, 8, func(group [][][]int) {
		for _, m := range group {
			for set := range 1 << cellsOf(m) {
				checkRevealed(t, group, m, bitsOf(set))
			}
		}
	})
}

func TestP7SomeListsOfCells(t *testing.T) {
	t.Parallel()
	seed := 0
	eachGroup(9, 16, func(group [][][]int) {
		seed++
		// Many of the greater groups are alike.
		if cellsOf(group[0]) > 12 && seed%60 > 0 || cellsOf(group[0]) > 9 && seed%4 > 0 {
			return
		}
		m := group[scattered(seed, len(group))]
		for _, cells := range cellSample(m, seed, 8) {
			checkRevealed(t, group, m, cells)
		}
	})
}

func TestP7ListsOfCellsOfGreaterImages(t *testing.T) {
	t.Parallel()
	for seed, group := range greaterGroups() {
		m := group[scattered(seed, len(group))]
		lists := cellSample(m, seed, 8)
		for i, cells := range lists {
			// All lists of a great group would take too long.
			if len(group) < 100 || i < 3 || (i+seed)%8 == 0 {
				checkRevealed(t, group, m, cells)
			}
		}
	}
}

func TestP7RevealedInTheGreatestGroups(t *testing.T) {
	t.Parallel()
	for _, text := range []string{"##.../.##../..##./...##/#...#", "#..#./.#..#/#..#./.##../..#.#", "..###/#..##/##..#/###../.###.", "###../###../...##/.####/##.##"} {
		m := drawn(text)
		group := groupOf(m)
		for _, cells := range [][]int{nil, {0}, {24}, {0, 24}, {6, 7, 8, 11, 12, 13}, allCells(m)[:24], allCells(m)} {
			checkRevealed(t, group, m, cells)
		}
		checkGreedy(t, group, m)
	}
	if got := impl.CountAgreeing(drawn("##.../.##../..##./...##/#...#"), nil); got != 2040 {
		t.Errorf("CountAgreeing = %d for 2 black cells in each row and column", got)
	}
}

func TestP7LeastRevealIsTheFirstList(t *testing.T) {
	t.Parallel()
	lists := map[int][][]int{}
	for n := 1; n <= 12; n++ {
		lists[n] = cellLists(n)
	}
	eachGroup(1, 12, func(group [][][]int) {
		if len(group[0]) > 3 || len(group[0][0]) > 4 {
			return
		}
		for _, m := range group {
			want := leastIn(group, m, lists[cellsOf(m)])
			got, ok := impl.LeastReveal(m)
			if !ok || !slices.Equal(got, want) {
				t.Fatalf("LeastReveal(%v) = %v, %t, want %v", m, got, ok, want)
			}
			greedy, ok := impl.GreedyReveal(m)
			if !ok || len(greedy) < len(got) || !impl.IsEnough(m, got) || !impl.IsEnough(m, greedy) {
				t.Fatalf("LeastReveal(%v) = %v, GreedyReveal %v, %t", m, got, greedy, ok)
			}
		}
	})
}

// TestP7NoShorterListIsEnough asks IsEnough for all lists that come before that of LeastReveal.
func TestP7NoShorterListIsEnough(t *testing.T) {
	t.Parallel()
	for nRows := 1; nRows <= 3; nRows++ {
		for nCols := 1; nCols <= 4; nCols++ {
			lists := cellLists(nRows * nCols)
			step := max(1, 1<<(nRows*nCols)/300)
			for n := 0; n < 1<<(nRows*nCols); n += step {
				m := ordered(nRows, nCols, n)
				want := slices.IndexFunc(lists, func(cells []int) bool { return impl.IsEnough(m, cells) })
				if got, ok := impl.LeastReveal(m); !ok || !slices.Equal(got, lists[want]) {
					t.Fatalf("LeastReveal(%v) = %v, %t, but IsEnough is true for %v", m, got, ok, lists[want])
				}
			}
		}
	}
}

func TestP9LeastRevealOfGreaterImages(t *testing.T) {
	for nRows := 1; nRows <= impl.MaxSide; nRows++ {
		for nCols := 1; nCols <= impl.MaxSide; nCols++ {
			for _, n := range []int{0, 1, 1<<(nRows*nCols) - 1, scattered(nRows+5*nCols, 1<<(nRows*nCols))} {
				m := ordered(nRows, nCols, n)
				if got, ok := impl.LeastReveal(m); ok != (nRows <= 3 && nCols <= 4) || !ok && len(got) != 0 {
					t.Errorf("LeastReveal(%v) = %v, %t", m, got, ok)
				}
			}
		}
	}
}

func TestP7GreedyRevealIsWhatRevealNextReturns(t *testing.T) {
	t.Parallel()
	seed := 0
	eachGroup(1, 16, func(group [][][]int) {
		seed++
		for i, m := range group {
			if cells := cellsOf(m); cells <= 9 || cells <= 12 && (i+seed)%8 == 0 || (17*i+seed)%300 == 0 {
				checkGreedy(t, group, m)
			}
		}
	})
	for seed, group := range greaterGroups() {
		checkGreedy(t, group, group[scattered(seed, len(group))])
	}
}

func TestP7NoCellIsRevealedOfTheOnlyImage(t *testing.T) {
	t.Parallel()
	seed := 0
	eachGroup(1, 16, func(group [][][]int) {
		m := group[0]
		seed++
		if len(group) > 1 || cellsOf(m) > 9 && seed%20 > 0 {
			return
		}
		if least, ok := impl.LeastReveal(m); len(least) != 0 || ok != (len(m) <= 3 && len(m[0]) <= 4) {
			t.Fatalf("LeastReveal(%v) = %v, %t", m, least, ok)
		}
		if greedy, ok := impl.GreedyReveal(m); len(greedy) != 0 || !ok {
			t.Fatalf("GreedyReveal(%v) = %v, %t", m, greedy, ok)
		}
		for _, cells := range cellSample(m, 1, 4) {
			if got, next := impl.CountAgreeing(m, cells), impl.RevealNext(m, cells); got != 1 || next != -1 || !impl.IsEnough(m, cells) {
				t.Fatalf("CountAgreeing(%v, %v) = %d, RevealNext = %d", m, cells, got, next)
			}
		}
	})
}

// TestP9RevealNextIsTheLeastOfEqualCells also checks that there are images with several such cells.
func TestP9RevealNextIsTheLeastOfEqualCells(t *testing.T) {
	several := 0
	eachGroup(4, 9, func(group [][][]int) {
		m := group[len(group)/2]
		next := impl.RevealNext(m, nil)
		if next == -1 {
			return
		}
		fewest := agreeingIn(group, m, next)
		for cell := range cellsOf(m) {
			left := agreeingIn(group, m, cell)
			if left < fewest || left == fewest && cell < next {
				t.Fatalf("RevealNext(%v, nil) = %d, but the cell %d leaves %d images", m, next, cell, left)
			}
			if left == fewest && cell > next {
				several++
			}
		}
	})
	if several == 0 {
		t.Error("no image has several cells that leave the fewest images")
	}
}

// checkNoReveal checks the results of an image and cells of which one is not valid.
func checkNoReveal(t *testing.T, label string, m [][]int, cells []int) {
	t.Helper()
	if got := impl.CountAgreeing(m, cells); got != -1 {
		t.Errorf("CountAgreeing of %v = %d: %s", cells, got, label)
	}
	if impl.IsEnough(m, cells) {
		t.Errorf("IsEnough of %v is true: %s", cells, label)
	}
	if got := impl.RevealNext(m, cells); got != -1 {
		t.Errorf("RevealNext of %v = %d: %s", cells, got, label)
	}
}

func TestP9RevealedOfInvalidImages(t *testing.T) {
	bad := invalidImages()
	bad["a switch of 2 and 0"] = [][]int{{2, 0}, {0, 2}}
	bad["a switch and a longer row"] = [][]int{{1, 0}, {0, 1}, {1, 0, 1}}
	for label, m := range bad {
		for _, cells := range append([][]int{nil, {}, {0}, {1}, {0, 1}, {0, 1, 2, 3}, {-1}, {1, 0}, {0, 0}, {4}}, farInts) {
			checkNoReveal(t, label, m, cells)
		}
		if got, ok := impl.LeastReveal(m); len(got) != 0 || ok {
			t.Errorf("LeastReveal = %v, %t: %s", got, ok, label)
		}
		if got, ok := impl.GreedyReveal(m); len(got) != 0 || ok {
			t.Errorf("GreedyReveal = %v, %t: %s", got, ok, label)
		}
	}
}

func TestP9RevealedOfInvalidCells(t *testing.T) {
	for nRows := 1; nRows <= impl.MaxSide; nRows++ {
		for nCols := 1; nCols <= impl.MaxSide; nCols++ {
			m := ordered(nRows, nCols, scattered(nRows+5*nCols, 1<<(nRows*nCols)))
			all := allCells(m)
			last, beyond := cellsOf(m)-1, cellsOf(m)
			bad := [][]int{{-1}, {beyond}, {beyond + 1}, {2 * beyond}, {0, 0}, {last, last}, {last, beyond}, {-1, 0}, {-1, last}, append(all, beyond), append([]int{-1}, all...), append([]int{0}, all...), append(slices.Clone(all), last), slices.Repeat([]int{0}, 100), slices.Repeat([]int{last}, 64), farInts, {32}, {63}, {64}, {0, 64}}
			if last > 0 {
				bad = append(bad, []int{last, 0}, []int{1, 0}, []int{0, last, 0}, []int{0, last, last}, append(slices.Clone(all[1:]), 0))
			}
			for _, far := range farInts {
				// 6 and 1000 are no numbers of sides, but 6 is one of a cell.
				if far < 0 || far > last {
					bad = append(bad, []int{far}, []int{0, far}, []int{far, 0}, append(slices.Clone(all), far), append([]int{far}, all...))
				}
			}
			for _, cells := range bad {
				checkNoReveal(t, impl.FormatImage(m), m, cells)
			}
			// All of its cells are valid.
			for _, cells := range [][]int{nil, {}, {0}, {last}, all} {
				if got := impl.CountAgreeing(m, cells); got < 1 {
					t.Errorf("CountAgreeing(%v, %v) = %d", m, cells, got)
				}
			}
		}
	}
}

func TestP9RevealArgumentsStay(t *testing.T) {
	for _, c := range []struct {
		m     [][]int
		cells []int
	}{
		{drawn("#./.#"), nil}, {drawn("#./.#"), []int{0, 1}}, {drawn("#./.#"), []int{3, 1, 1}}, {drawn("#../.#./..#"), []int{1, 3}}, {drawn("#../.#./..#"), []int{8, 4, 0}}, {drawn("..#/.#./#.."), []int{0, 9}}, {drawn("#.##."), []int{4}}, {drawn("...#/..##/##.."), []int{0}},
		{drawn("##.../.##../..##./...##/#...#"), []int{0, 24}}, {numbered(6, 6, 5), []int{0}}, {[][]int{{1, 2}, {0, 1}}, []int{0, 3}}, {[][]int{{1}, {0, 1}}, []int{2}}, {[][]int{}, []int{}}, {[][]int{{1}}, farInts},
	} {
		m, whole := roomy(c.m)
		cells, wholeCells := withRoom(c.cells)
		before, cellsBefore := copied(memory(whole)), slices.Clone(wholeCells)
		impl.CountAgreeing(m, cells)
		impl.IsEnough(m, cells)
		impl.RevealNext(m, cells)
		impl.LeastReveal(m)
		impl.GreedyReveal(m)
		if !same(memory(whole), before) || !slices.Equal(wholeCells, cellsBefore) {
			t.Errorf("the arguments %v and %v or the room behind them have become %v and %v", c.m, c.cells, memory(whole), wholeCells)
		}
	}
}

func TestP9RevealResultsAreNew(t *testing.T) {
	for _, c := range revealedByHand {
		m, whole := roomy(drawn(c.m))
		before := copied(memory(whole))
		for range 3 {
			least, _ := impl.LeastReveal(m)
			greedy, _ := impl.GreedyReveal(m)
			if !slices.Equal(least, c.least) || !slices.Equal(greedy, c.greedy) {
				t.Errorf("LeastReveal(%s) = %v, GreedyReveal %v after earlier results were overwritten, want %v and %v", c.m, least, greedy, c.least, c.greedy)
			}
			checkRowsApart(t, "LeastReveal and GreedyReveal", [][]int{least, greedy})
		}
		if !same(memory(whole), before) {
			t.Errorf("a result for %s is memory of its argument", c.m)
		}
	}
}

// checkCalls calls all functions with what was calculated by hand.
func checkCalls(t *testing.T, m [][]int, count int, least, greedy []int) {
	t.Helper()
	if got := impl.CountAgreeing(m, nil); got != count {
		t.Errorf("CountAgreeing(%v, nil) = %d, want %d", m, got, count)
	}
	if got, _ := impl.LeastReveal(m); !slices.Equal(got, least) {
		t.Errorf("LeastReveal(%v) = %v, want %v", m, got, least)
	}
	if got, ok := impl.GreedyReveal(m); !ok || !slices.Equal(got, greedy) {
		t.Errorf("GreedyReveal(%v) = %v, %t, want %v", m, got, ok, greedy)
	}
	for i, cell := range greedy {
		others := slices.Delete(slices.Clone(greedy), i, i+1)
		if next := impl.RevealNext(m, others); next == -1 || !impl.IsEnough(m, greedy) || impl.IsEnough(m, others) {
			t.Errorf("RevealNext(%v, %v) = %d without %d", m, others, next, cell)
		}
	}
}

func TestP9NoGoroutineOfRevealIsLeftBehind(t *testing.T) {
	checkNoGoroutineLeft(t, func() {
		for _, c := range revealedByHand {
			checkCalls(t, drawn(c.m), c.count, c.least, c.greedy)
		}
	})
}

// TestP9RevealByGoroutines is also run with the race detector, where .ci/run can build it.
func TestP9RevealByGoroutines(t *testing.T) {
	defer runtime.GOMAXPROCS(runtime.GOMAXPROCS(0))
	for _, threads := range []int{1, 2, 3, 8, 32} {
		runtime.GOMAXPROCS(threads)
		for _, c := range revealedByHand {
			m := drawn(c.m)
			// Several calls at once read the same arguments.
			var calls sync.WaitGroup
			for range 8 {
				calls.Go(func() { checkCalls(t, m, c.count, c.least, c.greedy) })
			}
			calls.Wait()
			// A goroutine that still read the arguments would be found here by the race detector.
			for _, row := range m {
				clear(row)
			}
		}
	}
}

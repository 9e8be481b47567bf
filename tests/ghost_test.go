package tests

import (
	"math"
	"slices"
	"testing"

	"loop.example/g00860/impl"
)

// ways returns directions from pairs of DX and DY.
func ways(list ...[2]int) []impl.Direction {
	var all []impl.Direction
	for _, n := range list {
		all = append(all, impl.Direction{DX: n[0], DY: n[1]})
	}
	return all
}

// directionLists returns all lists of different valid directions, in every order.
func directionLists() [][]impl.Direction {
	var all [][]impl.Direction
	shorter := [][]impl.Direction{nil}
	for range impl.MaxDirections {
		var longer [][]impl.Direction
		for _, list := range shorter {
			for _, d := range validDirections {
				if !slices.Contains(list, d) {
					longer = append(longer, append(slices.Clone(list), d))
				}
			}
		}
		all = append(all, longer...)
		shorter = longer
	}
	return all
}

// directionSets returns all lists of different valid directions, in the order of validDirections only.
func directionSets() [][]impl.Direction {
	return slices.DeleteFunc(directionLists(), func(list []impl.Direction) bool {
		return !slices.IsSortedFunc(list, func(a, b impl.Direction) int {
			return slices.Index(validDirections, a) - slices.Index(validDirections, b)
		})
	})
}

// ghostByHand returns the grid of BasicGhost without a limit: for each choice of directions there is 1 or -1 at the place to which all of them lead together.
func ghostByHand(list []impl.Direction) [][]int {
	elements := map[[2]int]int{}
	top, bottom, right := 0, 0, 0
	for choice := range 1 << len(list) {
		y, x, n := 0, 0, 1
		for i, d := range list {
			if choice>>i&1 == 1 {
				y, x, n = y+d.DY, x+d.DX, -n
			}
		}
		elements[[2]int{y, x}] += n
		top, bottom, right = min(top, y), max(bottom, y), max(right, x)
	}
	g := evenMask(bottom-top+1, right+1, 0)
	for place, n := range elements {
		g[place[0]-top][place[1]] = n
	}
	return g
}

func fitsImage(rows, cols int) bool {
	return 1 <= rows && rows <= 5 && 1 <= cols && cols <= 5
}

// ghosts returns all grids of BasicGhost, by hand, with the directions.
func ghosts() ([][][]int, [][]impl.Direction) {
	var grids [][][]int
	var lists [][]impl.Direction
	for _, list := range directionSets() {
		if g := ghostByHand(list); fitsImage(len(g), len(g[0])) {
			grids, lists = append(grids, g), append(lists, list)
		}
	}
	return grids, lists
}

// isZero reports whether all elements are 0.
func isZero(g [][]int) bool {
	return !slices.ContainsFunc(slices.Concat(g...), func(n int) bool { return n != 0 })
}

// isGhostByHand expects a valid grid and valid directions.
func isGhostByHand(g [][]int, list []impl.Direction) bool {
	for _, d := range list {
		if !isZero([][]int{sumsOn(g, d)}) {
			return false
		}
	}
	return !isZero(g)
}

// padded returns the grid of this size that has g at this place and 0 elsewhere.
func padded(g [][]int, rows, cols, y, x int) [][]int {
	p := evenMask(rows, cols, 0)
	for v, row := range g {
		copy(p[y+v][x:], row)
	}
	return p
}

// eachPlace calls check for all sizes of images and all places at which g lies within.
func eachPlace(g [][]int, check func(rows, cols, y, x int)) {
	for rows := len(g); rows <= impl.MaxSide; rows++ {
		for cols := len(g[0]); cols <= impl.MaxSide; cols++ {
			for y := range rows - len(g) + 1 {
				for x := range cols - len(g[0]) + 1 {
					check(rows, cols, y, x)
				}
			}
		}
	}
}

// difference expects two images of the same size.
func difference(a, b [][]int) [][]int {
	d := copied(a)
	for y, row := range b {
		for x, cell := range row {
			d[y][x] -= cell
		}
	}
	return d
}

// addedByHand looks for each element of g for the cell that it is added to.
func addedByHand(m, g [][]int, y, x int) ([][]int, bool) {
	p := copied(m)
	found := 0
	for v, row := range m {
		for u := range row {
			for gv, elements := range g {
				for gu, n := range elements {
					if v-gv == y && u-gu == x {
						p[v][u] += n
						found++
					}
				}
			}
		}
	}
	bad := slices.ContainsFunc(slices.Concat(p...), func(n int) bool { return n != 0 && n != 1 })
	return p, !bad && found == len(slices.Concat(g...))
}

// checkAdded checks AddGhost against addedByHand, for a valid image and a grid of the size of an image.
func checkAdded(t *testing.T, m, g [][]int, y, x int) bool {
	t.Helper()
	want, wanted := addedByHand(m, g, y, x)
	got, ok := impl.AddGhost(m, g, y, x)
	if ok != wanted || ok && !same(got, want) || !ok && len(got) != 0 {
		t.Fatalf("AddGhost(%v, %v, %d, %d) = %v, %t, want %v, %t", m, g, y, x, got, ok, want, wanted)
	}
	return ok
}

// fitting returns an image to which g can be added at this place: its other cells follow no rule.
func fitting(g [][]int, rows, cols, y, x, seed int) [][]int {
	m := ordered(rows, cols, scattered(seed, 1<<(rows*cols)))
	for v, elements := range g {
		for u, n := range elements {
			if n != 0 {
				m[y+v][x+u] = (1 - n) / 2
			}
		}
	}
	return m
}

func TestP9MaxDirections(t *testing.T) {
	if impl.MaxDirections != 4 {
		t.Errorf("MaxDirections is %d", impl.MaxDirections)
	}
}

func TestP9BasicGhostOfAllLists(t *testing.T) {
	t.Parallel()
	for _, list := range directionLists() {
		want := ghostByHand(list)
		if !impl.DirectionsOk(list) {
			t.Fatalf("DirectionsOk(%v) is false", list)
		}
		rows, cols := impl.GhostSize(list)
		if rows != len(want) || cols != len(want[0]) {
			t.Fatalf("GhostSize(%v) = %d, %d, want %d, %d", list, rows, cols, len(want), len(want[0]))
		}
		got, ok := impl.BasicGhost(list)
		if ok != fitsImage(rows, cols) || ok && !same(got, want) || !ok && len(got) != 0 {
			t.Fatalf("BasicGhost(%v) = %v, %t, want %v", list, got, ok, want)
		}
	}
}

func TestP6BasicGhostHasNoSumsInItsDirectionsOnly(t *testing.T) {
	t.Parallel()
	count := 0
	for _, list := range directionLists() {
		g, ok := impl.BasicGhost(list)
		rows, cols := impl.GhostSize(list)
		if ok != (rows <= impl.MaxSide && cols <= impl.MaxSide) {
			t.Fatalf("BasicGhost(%v) is %t, but GhostSize is %d, %d", list, ok, rows, cols)
		}
		if !ok {
			continue
		}
		count++
		if len(g) != rows || len(g[0]) != cols || !impl.IsGhost(g, list) {
			t.Fatalf("BasicGhost(%v) = %v, which has another size than %d, %d or is no ghost", list, g, rows, cols)
		}
		for _, d := range validDirections {
			if got := impl.IsGhost(g, []impl.Direction{d}); got != slices.Contains(list, d) {
				t.Fatalf("IsGhost(%v, %v) = %t, but it is the ghost of %v", g, d, got, list)
			}
		}
	}
	if count < 1000 {
		t.Errorf("only %d lists have a ghost", count)
	}
}

func TestP9BasicGhostInEveryOrder(t *testing.T) {
	t.Parallel()
	known := map[string][][]int{}
	for _, list := range directionLists() {
		sorted := slices.SortedFunc(slices.Values(list), func(a, b impl.Direction) int {
			return slices.Index(validDirections, a) - slices.Index(validDirections, b)
		})
		label := ""
		for _, d := range sorted {
			label += impl.FormatInt(d.DX) + "," + impl.FormatInt(d.DY) + " "
		}
		got, ok := impl.BasicGhost(list)
		if first, seen := known[label]; seen && !same(got, first) {
			t.Fatalf("BasicGhost(%v) = %v, %t, but in another order %v", list, got, ok, first)
		}
		known[label] = got
	}
}

func TestP9BasicGhost(t *testing.T) {
	for _, c := range []struct {
		list []impl.Direction
		want [][]int
	}{
		// One direction, also with DX 0, with DY 0 and with negative DY.
		{ways([2]int{1, 0}), [][]int{{1, -1}}}, {ways([2]int{0, 1}), [][]int{{1}, {-1}}}, {ways([2]int{1, 1}), [][]int{{1, 0}, {0, -1}}}, {ways([2]int{1, -1}), [][]int{{0, -1}, {1, 0}}},
		{ways([2]int{3, 2}), [][]int{{1, 0, 0, 0}, {0, 0, 0, 0}, {0, 0, 0, -1}}}, {ways([2]int{3, -2}), [][]int{{0, 0, 0, -1}, {0, 0, 0, 0}, {1, 0, 0, 0}}},
		{ways([2]int{1, 3}), [][]int{{1, 0}, {0, 0}, {0, 0}, {0, -1}}}, {ways([2]int{2, -3}), [][]int{{0, 0, -1}, {0, 0, 0}, {0, 0, 0}, {1, 0, 0}}},
		// Two.
		{ways([2]int{1, 0}, [2]int{0, 1}), [][]int{{1, -1}, {-1, 1}}}, {ways([2]int{0, 1}, [2]int{1, 0}), [][]int{{1, -1}, {-1, 1}}}, {ways([2]int{1, 0}, [2]int{1, -1}), [][]int{{0, -1, 1}, {1, -1, 0}}},
		{ways([2]int{1, -1}, [2]int{0, 1}), [][]int{{0, -1}, {1, 1}, {-1, 0}}}, {ways([2]int{1, 1}, [2]int{1, -1}), [][]int{{0, -1, 0}, {1, 0, 1}, {0, -1, 0}}}, {ways([2]int{1, -1}, [2]int{1, 1}), [][]int{{0, -1, 0}, {1, 0, 1}, {0, -1, 0}}},
		{ways([2]int{1, 0}, [2]int{2, 1}), [][]int{{1, -1, 0, 0}, {0, 0, -1, 1}}}, {ways([2]int{1, -2}, [2]int{2, -1}), [][]int{{0, 0, 0, 1}, {0, -1, 0, 0}, {0, 0, -1, 0}, {1, 0, 0, 0}}},
		// Three and four, where elements cancel or add up.
		{ways([2]int{1, 0}, [2]int{0, 1}, [2]int{1, 1}), [][]int{{1, -1, 0}, {-1, 0, 1}, {0, 1, -1}}}, {ways([2]int{1, -1}, [2]int{0, 1}, [2]int{1, 0}), [][]int{{0, -1, 1}, {1, 0, -1}, {-1, 1, 0}}},
		{ways([2]int{1, 0}, [2]int{1, 1}, [2]int{1, -1}), [][]int{{0, -1, 1, 0}, {1, -1, 1, -1}, {0, -1, 1, 0}}}, {ways([2]int{1, 0}, [2]int{0, 1}, [2]int{1, 1}, [2]int{1, -1}), [][]int{{0, -1, 1, 0}, {1, 0, 0, -1}, {-1, 0, 0, 1}, {0, 1, -1, 0}}},
		{ways([2]int{1, 1}, [2]int{0, 1}, [2]int{2, -1}, [2]int{1, -1}), [][]int{{0, 0, 0, 1, 0}, {0, -1, -1, -1, -1}, {1, 1, 2, 1, 1}, {-1, -1, -1, -1, 0}, {0, 1, 0, 0, 0}}},
		// Exactly MaxSide columns, and rows.
		{ways([2]int{3, 1}, [2]int{1, 0}), [][]int{{1, -1, 0, 0, 0}, {0, 0, 0, -1, 1}}}, {ways([2]int{3, -1}, [2]int{1, 0}), [][]int{{0, 0, 0, -1, 1}, {1, -1, 0, 0, 0}}},
		{ways([2]int{1, 3}, [2]int{0, 1}), [][]int{{1, 0}, {-1, 0}, {0, 0}, {0, -1}, {0, 1}}}, {ways([2]int{1, -3}, [2]int{0, 1}), [][]int{{0, -1}, {0, 1}, {0, 0}, {1, 0}, {-1, 0}}},
	} {
		if got, ok := impl.BasicGhost(c.list); !ok || !same(got, c.want) {
			t.Errorf("BasicGhost(%v) = %v, %t, want %v", c.list, got, ok, c.want)
		}
		if !impl.IsGhost(c.want, c.list) {
			t.Errorf("IsGhost(%v, %v) is false", c.want, c.list)
		}
	}
}

func TestP9GhostSize(t *testing.T) {
	for _, c := range []struct {
		list       []impl.Direction
		rows, cols int
		ok         bool
	}{
		{ways([2]int{1, 0}), 1, 2, true}, {ways([2]int{0, 1}), 2, 1, true}, {ways([2]int{3, -2}), 3, 4, true}, {ways([2]int{2, 3}), 4, 3, true}, {ways([2]int{1, 0}, [2]int{1, -1}), 2, 3, true},
		// MaxSide columns or rows, and one more.
		{ways([2]int{3, 1}, [2]int{1, 0}), 2, 5, true}, {ways([2]int{3, 1}, [2]int{2, 1}), 3, 6, false}, {ways([2]int{3, 1}, [2]int{1, 0}, [2]int{0, 1}), 3, 5, true}, {ways([2]int{3, 1}, [2]int{1, 0}, [2]int{1, 1}), 3, 6, false},
		{ways([2]int{1, 3}, [2]int{0, 1}), 5, 2, true}, {ways([2]int{1, 3}, [2]int{1, -2}), 6, 3, false}, {ways([2]int{1, 2}, [2]int{1, -2}), 5, 3, true}, {ways([2]int{1, -3}, [2]int{1, -1}), 5, 3, true}, {ways([2]int{1, -3}, [2]int{1, -1}, [2]int{0, 1}), 6, 3, false},
		{ways([2]int{3, 1}, [2]int{3, -1}), 3, 7, false}, {ways([2]int{1, 1}, [2]int{0, 1}, [2]int{2, -1}, [2]int{1, -1}), 5, 5, true}, {ways([2]int{1, 2}, [2]int{3, -2}), 5, 5, true}, {ways([2]int{2, 3}, [2]int{3, -2}), 6, 6, false},
		// The greatest ones.
		{ways([2]int{3, 2}, [2]int{3, -2}, [2]int{3, 1}, [2]int{3, -1}), 7, 13, false}, {ways([2]int{2, 3}, [2]int{2, -3}, [2]int{1, 3}, [2]int{1, -3}), 13, 7, false}, {ways([2]int{3, 2}, [2]int{3, -2}, [2]int{2, 3}, [2]int{2, -3}), 11, 11, false},
	} {
		if rows, cols := impl.GhostSize(c.list); rows != c.rows || cols != c.cols {
			t.Errorf("GhostSize(%v) = %d, %d, want %d, %d", c.list, rows, cols, c.rows, c.cols)
		}
		if g, ok := impl.BasicGhost(c.list); ok != c.ok || !ok && len(g) != 0 {
			t.Errorf("BasicGhost(%v) = %v, %t", c.list, g, ok)
		}
	}
}

func TestP6GhostsStayGhostsWithinGreaterGrids(t *testing.T) {
	t.Parallel()
	grids, lists := ghosts()
	for i, g := range grids {
		eachPlace(g, func(rows, cols, y, x int) {
			p := padded(g, rows, cols, y, x)
			if !impl.IsGhost(p, lists[i]) {
				t.Fatalf("IsGhost(%v, %v) is false", p, lists[i])
			}
			// One element more or less, and its sums are not all 0.
			p[scattered(i+x, rows)][scattered(i+y, cols)] += 1 - 2*scattered(i, 2)
			if impl.IsGhost(p, lists[i]) {
				t.Fatalf("IsGhost(%v, %v) is true", p, lists[i])
			}
		})
	}
}

// cellsOnLines returns for each line in each direction the set of its cells, as bits.
func cellsOnLines(rows, cols int, list []impl.Direction) []int {
	var sets []int
	for _, d := range list {
		lines := make([]int, linesOf(rows, cols, d))
		for cell := range rows * cols {
			lines[numberOf(rows, cols, d, cell/cols, cell%cols)] |= 1 << cell
		}
		sets = append(sets, lines...)
	}
	return sets
}

// onlyEmptyIsEven reports whether every set of cells but the empty one has an odd number of cells on one of the lines, which have full rank modulo 2 then.
func onlyEmptyIsEven(lines []int, cells int) bool {
	lines = slices.Clone(lines)
	for cell := range cells {
		bit := 1 << cell
		i := slices.IndexFunc(lines, func(set int) bool { return set&bit != 0 })
		if i < 0 {
			return false
		}
		with := lines[i]
		for j, set := range lines {
			if set&bit != 0 {
				lines[j] ^= with
			}
		}
	}
	return true
}

func TestP6NoGhostFitsWhereImagesAreDetermined(t *testing.T) {
	t.Parallel()
	// The cells in which two images with the same sums differ are an even number on every line: with no such cells but none, the images are equal. This is so exactly where no ghost fits.
	sets := directionSets()
	for rows := 1; rows <= impl.MaxSide; rows++ {
		for cols := 1; cols <= impl.MaxSide; cols++ {
			lines := map[impl.Direction][]int{}
			for _, d := range validDirections {
				lines[d] = cellsOnLines(rows, cols, []impl.Direction{d})
			}
			for _, list := range sets {
				var all []int
				for _, d := range list {
					all = append(all, lines[d]...)
				}
				got := impl.IsDetermined(rows, cols, list)
				if want := onlyEmptyIsEven(all, rows*cols); got != want {
					t.Fatalf("IsDetermined(%d, %d, %v) = %t", rows, cols, list, got)
				}
				if got {
					continue
				}
				g, ok := impl.BasicGhost(list)
				if !ok || len(g) > rows || len(g[0]) > cols || !impl.IsGhost(padded(g, rows, cols, rows-len(g), cols-len(g[0])), list) {
					t.Fatalf("IsDetermined(%d, %d, %v) is false, but %v does not fit or is no ghost", rows, cols, list, g)
				}
			}
		}
	}
}

// namedSums returns for each direction a number for each image of this size, the same for images with the same LineSums only.
func namedSums(rows, cols int) map[impl.Direction][]int {
	names := map[impl.Direction][]int{}
	for _, d := range validDirections {
		known := map[[21]int]int{}
		for n := range 1 << (rows * cols) {
			var key [21]int
			copy(key[:], impl.LineSums(ordered(rows, cols, n), d))
			if _, ok := known[key]; !ok {
				known[key] = len(known)
			}
			names[d] = append(names[d], known[key])
		}
	}
	return names
}

// twoWithTheSameSums returns two images of this size, by their numbers, with the same sums in all directions.
func twoWithTheSameSums(names map[impl.Direction][]int, list []impl.Direction, count int) (int, int, bool) {
	known := map[[impl.MaxDirections]int]int{}
	for n := range count {
		var key [impl.MaxDirections]int
		for i, d := range list {
			key[i] = names[d][n]
		}
		if other, ok := known[key]; ok {
			return other, n, true
		}
		known[key] = n
	}
	return 0, 0, false
}

func TestP6ImagesOfSmallSizesAreDetermined(t *testing.T) {
	t.Parallel()
	sets := directionSets()
	for rows := 1; rows <= impl.MaxSide; rows++ {
		for cols := 1; cols <= impl.MaxSide; cols++ {
			if rows*cols > 12 {
				continue
			}
			names := namedSums(rows, cols)
			for i, list := range sets {
				// Of many lists for greater images only a part is tried.
				if rows*cols > 9 && len(list) > 2 && i%9 != 0 {
					continue
				}
				a, b, found := twoWithTheSameSums(names, list, 1<<(rows*cols))
				if found && impl.IsDetermined(rows, cols, list) {
					t.Fatalf("IsDetermined(%d, %d, %v) is true, but %v and %v have the same sums", rows, cols, list, ordered(rows, cols, a), ordered(rows, cols, b))
				}
				if found && !impl.IsGhost(difference(ordered(rows, cols, a), ordered(rows, cols, b)), list) {
					t.Fatalf("%v and %v have the same sums for %v, but their difference is no ghost", ordered(rows, cols, a), ordered(rows, cols, b), list)
				}
				// A ghost of 1, 0 and -1 that fits is such a difference.
				if g := ghostByHand(list); !found && len(g) <= rows && len(g[0]) <= cols && slices.Max(slices.Concat(g...)) == 1 && slices.Min(slices.Concat(g...)) == -1 {
					t.Fatalf("no two images of %d rows and %d columns have the same LineSums for %v, but %v fits", rows, cols, list, g)
				}
			}
		}
	}
}

func TestP9IsDeterminedForAllSizes(t *testing.T) {
	t.Parallel()
	for i, list := range directionLists() {
		if len(list) > 2 && i%7 != 0 {
			continue
		}
		g := ghostByHand(list)
		for rows := -1; rows <= impl.MaxSide+2; rows++ {
			for cols := -1; cols <= impl.MaxSide+2; cols++ {
				want := fitsImage(rows, cols) && (rows < len(g) || cols < len(g[0]))
				if got := impl.IsDetermined(rows, cols, list); got != want {
					t.Fatalf("IsDetermined(%d, %d, %v) = %t, but the ghost is %v", rows, cols, list, got, g)
				}
			}
		}
	}
}

func TestP9IsDetermined(t *testing.T) {
	both := ways([2]int{1, 0}, [2]int{0, 1})
	for _, c := range []struct {
		rows, cols int
		list       []impl.Direction
		want       bool
	}{
		// The ghost has 2 rows and 2 columns.
		{1, 1, both, true}, {1, 2, both, true}, {2, 1, both, true}, {2, 2, both, false}, {1, 5, both, true}, {5, 1, both, true}, {2, 3, both, false}, {3, 2, both, false}, {3, 3, both, false}, {5, 5, both, false},
		// 1 row and 2 columns, and 2 rows and 1 column: no size with fewer rows, or columns, is that of an image.
		{1, 1, ways([2]int{1, 0}), true}, {5, 1, ways([2]int{1, 0}), true}, {1, 2, ways([2]int{1, 0}), false}, {1, 3, ways([2]int{1, 0}), false}, {2, 2, ways([2]int{1, 0}), false}, {0, 2, ways([2]int{1, 0}), false}, {0, 1, ways([2]int{1, 0}), false},
		{1, 1, ways([2]int{0, 1}), true}, {1, 5, ways([2]int{0, 1}), true}, {2, 1, ways([2]int{0, 1}), false}, {3, 1, ways([2]int{0, 1}), false}, {2, 0, ways([2]int{0, 1}), false}, {1, 0, ways([2]int{0, 1}), false},
		// 3 rows and 4 columns.
		{2, 5, ways([2]int{3, -2}), true}, {5, 3, ways([2]int{3, -2}), true}, {2, 3, ways([2]int{3, -2}), true}, {3, 3, ways([2]int{3, -2}), true}, {2, 4, ways([2]int{3, -2}), true}, {3, 4, ways([2]int{3, -2}), false}, {4, 4, ways([2]int{3, -2}), false}, {3, 5, ways([2]int{3, -2}), false}, {4, 5, ways([2]int{3, -2}), false},
		// 5 rows and 3 columns.
		{4, 3, ways([2]int{1, 3}, [2]int{1, -1}), true}, {5, 2, ways([2]int{1, 3}, [2]int{1, -1}), true}, {5, 3, ways([2]int{1, 3}, [2]int{1, -1}), false}, {5, 4, ways([2]int{1, 3}, [2]int{1, -1}), false}, {6, 2, ways([2]int{1, 3}, [2]int{1, -1}), false},
		// 6 columns, which no image has, and as many rows as an image can have.
		{5, 5, ways([2]int{3, 1}, [2]int{2, 1}), true}, {1, 1, ways([2]int{3, 1}, [2]int{2, 1}), true}, {5, 6, ways([2]int{3, 1}, [2]int{2, 1}), false}, {6, 5, ways([2]int{3, 1}, [2]int{2, 1}), false}, {5, 7, ways([2]int{3, 1}, [2]int{2, 1}), false}, {0, 5, ways([2]int{3, 1}, [2]int{2, 1}), false}, {5, 0, ways([2]int{3, 1}, [2]int{2, 1}), false}, {-1, -1, ways([2]int{3, 1}, [2]int{2, 1}), false},
		{5, 5, ways([2]int{1, 1}, [2]int{0, 1}, [2]int{2, -1}, [2]int{1, -1}), false}, {4, 5, ways([2]int{1, 1}, [2]int{0, 1}, [2]int{2, -1}, [2]int{1, -1}), true}, {5, 4, ways([2]int{1, 1}, [2]int{0, 1}, [2]int{2, -1}, [2]int{1, -1}), true},
		{5, 5, ways([2]int{3, 2}, [2]int{3, -2}, [2]int{2, 3}, [2]int{2, -3}), true},
	} {
		if got := impl.IsDetermined(c.rows, c.cols, c.list); got != c.want {
			t.Errorf("IsDetermined(%d, %d, %v) = %t", c.rows, c.cols, c.list, got)
		}
	}
}

func TestP9IsDeterminedOfFarSizes(t *testing.T) {
	for _, list := range [][]impl.Direction{ways([2]int{1, 0}), ways([2]int{0, 1}), ways([2]int{1, 0}, [2]int{0, 1}), ways([2]int{3, 1}, [2]int{3, -1}), ways([2]int{3, 2}, [2]int{3, -2}, [2]int{2, 3}, [2]int{2, -3})} {
		for _, n := range append([]int{0}, farInts...) {
			for _, size := range [][2]int{{n, 1}, {1, n}, {n, impl.MaxSide}, {impl.MaxSide, n}, {n, n}} {
				if impl.IsDetermined(size[0], size[1], list) {
					t.Errorf("IsDetermined(%d, %d, %v) is true", size[0], size[1], list)
				}
			}
		}
	}
}

func TestP6DifferencesOfImagesWithTheSameSums(t *testing.T) {
	t.Parallel()
	both := ways([2]int{1, 0}, [2]int{0, 1})
	eachGroup(1, 9, func(group [][][]int) {
		for _, a := range group {
			for _, b := range group {
				d := difference(a, b)
				if got := impl.IsGhost(d, both); got == same(a, b) || got == isZero(d) {
					t.Fatalf("IsGhost(%v, %v) = %t, but it is the difference of %v and %v", d, both, got, a, b)
				}
			}
		}
	})
	for i, group := range greaterGroups() {
		for n := range 200 {
			a, b := group[scattered(i+3*n, len(group))], group[scattered(i+5*n+1, len(group))]
			d := difference(a, b)
			if got := impl.IsGhost(d, both); got == same(a, b) {
				t.Fatalf("IsGhost(%v, %v) = %t, but it is the difference of %v and %v", d, both, got, a, b)
			}
		}
	}
}

func TestP6DifferencesOfImagesWithOtherSums(t *testing.T) {
	t.Parallel()
	both := ways([2]int{1, 0}, [2]int{0, 1})
	for _, size := range [][2]int{{1, 1}, {1, 4}, {4, 1}, {2, 2}, {2, 3}, {3, 2}, {2, 4}, {4, 2}} {
		count := 1 << (size[0] * size[1])
		for i := range count * count {
			a, b := ordered(size[0], size[1], i/count), ordered(size[0], size[1], i%count)
			d := difference(a, b)
			if got := impl.IsGhost(d, both); got != (impl.SameSums(a, b) && !same(a, b)) {
				t.Fatalf("IsGhost(%v, %v) = %t, but it is the difference of %v and %v", d, both, got, a, b)
			}
		}
	}
}

func TestP9IsGhostOfAllSmallGrids(t *testing.T) {
	t.Parallel()
	lists := [][]impl.Direction{ways([2]int{1, 0}, [2]int{0, 1}), ways([2]int{1, -1}, [2]int{1, 0}), ways([2]int{1, 1}, [2]int{1, -1}), ways([2]int{1, 0}, [2]int{0, 1}, [2]int{1, 1}), ways([2]int{2, -1}, [2]int{1, 0}, [2]int{0, 1}, [2]int{1, 2}), ways([2]int{1, 2}, [2]int{2, 1})}
	for _, d := range validDirections {
		lists = append(lists, []impl.Direction{d})
	}
	for _, size := range [][2]int{{1, 1}, {1, 4}, {4, 1}, {1, 5}, {5, 1}, {2, 2}, {2, 3}, {3, 2}, {2, 4}, {4, 2}, {3, 3}} {
		rows, cols := size[0], size[1]
		for n := range int(math.Pow(3, float64(rows*cols))) {
			g := numberedWeight(rows, cols, 1, n)
			for i, list := range lists {
				if rows*cols > 6 && i != n%len(lists) {
					continue
				}
				if got, want := impl.IsGhost(g, list), isGhostByHand(g, list); got != want {
					t.Fatalf("IsGhost(%v, %v) = %t", g, list, got)
				}
			}
		}
	}
}

func TestP9IsGhost(t *testing.T) {
	for _, c := range []struct {
		g    [][]int
		list []impl.Direction
		want bool
	}{
		{[][]int{{1, -1}}, ways([2]int{1, 0}), true}, {[][]int{{1, -1}}, ways([2]int{0, 1}), false}, {[][]int{{1, -1}}, ways([2]int{1, 0}, [2]int{0, 1}), false}, {[][]int{{1, -1}}, ways([2]int{0, 1}, [2]int{1, 0}), false},
		{[][]int{{1}, {-1}}, ways([2]int{0, 1}), true}, {[][]int{{1}, {-1}}, ways([2]int{1, 0}), false},
		{[][]int{{1, -1}, {-1, 1}}, ways([2]int{1, 0}, [2]int{0, 1}), true}, {[][]int{{1, -1}, {-1, 1}}, ways([2]int{1, 0}, [2]int{0, 1}, [2]int{1, 1}), false}, {[][]int{{1, -1}, {-1, 1}}, ways([2]int{1, 1}, [2]int{1, 0}, [2]int{0, 1}), false}, {[][]int{{1, -1}, {1, -1}}, ways([2]int{1, 0}, [2]int{0, 1}), false},
		{[][]int{{1, -1}, {-1, 0}}, ways([2]int{1, 0}, [2]int{0, 1}), false},
		// No element is 0, or only one row is not.
		{[][]int{{1, -2, 1}, {-2, 4, -2}, {1, -2, 1}}, ways([2]int{1, 0}, [2]int{0, 1}), true}, {[][]int{{0, 0}, {3, -3}}, ways([2]int{1, 0}), true}, {[][]int{{3, -3}, {0, 0}}, ways([2]int{1, 0}), true}, {[][]int{{0, 0, 0, 0, 0}, {0, 0, 0, 0, 0}, {0, 0, 0, 0, 0}, {0, 0, 0, 0, 0}, {0, 0, 0, -1, 1}}, ways([2]int{1, 0}), true},
		// 0 everywhere.
		{[][]int{{0}}, ways([2]int{1, 0}), false}, {[][]int{{0}}, ways([2]int{1, 0}, [2]int{0, 1}), false}, {[][]int{{0, 0}, {0, 0}}, ways([2]int{1, 0}, [2]int{0, 1}), false}, {evenWeight(5, 5, 0), ways([2]int{3, 2}, [2]int{1, -1}), false},
		// The greatest elements, and one more.
		{[][]int{{100, -100}}, ways([2]int{1, 0}), true}, {[][]int{{-100, 100}, {100, -100}}, ways([2]int{1, 0}, [2]int{0, 1}), true}, {[][]int{{101, -101}}, ways([2]int{1, 0}), false}, {[][]int{{100, -101, 1}}, ways([2]int{1, 0}), false}, {[][]int{{-100, 101, -1}}, ways([2]int{1, 0}), false},
		{[][]int{{math.MaxInt, -math.MaxInt}}, ways([2]int{1, 0}), false}, {[][]int{{math.MinInt, math.MinInt}}, ways([2]int{1, 0}), false}, {[][]int{{math.MinInt, math.MaxInt, 1}}, ways([2]int{1, 0}), false},
		// As the sum of all elements is 0, some are; the sums of lines are not.
		{[][]int{{1, 0}, {0, -1}}, ways([2]int{1, 0}), false}, {[][]int{{1, 0}, {0, -1}}, ways([2]int{1, -1}), false}, {[][]int{{1, 0}, {0, -1}}, ways([2]int{1, 1}), true}, {[][]int{{0, -1}, {1, 0}}, ways([2]int{1, -1}), true}, {[][]int{{0, -1}, {1, 0}}, ways([2]int{1, 1}), false},
		// A grid that has each cell on a line of its own.
		{[][]int{{1, -1}, {-1, 1}}, ways([2]int{3, 2}), false}, {[][]int{{0, 0}, {0, 0}}, ways([2]int{3, 2}), false},
	} {
		if got := impl.IsGhost(c.g, c.list); got != c.want {
			t.Errorf("IsGhost(%v, %v) = %t", c.g, c.list, got)
		}
	}
}

func TestP9GridSums(t *testing.T) {
	for _, c := range []struct {
		g      [][]int
		dx, dy int
		want   []int
	}{
		{[][]int{{0}}, 1, 0, []int{0}}, {[][]int{{-7}}, 3, -2, []int{-7}}, {[][]int{{1, -1}, {-1, 1}}, 1, 1, []int{-1, 2, -1}}, {[][]int{{1, -1}, {-1, 1}}, 1, -1, []int{1, -2, 1}},
		{[][]int{{1, 2, 3}, {4, 5, 6}}, 1, 0, []int{6, 15}}, {[][]int{{1, 2, 3}, {4, 5, 6}}, 0, 1, []int{9, 7, 5}}, {[][]int{{1, 2, 3}, {4, 5, 6}}, 1, 1, []int{3, 8, 6, 4}}, {[][]int{{1, 2, 3}, {4, 5, 6}}, 1, -1, []int{1, 6, 8, 6}}, {[][]int{{1, 2, 3}, {4, 5, 6}}, 2, 1, []int{3, 2, 7, 5, 4}},
		// 1 row and 1 column: numbers without cells have the sum 0.
		{[][]int{{1, -2, 3}}, 1, 3, []int{3, 0, 0, -2, 0, 0, 1}}, {[][]int{{1}, {-2}, {3}}, 3, 1, []int{1, 0, 0, -2, 0, 0, 3}}, {[][]int{{100, 100, 100, 100, 100}}, 1, 0, []int{500}}, {[][]int{{-100}, {-100}, {-100}, {-100}, {-100}}, 0, 1, []int{-500}}, {[][]int{{100, -100, 0, 1, -1}}, 0, 1, []int{-1, 1, 0, -100, 100}},
		{[][]int{{100}, {-100}}, 1, 0, []int{100, -100}}, {[][]int{{100}, {-100}}, 0, 1, []int{0}},
	} {
		if got := impl.GridSums(c.g, impl.Direction{DX: c.dx, DY: c.dy}); !slices.Equal(got, c.want) {
			t.Errorf("GridSums(%v, {%d, %d}) = %v, want %v", c.g, c.dx, c.dy, got, c.want)
		}
	}
}

// gridsOf returns grids of a size with elements of all kinds.
func gridsOf(rows, cols int) [][][]int {
	grids := [][][]int{evenWeight(rows, cols, 0), evenWeight(rows, cols, 1), evenWeight(rows, cols, -1), evenWeight(rows, cols, 100), evenWeight(rows, cols, -100)}
	for seed := range 20 {
		grids = append(grids, scatteredWeight(rows, cols, 100, seed), scatteredWeight(rows, cols, 1, seed), scatteredWeight(rows, cols, 2, seed))
	}
	return grids
}

func TestP9GridSumsOfManyGrids(t *testing.T) {
	for rows := 1; rows <= impl.MaxSide; rows++ {
		for cols := 1; cols <= impl.MaxSide; cols++ {
			for _, g := range gridsOf(rows, cols) {
				for _, d := range validDirections {
					got := impl.GridSums(g, d)
					if want := sumsOn(g, d); !slices.Equal(got, want) || len(got) != impl.CountLines(rows, cols, d) {
						t.Fatalf("GridSums(%v, %v) = %v, want %v", g, d, got, want)
					}
					if total(got) != total(slices.Concat(g...)) {
						t.Fatalf("GridSums(%v, %v) = %v do not add up to the sum of all elements", g, d, got)
					}
				}
			}
		}
	}
}

func TestP1GridSumsOfImagesAreTheirLineSums(t *testing.T) {
	for _, m := range manyImages() {
		for _, d := range validDirections {
			got, want := impl.GridSums(m, d), impl.LineSums(m, d)
			if !slices.Equal(got, want) || len(got) == 0 || total(got) != impl.CountBlack(m) || total(want) != impl.CountBlack(m) {
				t.Fatalf("GridSums(%v, %v) = %v, LineSums = %v", m, d, got, want)
			}
		}
	}
}

func TestP9GridSumsOfEveryElement(t *testing.T) {
	for rows := 1; rows <= impl.MaxSide; rows++ {
		for cols := 1; cols <= impl.MaxSide; cols++ {
			for _, d := range validDirections {
				for cell := range rows * cols {
					for _, n := range append([]int{100, -100, 101, -101, 1, -1}, farInts...) {
						g := evenWeight(rows, cols, 0)
						g[cell/cols][cell%cols] = n
						var want []int
						if -100 <= n && n <= 100 {
							want = sumsOn(g, d)
						}
						if got := impl.GridSums(g, d); !slices.Equal(got, want) {
							t.Fatalf("GridSums(%v, %v) = %v, want %v", g, d, got, want)
						}
					}
				}
			}
		}
	}
}

func TestP9GridSumsAddUp(t *testing.T) {
	for rows := 1; rows <= impl.MaxSide; rows++ {
		for cols := 1; cols <= impl.MaxSide; cols++ {
			for seed := range 10 {
				a, b := scatteredWeight(rows, cols, 50, seed), scatteredWeight(rows, cols, 50, seed+100)
				for _, d := range validDirections {
					want := impl.GridSums(a, d)
					for i, n := range impl.GridSums(b, d) {
						want[i] -= n
					}
					if got := impl.GridSums(difference(a, b), d); !slices.Equal(got, want) {
						t.Fatalf("GridSums of the difference of %v and %v for %v = %v, want %v", a, b, d, got, want)
					}
				}
			}
		}
	}
}

// invalidLists returns lists of directions that are not valid, each for one reason.
func invalidLists() map[string][]impl.Direction {
	bad := map[string][]impl.Direction{
		"nil": nil, "empty": {}, "the zero value": {{}}, "MaxDirections + 1": validDirections[:impl.MaxDirections+1], "all": validDirections, "many": slices.Repeat(validDirections, 100),
		"MaxDirections + 1 of one kind": slices.Repeat(ways([2]int{1, 0}), impl.MaxDirections+1), "the same 1000 times": slices.Repeat(ways([2]int{1, 1}), 1000),
	}
	for i, d := range validDirections {
		label := impl.FormatInt(i)
		other, third := validDirections[(i+1)%len(validDirections)], validDirections[(i+5)%len(validDirections)]
		bad["twice "+label] = []impl.Direction{d, d}
		bad["first and last "+label] = []impl.Direction{d, other, d}
		bad["first and last of four "+label] = []impl.Direction{d, other, third, d}
		bad["first two of four "+label] = []impl.Direction{d, d, other, third}
		bad["last two of four "+label] = []impl.Direction{other, third, d, d}
		bad["middle two of four "+label] = []impl.Direction{other, d, d, third}
		bad["two pairs "+label] = []impl.Direction{d, other, d, other}
		bad["five "+label] = []impl.Direction{d, other, third, validDirections[(i+9)%len(validDirections)], validDirections[(i+11)%len(validDirections)]}
	}
	for i, d := range invalidDirections() {
		label := impl.FormatInt(i)
		a, b, c := validDirections[i%7], validDirections[7+i%4], validDirections[11+i%5]
		bad["invalid alone "+label] = []impl.Direction{d}
		bad["invalid first "+label] = []impl.Direction{d, a}
		bad["invalid last "+label] = []impl.Direction{a, d}
		bad["invalid last of four "+label] = []impl.Direction{a, b, c, d}
		bad["invalid in the middle "+label] = []impl.Direction{a, d, c}
	}
	return bad
}

func TestP9InvalidLists(t *testing.T) {
	grids := [][][]int{{{0}}, {{1}}, {{1, -1}}, {{1, -1}, {-1, 1}}, evenWeight(5, 5, 0), nil}
	for label, list := range invalidLists() {
		if impl.DirectionsOk(list) {
			t.Errorf("DirectionsOk is true: %s", label)
		}
		if rows, cols := impl.GhostSize(list); rows != 0 || cols != 0 {
			t.Errorf("GhostSize = %d, %d: %s", rows, cols, label)
		}
		if g, ok := impl.BasicGhost(list); len(g) != 0 || ok {
			t.Errorf("BasicGhost = %v, %t: %s", g, ok, label)
		}
		tried := grids
		if len(list) > 0 && slices.Contains(validDirections, list[0]) {
			// It has no sums in the first direction.
			tried = append(slices.Clone(grids), ghostByHand(list[:1]))
		}
		for _, g := range tried {
			if impl.IsGhost(g, list) {
				t.Errorf("IsGhost(%v, %v) is true: %s", g, list, label)
			}
		}
		for rows := range impl.MaxSide + 2 {
			for cols := range impl.MaxSide + 2 {
				if impl.IsDetermined(rows, cols, list) {
					t.Errorf("IsDetermined(%d, %d, %v) is true: %s", rows, cols, list, label)
				}
			}
		}
	}
}

func TestP9GridSumsOfInvalidDirections(t *testing.T) {
	for _, d := range invalidDirections() {
		for _, g := range [][][]int{{{0}}, {{1}}, {{1, -1}}, {{1, -1}, {-1, 1}}, scatteredWeight(5, 5, 100, 1), evenWeight(5, 5, 0), nil} {
			if got := impl.GridSums(g, d); len(got) != 0 {
				t.Errorf("GridSums(%v, %v) = %v", g, d, got)
			}
		}
	}
}

// invalidSizes returns grids that do not have the size of an image, each for one reason, with the element n at all places.
func invalidSizes(n int) map[string][][]int {
	bad := map[string][][]int{"nil": nil, "empty": {}, "nil row": {nil}, "empty row": {{}}, "nil rows": {nil, nil, nil}, "last row nil": {{n}, nil}, "first row nil": {nil, {n}}, "first row empty": {{}, {n, n}}, "last row empty": {{n, n}, {n, n}, {}}}
	for label, lengths := range map[string][]int{
		"longer row": {1, 2}, "shorter row": {2, 1}, "longer middle row": {2, 3, 2}, "shorter middle row": {2, 1, 2}, "last of five longer": {1, 1, 1, 1, 2}, "last of five shorter": {5, 5, 5, 5, 4}, "first of five longer": {6, 5, 5, 5, 5}, "last of five too long": {5, 5, 5, 5, 6},
		"6 columns": {6}, "6 rows": {1, 1, 1, 1, 1, 1}, "6 of both": {6, 6, 6, 6, 6, 6}, "5 rows of 6": {6, 6, 6, 6, 6}, "6 rows of 5": {5, 5, 5, 5, 5, 5}, "1000 columns": {1000, 1000}, "1000 rows": slices.Repeat([]int{2}, 1000),
	} {
		var g [][]int
		for _, length := range lengths {
			g = append(g, slices.Repeat([]int{n}, length))
		}
		bad[label] = g
	}
	return bad
}

func TestP9InvalidSizes(t *testing.T) {
	for _, n := range []int{0, 1, -1, 101} {
		for label, g := range invalidSizes(n) {
			for _, d := range validDirections {
				if got := impl.GridSums(g, d); len(got) != 0 {
					t.Errorf("GridSums for %v = %v: %s", d, got, label)
				}
				if impl.IsGhost(g, []impl.Direction{d}) {
					t.Errorf("IsGhost for %v is true: %s", d, label)
				}
			}
			for _, m := range [][][]int{{{0}}, {{1}}, {{0, 0}, {0, 0}}, drawn("#./.#"), numbered(5, 5, 0), numbered(5, 5, 1<<25-1)} {
				for y := -1; y <= impl.MaxSide; y++ {
					for x := -1; x <= impl.MaxSide; x++ {
						if got, ok := impl.AddGhost(m, g, y, x); len(got) != 0 || ok {
							t.Errorf("AddGhost(%v, g, %d, %d) = %v, %t: %s", m, y, x, got, ok, label)
						}
					}
				}
			}
		}
	}
	// Ghosts of these sizes would have no sums, but are no grids.
	for _, g := range [][][]int{{{1, -1, 0, 0, 0, 0}}, {{1, -1}, {0}}, {{1, -1}, {}}, {{1, -1}, {0, 0, 0}}, {{0, 0, 0}, {1, -1}}, {{1, -1}, nil}, {{}, {1, -1}}, {{1, -1}, {0, 0}, {0, 0}, {0, 0}, {0, 0}, {0, 0}}} {
		if impl.IsGhost(g, ways([2]int{1, 0})) {
			t.Errorf("IsGhost(%v) is true", g)
		}
		if got := impl.GridSums(g, impl.Direction{DX: 1}); len(got) != 0 {
			t.Errorf("GridSums(%v) = %v", g, got)
		}
	}
}

func TestP9ElementsTooGreat(t *testing.T) {
	for _, n := range append([]int{101, -101}, farInts...) {
		if -100 <= n && n <= 100 {
			continue
		}
		for y := range impl.MaxSide {
			for x := range impl.MaxSide {
				g := evenWeight(impl.MaxSide, impl.MaxSide, 0)
				g[y][x] = n
				g[(y+1)%impl.MaxSide][x] = -n
				for _, list := range [][]impl.Direction{ways([2]int{0, 1}), ways([2]int{1, 0}), ways([2]int{1, 0}, [2]int{0, 1})} {
					if impl.IsGhost(g, list) || len(impl.GridSums(g, list[0])) != 0 {
						t.Errorf("IsGhost(%v, %v) is true, or it has GridSums", g, list)
					}
				}
			}
		}
	}
}

func TestP6AddedGhostsChangeNoSums(t *testing.T) {
	t.Parallel()
	grids, lists := ghosts()
	for i, g := range grids {
		if slices.Max(slices.Concat(g...)) > 1 || slices.Min(slices.Concat(g...)) < -1 {
			continue
		}
		negative := difference(evenWeight(len(g), len(g[0]), 0), g)
		eachPlace(g, func(rows, cols, y, x int) {
			m := fitting(g, rows, cols, y, x, i+rows+7*cols+51*y+353*x)
			if !checkAdded(t, m, g, y, x) {
				t.Fatalf("the ghost %v of %v cannot be added to %v", g, lists[i], m)
			}
			p, _ := impl.AddGhost(m, g, y, x)
			for _, d := range validDirections {
				if same := slices.Equal(impl.LineSums(p, d), impl.LineSums(m, d)); same != slices.Contains(lists[i], d) {
					t.Fatalf("the ghost %v of %v was added to %v: LineSums for %v are the same: %t", g, lists[i], m, d, same)
				}
			}
			if back, ok := impl.AddGhost(p, negative, y, x); !ok || !same(back, m) {
				t.Fatalf("AddGhost(%v, %v, %d, %d) = %v, %t, want %v", p, negative, y, x, back, ok, m)
			}
			// A second time it finds no place for it.
			if again, ok := impl.AddGhost(p, g, y, x); ok || len(again) != 0 {
				t.Fatalf("AddGhost(%v, %v, %d, %d) = %v, %t", p, g, y, x, again, ok)
			}
		})
	}
}

func TestP6GhostsOfGreaterElementsCannotBeAdded(t *testing.T) {
	t.Parallel()
	grids, lists := ghosts()
	count := 0
	for i, g := range grids {
		if slices.Max(slices.Concat(g...)) <= 1 && slices.Min(slices.Concat(g...)) >= -1 {
			continue
		}
		count++
		eachPlace(g, func(rows, cols, y, x int) {
			for seed := range 20 {
				m := ordered(rows, cols, scattered(seed, 1<<(rows*cols)))
				if got, ok := impl.AddGhost(m, g, y, x); ok || len(got) != 0 {
					t.Fatalf("AddGhost(%v, %v, %d, %d) = %v, %t for %v", m, g, y, x, got, ok, lists[i])
				}
			}
		})
	}
	if count == 0 {
		t.Error("no ghost has an element that is not from -1 to 1")
	}
}

func TestP9AddGhostOfSmallGrids(t *testing.T) {
	t.Parallel()
	var grids [][][]int
	for _, size := range [][2]int{{1, 1}, {1, 2}, {2, 1}, {2, 2}} {
		for n := range int(math.Pow(3, float64(size[0]*size[1]))) {
			grids = append(grids, numberedWeight(size[0], size[1], 1, n))
		}
	}
	for _, m := range manyImages() {
		step := 1
		if len(m)*len(m[0]) > 6 {
			step = 11
		}
		for i := total(m[0]) % step; i < len(grids); i += step {
			for y := -2; y <= len(m)+1; y++ {
				for x := -2; x <= len(m[0])+1; x++ {
					checkAdded(t, m, grids[i], y, x)
				}
			}
		}
	}
}

func TestP9AddGhostOfGridsOfEverySize(t *testing.T) {
	t.Parallel()
	added := 0
	for rows := 1; rows <= impl.MaxSide; rows++ {
		for cols := 1; cols <= impl.MaxSide; cols++ {
			for n := range impl.MaxSide * impl.MaxSide * 4 {
				g := scatteredWeight(1+n/4/impl.MaxSide, 1+n/4%impl.MaxSide, 1, n+rows*100+cols*1000)
				for y := -3; y <= rows; y++ {
					for x := -3; x <= cols; x++ {
						m := ordered(rows, cols, scattered(n+y+10*x, 1<<(rows*cols)))
						if y >= 0 && x >= 0 && y+len(g) <= rows && x+len(g[0]) <= cols {
							m = fitting(g, rows, cols, y, x, n)
							added++
							if !checkAdded(t, m, g, y, x) {
								t.Fatalf("AddGhost(%v, %v, %d, %d) is false", m, g, y, x)
							}
							m[y+scattered(n, len(g))][x+scattered(n+1, len(g[0]))] ^= 1
						}
						checkAdded(t, m, g, y, x)
					}
				}
			}
		}
	}
	if added < 1000 {
		t.Errorf("only %d grids were added", added)
	}
}

func TestP9AddGhost(t *testing.T) {
	g := [][]int{{1, -1}, {-1, 1}}
	for _, c := range []struct {
		m    string
		g    [][]int
		y, x int
		want string
	}{
		// In each corner, in the middle, and over the whole image.
		{".#./#../...", g, 0, 0, "#../.#./..."}, {"..#/.#./...", g, 0, 1, ".#./..#/..."}, {"#../.#./#..", g, 1, 0, "#../#../.#."}, {"###/#.#/##.", g, 1, 1, "###/##./#.#"}, {"####/#.##/##.#/####", g, 1, 1, "####/##.#/#.##/####"}, {"...../..#../.#.../.....", g, 1, 1, "...../.#.../..#../....."}, {".#/#.", g, 0, 0, "#./.#"},
		{".", [][]int{{1}}, 0, 0, "#"}, {"#", [][]int{{-1}}, 0, 0, "."}, {"#", [][]int{{0}}, 0, 0, "#"}, {".", [][]int{{0}}, 0, 0, "."}, {"...../...../...../...../.....", evenWeight(5, 5, 1), 0, 0, "#####/#####/#####/#####/#####"}, {"#####/#####/#####/#####/#####", evenWeight(5, 5, -1), 0, 0, "...../...../...../...../....."}, {"#.#.#", [][]int{{-1, 1, -1, 1, -1}}, 0, 0, ".#.#."}, {"#/./#/./#", [][]int{{-1}, {1}, {-1}, {1}, {-1}}, 0, 0, "./#/./#/."},
		// One row or column beyond, and at negative places, also where the cells that remain would fit.
		{".#/#.", g, 1, 0, ""}, {".#/#.", g, 0, 1, ""}, {".#/#.", g, -1, 0, ""}, {".#/#.", g, 0, -1, ""}, {".#/#.", g, 1, 1, ""}, {".#/#.", g, -1, -1, ""}, {".#/#.", g, 2, 0, ""}, {".#/#.", g, 0, 2, ""}, {"../..", evenWeight(1, 1, 0), 2, 0, ""}, {"../..", evenWeight(1, 1, 0), 0, 2, ""}, {"../..", evenWeight(1, 1, 0), -1, 0, ""}, {"../..", evenWeight(1, 1, 0), 0, -1, ""}, {"../..", evenWeight(1, 1, 0), 1, 1, "../.."}, {"../..", evenWeight(1, 3, 0), 0, 0, ""}, {"../..", evenWeight(3, 1, 0), 0, 0, ""}, {"../..", evenWeight(1, 3, 0), 0, -1, ""}, {"../..", evenWeight(5, 5, 0), -1, -1, ""},
		{"...", evenWeight(2, 2, 0), 0, 0, ""}, {"././.", evenWeight(2, 2, 0), 0, 0, ""},
		// A result with a cell that is neither 0 nor 1: 2 and -1 at each place.
		{"##/#.", g, 0, 0, ""}, {"../#.", g, 0, 0, ""}, {".#/..", g, 0, 0, ""}, {".#/##", g, 0, 0, ""}, {"#####/##.##/#.###/#####", g, 1, 1, ""}, {"####/#.##/#.##/####", g, 1, 1, ""}, {"####/#.##/####/####", g, 1, 1, ""}, {"..", [][]int{{0, -1}}, 0, 0, ""}, {"..", [][]int{{0, 2}}, 0, 0, ""}, {"##", [][]int{{-2, 0}}, 0, 0, ""}, {"##", [][]int{{1, -1}}, 0, 0, ""}, {"##", [][]int{{0, 0}}, 0, 0, "##"}, {".", [][]int{{100}}, 0, 0, ""}, {"#", [][]int{{-100}}, 0, 0, ""}, {"#", [][]int{{101}}, 0, 0, ""}, {".", [][]int{{-101}}, 0, 0, ""},
		{".", [][]int{{math.MaxInt}}, 0, 0, ""}, {"#", [][]int{{math.MaxInt}}, 0, 0, ""}, {".", [][]int{{math.MinInt}}, 0, 0, ""}, {"#", [][]int{{math.MinInt}}, 0, 0, ""}, {"#", [][]int{{1 << 32}}, 0, 0, ""}, {"..", [][]int{{0, 256}}, 0, 0, ""},
		// Grids that are no ghosts.
		{".../...", [][]int{{1, 1}}, 1, 1, ".../.##"}, {"#..", [][]int{{-1, 0, 1}}, 0, 0, "..#"},
	} {
		got, ok := impl.AddGhost(drawn(c.m), c.g, c.y, c.x)
		if ok != (c.want != "") || impl.FormatImage(got) != c.want || !ok && len(got) != 0 {
			t.Errorf("AddGhost(%s, %v, %d, %d) = %v, %t, want %s", c.m, c.g, c.y, c.x, got, ok, c.want)
		}
	}
}

func TestP9AddGhostFarAway(t *testing.T) {
	for _, m := range [][][]int{{{0}}, {{1}}, {{0, 0}, {0, 0}}, numbered(5, 5, 0), numbered(5, 5, 1<<25-1)} {
		for _, g := range [][][]int{{{0}}, {{0, 0}, {0, 0}}, evenWeight(5, 5, 0), {{1, -1}}} {
			for _, n := range farInts {
				for _, place := range [][2]int{{n, 0}, {0, n}, {n, n}, {n, 1}, {1, n}, {n, -n}, {n, math.MinInt}, {math.MaxInt, n}} {
					if got, ok := impl.AddGhost(m, g, place[0], place[1]); len(got) != 0 || ok {
						t.Errorf("AddGhost(%v, %v, %d, %d) = %v, %t", m, g, place[0], place[1], got, ok)
					}
				}
			}
		}
	}
}

func TestP9AddGhostToInvalidImages(t *testing.T) {
	for label, m := range invalidImages() {
		for _, g := range [][][]int{{{0}}, {{1}}, {{-1}}, {{1, -1}, {-1, 1}}, evenWeight(5, 5, 0), evenWeight(2, 2, 0), nil, {}, {nil}, {{1}, {1, 0}}} {
			for _, place := range [][2]int{{0, 0}, {0, 1}, {1, 0}, {1, 1}, {-1, 0}, {0, -1}, {math.MinInt, math.MaxInt}} {
				if got, ok := impl.AddGhost(m, g, place[0], place[1]); len(got) != 0 || ok {
					t.Errorf("AddGhost(m, %v, %d, %d) = %v, %t: %s", g, place[0], place[1], got, ok, label)
				}
			}
		}
	}
	// The result would be valid, but the image is not.
	for _, c := range []struct{ m, g [][]int }{{[][]int{{2}}, [][]int{{-1}}}, {[][]int{{-1}}, [][]int{{1}}}, {[][]int{{2, 0}, {0, -1}}, [][]int{{-2, 0}, {0, 2}}}, {[][]int{{math.MinInt}}, [][]int{{math.MinInt}}}, {[][]int{{math.MaxInt}}, [][]int{{-math.MaxInt}}}} {
		if got, ok := impl.AddGhost(c.m, c.g, 0, 0); len(got) != 0 || ok {
			t.Errorf("AddGhost(%v, %v, 0, 0) = %v, %t", c.m, c.g, got, ok)
		}
	}
}

// roomyDirections returns an equal list with spare elements behind it, and all of its memory.
func roomyDirections(list []impl.Direction) ([]impl.Direction, []impl.Direction) {
	whole := append(slices.Clone(list), ways([2]int{7, 8}, [2]int{1, 0}, [2]int{-9, 9})...)
	return whole[:len(list)], whole
}

func TestP9GhostArgumentsStay(t *testing.T) {
	lists := [][]impl.Direction{nil, {}, ways([2]int{1, 0}), ways([2]int{0, 1}), ways([2]int{1, -1}, [2]int{1, 0}), ways([2]int{3, 1}, [2]int{1, 0}), ways([2]int{3, 2}, [2]int{3, -2}), ways([2]int{1, -1}, [2]int{1, 1}, [2]int{0, 1}, [2]int{1, 0}), ways([2]int{2, 2}, [2]int{0, -1}), ways([2]int{1, 0}, [2]int{1, 0}), validDirections[:5], invalidDirections()}
	for _, list := range lists {
		l, wholeList := roomyDirections(list)
		beforeList := slices.Clone(wholeList)
		for _, g := range [][][]int{{{1}}, {{0}}, {{1, -1}}, {{1}, {-1}}, {{1, -1}, {-1, 1}}, {{0, -1}, {1, 0}}, evenWeight(5, 5, 0), scatteredWeight(5, 5, 100, 3), evenWeight(6, 6, 1), {{101, -101}}, {{1}, {1, 0}}, {{1, 0}, {1}}, {}} {
			a, whole := roomy(g)
			before := copied(memory(whole))
			impl.IsGhost(a, l)
			for _, d := range append(slices.Clone(list), impl.Direction{DX: 2, DY: -1}) {
				impl.GridSums(a, d)
			}
			if !same(memory(whole), before) {
				t.Errorf("the argument %v or the room behind it has become %v", g, memory(whole))
			}
		}
		impl.DirectionsOk(l)
		impl.BasicGhost(l)
		impl.GhostSize(l)
		impl.IsDetermined(2, 3, l)
		if !slices.Equal(wholeList, beforeList) {
			t.Errorf("the list %v or the room behind it has become %v", list, wholeList)
		}
	}
}

// additions are images and grids, some of which can be added.
var additions = []struct {
	m    string
	g    [][]int
	y, x int
}{
	{".", [][]int{{1}}, 0, 0}, {".#./#../...", [][]int{{1, -1}, {-1, 1}}, 0, 0}, {".#./#../...", [][]int{{1, -1}, {-1, 1}}, 0, 1}, {".#./#../...", [][]int{{1, -1}, {-1, 1}}, 2, 0}, {".../...", [][]int{{0, 0, 0}, {0, 0, 0}}, 0, 0},
	{"#####/#####/#####/#####/#####", [][]int{{-1, -1, -1, -1, -1}}, 4, 0}, {"#####/#####/#####/#####/#####", [][]int{{0}}, 2, 2}, {"#####/#####/#####/#####/#####", [][]int{{0, -2}}, 2, 2}, {"#.", [][]int{{1}, {1, 0}}, 0, 0}, {"##/#.", nil, 0, 0}, {"#.#", [][]int{{0, 0, 0, 0, 0, 0}}, 0, 0},
}

func TestP9AddGhostArgumentsStay(t *testing.T) {
	for _, c := range additions {
		for _, m := range [][][]int{drawn(c.m), append(drawn(c.m), []int{1, 7}), {{2, 0}, {0, 1}}, {}} {
			a, wholeA := roomy(m)
			g, wholeG := roomy(c.g)
			beforeA, beforeG := copied(memory(wholeA)), copied(memory(wholeG))
			impl.AddGhost(a, g, c.y, c.x)
			impl.AddGhost(a, a, 0, 0)
			impl.AddGhost(g, a, 0, 0)
			if !same(memory(wholeA), beforeA) || !same(memory(wholeG), beforeG) {
				t.Errorf("the arguments %v and %v or the room behind them have become %v and %v", m, c.g, memory(wholeA), memory(wholeG))
			}
		}
	}
}

func TestP9AddGhostResultsAreNew(t *testing.T) {
	for _, c := range additions {
		a, wholeA := roomy(drawn(c.m))
		g, wholeG := roomy(c.g)
		beforeA, beforeG := copied(memory(wholeA)), copied(memory(wholeG))
		first, ok := impl.AddGhost(a, g, c.y, c.x)
		want := copied(first)
		if !ok {
			continue
		}
		checkRowsApart(t, "AddGhost", first)
		if !same(memory(wholeA), beforeA) || !same(memory(wholeG), beforeG) {
			t.Errorf("AddGhost returns memory of its arguments %s, %v", c.m, c.g)
		}
		if second, ok := impl.AddGhost(a, g, c.y, c.x); !ok || !same(second, want) {
			t.Errorf("AddGhost(%s, %v, %d, %d) = %v, %t after its first result was overwritten, want %v", c.m, c.g, c.y, c.x, second, ok, want)
		}
	}
	// The image and the grid may be the same list.
	white := numbered(3, 3, 0)
	if got, ok := impl.AddGhost(white, white, 0, 0); !ok || !same(got, numbered(3, 3, 0)) {
		t.Errorf("AddGhost of a white image to itself = %v, %t", got, ok)
	} else {
		checkRowsApart(t, "AddGhost", got)
	}
	if !same(white, numbered(3, 3, 0)) {
		t.Errorf("AddGhost returns memory of its argument, which is now %v", white)
	}
}

func TestP9GhostResultsAreNew(t *testing.T) {
	_, lists := ghosts()
	for _, list := range lists {
		l, wholeList := roomyDirections(list)
		beforeList := slices.Clone(wholeList)
		first, _ := impl.BasicGhost(l)
		want := copied(first)
		a, whole := roomy(first)
		before := copied(memory(whole))
		sums := impl.GridSums(a, list[0])
		sums = sums[:cap(sums)]
		for i := range sums {
			sums[i] = 99
		}
		if !same(memory(whole), before) {
			t.Errorf("GridSums returns memory of its argument %v", a)
		}
		if !isZero([][]int{impl.GridSums(a, list[0])}) {
			t.Errorf("GridSums(%v, %v) = %v after its first result was overwritten", a, list[0], impl.GridSums(a, list[0]))
		}
		checkRowsApart(t, "BasicGhost", first)
		if second, ok := impl.BasicGhost(l); !ok || !same(second, want) || !slices.Equal(wholeList, beforeList) {
			t.Errorf("BasicGhost(%v) = %v, %t after its first result was overwritten, want %v", list, second, ok, want)
		}
	}
}

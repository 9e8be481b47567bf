package tests

import (
	"math"
	"runtime"
	"slices"
	"strings"
	"sync"
	"testing"

	"loop.example/g00860/impl"
)

// masked returns the mask with # for cells that must be black, . for those that must be white and ? for free ones, its rows separated by /.
func masked(text string) [][]int {
	var mask [][]int
	for _, line := range strings.Split(text, "/") {
		var row []int
		for _, sign := range line {
			row = append(row, strings.IndexRune("?.#", sign)-1)
		}
		mask = append(mask, row)
	}
	return mask
}

// evenMask returns the mask of this size with equal elements.
func evenMask(rows, cols, cell int) [][]int {
	var mask [][]int
	for range rows {
		mask = append(mask, slices.Repeat([]int{cell}, cols))
	}
	return mask
}

// numberedMask returns the mask of this size whose elements are the digits of n to the base 3, less 1.
func numberedMask(rows, cols, n int) [][]int {
	mask := evenMask(rows, cols, -1)
	for y := range mask {
		for x := range mask[y] {
			mask[y][x] += n % 3
			n /= 3
		}
	}
	return mask
}

// scattered returns a number from 0 up to n that follows no short rule.
func scattered(seed, n int) int {
	z := uint64(seed) * 0x9e3779b97f4a7c15
	z = (z ^ z>>29) * 0xbf58476d1ce4e5b9
	return int((z ^ z>>32) % uint64(n))
}

// loosened returns the mask with the cells of m of which some are free: none if eighths is 0, all if it is 8.
func loosened(m [][]int, seed, eighths int) [][]int {
	mask := copied(m)
	for y := range mask {
		for x := range mask[y] {
			if scattered(seed+97*y+13*x, 8) < eighths {
				mask[y][x] = -1
			}
		}
	}
	return mask
}

// spoilt returns the mask in which one more cell is forced, or one has the other color.
func spoilt(mask [][]int, seed int) [][]int {
	mask = copied(mask)
	y, x := scattered(seed, len(mask)), scattered(seed+1, len(mask[0]))
	if mask[y][x] == -1 {
		mask[y][x] = scattered(seed+2, 2)
	} else {
		mask[y][x] = 1 - mask[y][x]
	}
	return mask
}

// A masking has a mask for sums, and all images with these sums.
type masking struct {
	mask       [][]int
	rows, cols []int
	group      [][][]int
}

// sampleOf returns maskings of all kinds: free ones, those with cells of one color, images with the sums and others, some with free or wrong cells, and any.
func sampleOf(rows, cols []int, group [][][]int, seed int) []masking {
	masks := [][][]int{evenMask(len(rows), len(cols), -1), evenMask(len(rows), len(cols), 0), evenMask(len(rows), len(cols), 1)}
	for eighths := range 8 {
		seed += 1000
		m := numbered(len(rows), len(cols), scattered(seed, 1<<25))
		masks = append(masks, loosened(m, seed, eighths))
		if len(group) > 0 {
			m = group[scattered(seed+1, len(group))]
		}
		mask := loosened(m, seed+2, eighths)
		masks = append(masks, mask, spoilt(mask, seed+3), numberedMask(len(rows), len(cols), scattered(seed, 1<<40)))
	}
	var all []masking
	for _, mask := range masks {
		all = append(all, masking{mask, rows, cols, group})
	}
	return all
}

func meets(m, mask [][]int) bool {
	for y, row := range m {
		for x, cell := range row {
			if mask[y][x] == 1-cell {
				return false
			}
		}
	}
	return true
}

// margin returns by how much the a of the document is greater than b, for the rows and columns whose bits are set.
func (c masking) margin(first, second int) int {
	a, b := 0, 0
	for y, n := range c.rows {
		a += n * (first >> y & 1)
	}
	for x, n := range c.cols {
		a -= n * (second >> x & 1)
	}
	for y, row := range c.mask {
		for x, cell := range row {
			switch [2]int{first >> y & 1, second >> x & 1} {
			case [2]int{1, 0}:
				if cell != 0 {
					b++
				}
			case [2]int{0, 1}:
				if cell == 1 {
					b--
				}
			}
		}
	}
	return a - b
}

// bitsOf returns the places of the bits that are set.
func bitsOf(n int) []int {
	list := []int{}
	for i := 0; n>>i != 0; i++ {
		if n>>i&1 == 1 {
			list = append(list, i)
		}
	}
	return list
}

// firstRectangle returns the first pair of lists with a conflict in the order of the document.
func (c masking) firstRectangle() ([]int, []int, bool) {
	for first := range 1 << len(c.rows) {
		for second := range 1 << len(c.cols) {
			if c.margin(first, second) > 0 {
				return bitsOf(first), bitsOf(second), true
			}
		}
	}
	return nil, nil, false
}

// checkImages checks what is said of the images that meet the mask, and that there is one or a rectangle, and returns their number.
func checkImages(t *testing.T, c masking) int {
	t.Helper()
	if !impl.MaskOk(c.mask, c.rows, c.cols) {
		t.Fatalf("MaskOk(%v, %v, %v) is false", c.mask, c.rows, c.cols)
	}
	var first [][]int
	count := 0
	for _, m := range c.group {
		want := meets(m, c.mask)
		if got := impl.MeetsMask(m, c.mask); got != want {
			t.Fatalf("MeetsMask(%v, %v) = %t", m, c.mask, got)
		}
		if want && count == 0 {
			first = m
		}
		if want {
			count++
		}
	}
	if got, ok := impl.MaskedImage(c.mask, c.rows, c.cols); !same(got, first) || ok != (count > 0) {
		t.Fatalf("MaskedImage(%v, %v, %v) = %v, %t, want %v", c.mask, c.rows, c.cols, got, ok, first)
	}
	if got := impl.MaskedCount(c.mask, c.rows, c.cols); got != count {
		t.Fatalf("MaskedCount(%v, %v, %v) = %d, want %d", c.mask, c.rows, c.cols, got, count)
	}
	list, others, bad := impl.BadRectangle(c.mask, c.rows, c.cols)
	if bad != (count == 0) || bad && !impl.HasConflict(c.mask, c.rows, c.cols, list, others) {
		t.Fatalf("BadRectangle(%v, %v, %v) = %v, %v, %t, but %d images meet the mask", c.mask, c.rows, c.cols, list, others, bad, count)
	}
	wantList, wantOthers, _ := c.firstRectangle()
	if !slices.Equal(list, wantList) || !slices.Equal(others, wantOthers) {
		t.Fatalf("BadRectangle(%v, %v, %v) = %v, %v, want %v, %v", c.mask, c.rows, c.cols, list, others, wantList, wantOthers)
	}
	return count
}

// checkConflicts checks HasConflict for all lists, and that there are only conflicts if no image meets the mask.
func checkConflicts(t *testing.T, c masking, count int) {
	t.Helper()
	for first := range 1 << len(c.rows) {
		for second := range 1 << len(c.cols) {
			list, others := bitsOf(first), bitsOf(second)
			got := impl.HasConflict(c.mask, c.rows, c.cols, list, others)
			if got != (c.margin(first, second) > 0) || got && count > 0 {
				t.Fatalf("HasConflict(%v, %v, %v, %v, %v) = %t, a - b is %d, and %d images meet the mask", c.mask, c.rows, c.cols, list, others, got, c.margin(first, second), count)
			}
		}
	}
}

func TestP4AllMasksOfSmallSizes(t *testing.T) {
	t.Parallel()
	eachSums(func(rows, cols []int, exists bool) {
		if len(rows)*len(cols) > 6 {
			return
		}
		group := imagesByRows(rows, colSumsOf(cols), len(cols))
		masks := 1
		for range len(rows) * len(cols) {
			masks *= 3
		}
		for n := range masks {
			c := masking{numberedMask(len(rows), len(cols), n), rows, cols, group}
			checkConflicts(t, c, checkImages(t, c))
		}
	})
}

func TestP4MasksOfAllGroups(t *testing.T) {
	t.Parallel()
	seed := 0
	eachGroup(7, 16, func(group [][][]int) {
		rows, cols := rowsAndCols(group[0])
		seed++
		sample := sampleOf(rows, cols, group, seed)
		// One of them for each group, so that all kinds come in turn.
		c := sample[seed%len(sample)]
		count := checkImages(t, c)
		if seed%7 == 0 {
			checkConflicts(t, c, count)
		}
	})
}

func TestP4MasksOfGreaterImages(t *testing.T) {
	t.Parallel()
	for i, group := range greaterGroups() {
		rows, cols := rowsAndCols(group[0])
		for k, c := range sampleOf(rows, cols, group, 50000*i) {
			count := checkImages(t, c)
			if (i+k)%5 == 0 {
				checkConflicts(t, c, count)
			}
		}
	}
}

func TestP4MasksOfSumsWithoutAnImage(t *testing.T) {
	t.Parallel()
	seed := 0
	eachSums(func(rows, cols []int, exists bool) {
		if exists || len(rows)*len(cols) <= 6 {
			return
		}
		seed++
		if seed%17 != 0 {
			return
		}
		sample := sampleOf(rows, cols, nil, seed)
		checkImages(t, sample[0])
		if c := sample[seed%len(sample)]; seed%5 == 0 {
			checkConflicts(t, c, checkImages(t, c))
		}
	})
}

func TestP4FreeMasks(t *testing.T) {
	t.Parallel()
	// Free masks for more cells are among those of greater images.
	eachSums(func(rows, cols []int, exists bool) {
		if len(rows)*len(cols) > 16 {
			return
		}
		mask := evenMask(len(rows), len(cols), -1)
		want, _ := impl.LeastImage(rows, cols)
		if got, ok := impl.MaskedImage(mask, rows, cols); !same(got, want) || ok != exists {
			t.Fatalf("MaskedImage of a free mask for %v and %v = %v, %t, want %v", rows, cols, got, ok, want)
		}
		if _, _, bad := impl.BadRectangle(mask, rows, cols); bad == exists {
			t.Fatalf("BadRectangle of a free mask for %v and %v: %t", rows, cols, bad)
		}
		if len(rows)*len(cols) > 12 {
			return
		}
		if got := impl.MaskedCount(mask, rows, cols); got != impl.CountImages(rows, cols) {
			t.Fatalf("MaskedCount of a free mask for %v and %v = %d, but CountImages is %d", rows, cols, got, impl.CountImages(rows, cols))
		}
	})
}

func TestP4FullMasks(t *testing.T) {
	for _, m := range manyImages() {
		rows, cols := rowsAndCols(m)
		if got, ok := impl.MaskedImage(m, rows, cols); !same(got, m) || !ok || impl.MaskedCount(m, rows, cols) != 1 {
			t.Errorf("MaskedImage of all cells of %v = %v, %t, MaskedCount %d", m, got, ok, impl.MaskedCount(m, rows, cols))
		}
		if list, others, bad := impl.BadRectangle(m, rows, cols); bad || len(list)+len(others) > 0 {
			t.Errorf("BadRectangle of all cells of %v = %v, %v, %t", m, list, others, bad)
		}
		// Without one cell the image is still the only one, and with a wrong one there is none.
		y, x := len(m)/2, len(m[0])/2
		other := copied(m)
		other[y][x] = -1
		if got, ok := impl.MaskedImage(other, rows, cols); !same(got, m) || !ok || impl.MaskedCount(other, rows, cols) != 1 {
			t.Errorf("MaskedImage of all cells of %v but one = %v, %t", m, got, ok)
		}
		other[y][x] = 1 - m[y][x]
		if got, ok := impl.MaskedImage(other, rows, cols); len(got) != 0 || ok || impl.MaskedCount(other, rows, cols) != 0 {
			t.Errorf("MaskedImage of all cells of %v with one wrong = %v, %t", m, got, ok)
		}
		if list, others, bad := impl.BadRectangle(other, rows, cols); !bad || !impl.HasConflict(other, rows, cols, list, others) {
			t.Errorf("BadRectangle of all cells of %v with one wrong = %v, %v, %t", m, list, others, bad)
		}
	}
}

func TestP4OneForcedCell(t *testing.T) {
	for _, c := range agreements {
		for y := range c.rows {
			for x := range c.cols {
				sum := 0
				for cell := range 2 {
					mask := evenMask(len(c.rows), len(c.cols), -1)
					mask[y][x] = cell
					_, ok := impl.MaskedImage(mask, c.rows, c.cols)
					_, _, bad := impl.BadRectangle(mask, c.rows, c.cols)
					if can := impl.CanPlace(c.rows, c.cols, y, x, cell); ok != can || bad == can {
						t.Errorf("(%d, %d) of images with the sums %v and %v must be %d: MaskedImage %t, BadRectangle %t, CanPlace %t", y, x, c.rows, c.cols, cell, ok, bad, can)
					}
					sum += impl.MaskedCount(mask, c.rows, c.cols)
				}
				if sum != impl.CountImages(c.rows, c.cols) {
					t.Errorf("MaskedCount for both colors of (%d, %d) adds up to %d, sums %v and %v", y, x, sum, c.rows, c.cols)
				}
			}
		}
	}
}

func TestP9MaskedImageAndMaskedCount(t *testing.T) {
	for _, c := range []struct {
		mask       string
		rows, cols []int
		want       string
		count      int
	}{
		{"?./??", []int{1, 1}, []int{1, 1}, "#./.#", 1}, {"?./#?", []int{1, 1}, []int{1, 1}, "", 0}, {"?#/??", []int{1, 1}, []int{1, 1}, ".#/#.", 1}, {"??/?#", []int{1, 1}, []int{1, 1}, "#./.#", 1},
		{"?.?/???/???", []int{1, 1, 1}, []int{1, 1, 1}, "..#/.#./#..", 4}, {"#??/???/???", []int{1, 1, 1}, []int{1, 1, 1}, "#../..#/.#.", 2}, {"??#/?#?/???", []int{1, 1, 1}, []int{1, 1, 1}, "..#/.#./#..", 1}, {"???/???/#??", []int{1, 1, 1}, []int{1, 1, 1}, "..#/.#./#..", 2},
		{"???/#??", []int{1, 2}, []int{1, 1, 1}, "..#/##.", 2}, {"???/?.?", []int{1, 2}, []int{1, 1, 1}, ".#./#.#", 1}, {"..?/???", []int{1, 2}, []int{1, 1, 1}, "..#/##.", 1}, {"#??/???", []int{1, 2}, []int{1, 1, 1}, "#../.##", 1},
		// Free in all cells.
		{"??/??", []int{1, 1}, []int{1, 1}, ".#/#.", 2}, {"???/???/???", []int{1, 1, 1}, []int{1, 1, 1}, "..#/.#./#..", 6}, {"?", []int{0}, []int{0}, ".", 1}, {"?", []int{1}, []int{1}, "#", 1}, {"??/??", []int{2, 1}, []int{2, 1}, "##/#.", 1},
		{"????/????/????/????", []int{2, 2, 2, 2}, []int{2, 2, 2, 2}, "..##/..##/##../##..", 90}, {"?????/?????/?????/?????/?????", []int{2, 2, 2, 2, 2}, []int{2, 2, 2, 2, 2}, "...##/...##/.##../#.#../##...", 2040},
		// All cells.
		{"##/#.", []int{2, 1}, []int{2, 1}, "##/#.", 1}, {"##/.#", []int{2, 1}, []int{2, 1}, "", 0}, {"##/##", []int{2, 1}, []int{2, 1}, "", 0}, {"../..", []int{1, 1}, []int{1, 1}, "", 0}, {"../..", []int{0, 0}, []int{0, 0}, "../..", 1}, {"##/##", []int{2, 2}, []int{2, 2}, "##/##", 1},
		{"#.", []int{1}, []int{0, 1}, "", 0}, {"#", []int{0}, []int{0}, "", 0}, {".", []int{1}, []int{1}, "", 0}, {"##/..", []int{1, 1}, []int{1, 1}, "", 0}, {"#./#.", []int{1, 1}, []int{1, 1}, "", 0}, {"#./.#", []int{1, 1}, []int{1, 1}, "#./.#", 1},
		// Sums without an image.
		{"???/???", []int{3, 0}, []int{2, 1, 0}, "", 0}, {"##./#..", []int{3, 0}, []int{2, 1, 0}, "", 0}, {"??/??", []int{2, 0}, []int{0, 2}, "", 0}, {"????/????/????/????", []int{4, 4, 2, 2}, []int{4, 4, 4, 0}, "", 0},
		// Sums with images of which none meets the mask.
		{"??#/??#/???", []int{1, 1, 1}, []int{1, 1, 1}, "", 0}, {".../???/???", []int{1, 1, 1}, []int{1, 1, 1}, "", 0}, {"?.?/?.?/?.?", []int{1, 1, 1}, []int{1, 1, 1}, "", 0}, {"..?/..?/???", []int{1, 1, 1}, []int{1, 1, 1}, "", 0}, {"???/.??/???", []int{3, 1, 1}, []int{1, 2, 2}, "###/..#/.#.", 2}, {"???/#??/???", []int{3, 1, 1}, []int{1, 2, 2}, "", 0},
		{"??.../??.../??.../?????/?????", []int{1, 1, 1, 1, 1}, []int{1, 1, 1, 1, 1}, "", 0},
		// 1 row or 1 column.
		{"?.?#?", []int{2}, []int{1, 0, 0, 1, 0}, "#..#.", 1}, {"..?#?", []int{2}, []int{1, 0, 0, 1, 0}, "", 0}, {"?/./?/#/?", []int{1, 0, 0, 1, 0}, []int{2}, "#/././#/.", 1}, {"?/./?/#/#", []int{1, 0, 0, 1, 0}, []int{2}, "", 0}, {"?????", []int{5}, []int{1, 1, 1, 1, 1}, "#####", 1}, {"?/?/?/?/?", []int{0, 0, 0, 0, 0}, []int{0}, "././././.", 1},
		// Permutations without a fixed point, and twice as many cells with the diagonal.
		{".????/?.???/??.??/???.?/????.", []int{1, 1, 1, 1, 1}, []int{1, 1, 1, 1, 1}, "....#/...#./.#.../..#../#....", 44}, {"#????/?#???/??#??/???#?/????#", []int{2, 2, 2, 2, 2}, []int{2, 2, 2, 2, 2}, "#...#/.#.#./.##../..##./#...#", 44}, {".???/?.??/??.?/???.", []int{1, 1, 1, 1}, []int{1, 1, 1, 1}, "...#/..#./.#../#...", 9},
		// Sums 0, full rows and columns.
		{"???/???", []int{0, 0}, []int{0, 0, 0}, ".../...", 1}, {"???/??#", []int{0, 0}, []int{0, 0, 0}, "", 0}, {"???/???", []int{3, 3}, []int{2, 2, 2}, "###/###", 1}, {"??./???", []int{3, 3}, []int{2, 2, 2}, "", 0},
		{"?????/?????/?????/?????/?????", []int{5, 1, 0, 1, 0}, []int{1, 1, 2, 2, 1}, "#####/...#./...../..#../.....", 2}, {"?????/???.?/?????/?????/?????", []int{5, 1, 0, 1, 0}, []int{1, 1, 2, 2, 1}, "#####/..#../...../...#./.....", 1}, {"?????/?????/?#???/?????/?????", []int{5, 1, 0, 1, 0}, []int{1, 1, 2, 2, 1}, "", 0},
		{"?????/?????/?????/?????/????#", []int{0, 0, 0, 0, 0}, []int{0, 0, 0, 0, 0}, "", 0}, {"?????/?????/?????/?????/????.", []int{5, 5, 5, 5, 5}, []int{5, 5, 5, 5, 5}, "", 0}, {"?????/?????/?????/?????/????#", []int{5, 5, 5, 5, 5}, []int{5, 5, 5, 5, 5}, "#####/#####/#####/#####/#####", 1},
	} {
		mask := masked(c.mask)
		if got, ok := impl.MaskedImage(mask, c.rows, c.cols); impl.FormatImage(got) != c.want || ok != (c.want != "") || !ok && len(got) != 0 {
			t.Errorf("MaskedImage(%s, %v, %v) = %v, %t, want %s", c.mask, c.rows, c.cols, got, ok, c.want)
		}
		if got := impl.MaskedCount(mask, c.rows, c.cols); got != c.count {
			t.Errorf("MaskedCount(%s, %v, %v) = %d, want %d", c.mask, c.rows, c.cols, got, c.count)
		}
		if _, _, bad := impl.BadRectangle(mask, c.rows, c.cols); bad != (c.count == 0) {
			t.Errorf("BadRectangle(%s, %v, %v): %t", c.mask, c.rows, c.cols, bad)
		}
	}
}

// badRectangles are masks and sums, with the first pair of lists that have a conflict.
var badRectangles = []struct {
	mask         string
	rows, cols   []int
	list, others []int
}{
	{"?./#?", []int{1, 1}, []int{1, 1}, []int{0}, []int{0}}, {".?/?#", []int{1, 1}, []int{1, 1}, []int{0}, []int{1}},
	// The first list is empty.
	{"#?/#?", []int{1, 1}, []int{1, 1}, nil, []int{0}}, {"?#/?#", []int{1, 1}, []int{1, 1}, nil, []int{1}}, {"#", []int{0}, []int{0}, nil, []int{0}}, {"???/??#", []int{0, 0}, []int{0, 0, 0}, nil, []int{2}}, {"?????/????#", []int{0, 0}, []int{0, 0, 0, 0, 0}, nil, []int{4}},
	{"#./#.", []int{1, 1}, []int{1, 1}, nil, []int{0}}, {"?????/?????/?????/?????/????#", []int{1, 1, 1, 1, 1}, []int{2, 1, 1, 1, 0}, nil, []int{4}},
	// The second list is empty.
	{"../??", []int{1, 1}, []int{1, 1}, []int{0}, nil}, {"??/..", []int{1, 1}, []int{1, 1}, []int{1}, nil}, {".", []int{1}, []int{1}, []int{0}, nil}, {"??./???", []int{3, 3}, []int{2, 2, 2}, []int{0}, nil}, {"???/?.?", []int{3, 3}, []int{2, 2, 2}, []int{1}, nil},
	{"?????/?????/?????/?????/????.", []int{5, 5, 5, 5, 5}, []int{5, 5, 5, 5, 5}, []int{4}, nil}, {"?/?/?/?/.", []int{1, 1, 1, 0, 1}, []int{4}, []int{4}, nil},
	// Several others of the same first list come before.
	{"???/???", []int{3, 0}, []int{2, 1, 0}, []int{0}, []int{2}}, {"???/???", []int{3, 0}, []int{1, 2, 0}, []int{0}, []int{2}}, {"????/????/????/????", []int{4, 4, 2, 2}, []int{4, 4, 4, 0}, []int{0}, []int{3}}, {"?????/?????/?????/?????/?????", []int{5, 5, 5, 2, 2}, []int{5, 5, 4, 4, 1}, []int{0, 1}, []int{4}},
	{"??#/??#/???", []int{1, 1, 1}, []int{1, 1, 1}, nil, []int{2}}, {"???/???/##?", []int{1, 1, 1}, []int{1, 1, 1}, []int{0, 1}, []int{0, 1, 2}}, {"###/???/???", []int{1, 1, 1}, []int{1, 1, 1}, []int{1}, []int{0, 1, 2}},
	{"?????/?????/?????/?????/...??", []int{1, 1, 1, 1, 1}, []int{2, 1, 2, 0, 0}, []int{4}, []int{3, 4}},
	// More rows in the first list.
	{"?..../?..../?????/?????/?????", []int{1, 1, 1, 1, 1}, []int{1, 1, 1, 1, 1}, []int{0, 1}, []int{0}}, {"??.../??.../??.../?????/?????", []int{1, 1, 1, 1, 1}, []int{1, 1, 1, 1, 1}, []int{0, 1, 2}, []int{0, 1}}, {"..?/???/..?", []int{1, 1, 1}, []int{1, 1, 1}, []int{0, 2}, []int{2}},
	// 1 row or 1 column.
	{"..?#?", []int{2}, []int{1, 0, 0, 1, 0}, []int{0}, []int{2, 4}}, {"?/?/?/?/#", []int{1, 1, 0, 0, 0}, []int{2}, []int{0, 1}, []int{0}},
}

func TestP9BadRectangle(t *testing.T) {
	for _, c := range badRectangles {
		list, others, bad := impl.BadRectangle(masked(c.mask), c.rows, c.cols)
		if !slices.Equal(list, c.list) || !slices.Equal(others, c.others) || !bad {
			t.Errorf("BadRectangle(%s, %v, %v) = %v, %v, %t, want %v, %v", c.mask, c.rows, c.cols, list, others, bad, c.list, c.others)
		}
	}
	for _, c := range agreements {
		// The agreed cells are a mask that all images meet.
		if list, others, bad := impl.BadRectangle(masked(c.cells), c.rows, c.cols); len(list)+len(others) != 0 || bad {
			t.Errorf("BadRectangle(%s, %v, %v) = %v, %v, %t", c.cells, c.rows, c.cols, list, others, bad)
		}
		if got, want := impl.MaskedCount(masked(c.cells), c.rows, c.cols), impl.CountImages(c.rows, c.cols); got != want {
			t.Errorf("MaskedCount(%s, %v, %v) = %d, want %d", c.cells, c.rows, c.cols, got, want)
		}
	}
}

func TestP9HasConflict(t *testing.T) {
	for _, c := range []struct {
		mask         string
		rows, cols   []int
		list, others []int
		a, b         int
	}{
		// a is b, b + 1, less, and more than b + 1.
		{"?./??", []int{1, 1}, []int{1, 1}, []int{0}, []int{0}, 0, 0}, {"?./#?", []int{1, 1}, []int{1, 1}, []int{0}, []int{0}, 0, -1}, {"??/??", []int{1, 1}, []int{1, 1}, []int{0}, []int{0}, 0, 1},
		{"?.../???#/???#/???#", []int{1, 1, 1, 1}, []int{1, 1, 1, 1}, []int{0}, []int{3}, 0, 1 - 3}, {"...?/???#/???#/???#", []int{2, 1, 1, 1}, []int{1, 1, 2, 1}, []int{0}, []int{3}, 1, -3}, {"#.#/???", []int{2, 1}, []int{1, 1, 1}, []int{0}, []int{1}, 1, 2},
		{"#.#/?#?", []int{2, 1}, []int{1, 1, 1}, []int{0}, []int{1}, 1, 1}, {"#../?#?", []int{2, 1}, []int{1, 1, 1}, []int{0}, []int{1}, 1, 0}, {"#../?.?", []int{2, 1}, []int{1, 1, 1}, []int{0}, []int{1}, 1, 1},
		// Empty lists.
		{"?./#?", []int{1, 1}, []int{1, 1}, nil, nil, 0, 0}, {"##/##", []int{1, 1}, []int{1, 1}, nil, nil, 0, 0}, {"../..", []int{1, 1}, []int{1, 1}, nil, nil, 0, 0},
		{"#?/#?", []int{1, 1}, []int{1, 1}, nil, []int{0}, -1, -2}, {"#?/??", []int{1, 1}, []int{1, 1}, nil, []int{0}, -1, -1}, {"??/??", []int{1, 1}, []int{1, 1}, nil, []int{0}, -1, 0}, {"#?/#?", []int{1, 1}, []int{1, 1}, nil, []int{1}, -1, 0},
		{"../??", []int{1, 1}, []int{1, 1}, []int{0}, nil, 1, 0}, {".?/??", []int{1, 1}, []int{1, 1}, []int{0}, nil, 1, 1}, {"??/??", []int{1, 1}, []int{1, 1}, []int{0}, nil, 1, 2}, {"../??", []int{1, 1}, []int{1, 1}, []int{1}, nil, 1, 2}, {"##/??", []int{1, 1}, []int{1, 1}, []int{0}, nil, 1, 2},
		// All rows and all columns.
		{"../..", []int{1, 1}, []int{1, 1}, []int{0, 1}, []int{0, 1}, 0, 0}, {"##/##", []int{1, 1}, []int{1, 1}, []int{0, 1}, []int{0, 1}, 0, 0}, {"??.??/.????", []int{4, 3}, []int{2, 2, 1, 1, 1}, []int{0, 1}, []int{0, 1, 2, 3, 4}, 0, 0},
		{"../..", []int{1, 1}, []int{1, 1}, []int{0, 1}, nil, 2, 0}, {"?./.?", []int{1, 1}, []int{1, 1}, []int{0, 1}, nil, 2, 2}, {"?./..", []int{1, 1}, []int{1, 1}, []int{0, 1}, nil, 2, 1}, {"##/##", []int{1, 1}, []int{1, 1}, nil, []int{0, 1}, -2, -4}, {"#?/?#", []int{1, 1}, []int{1, 1}, nil, []int{0, 1}, -2, -2}, {"##/?#", []int{1, 1}, []int{1, 1}, nil, []int{0, 1}, -2, -3},
		{"#?/??", []int{1, 1}, []int{1, 1}, []int{0, 1}, []int{0}, 1, 2}, {"?./?.", []int{1, 1}, []int{1, 1}, []int{0, 1}, []int{0}, 1, 0}, {"##/??", []int{1, 1}, []int{1, 1}, []int{1}, []int{0, 1}, -1, -2},
		// 1 row or 1 column.
		{"#", []int{0}, []int{0}, nil, []int{0}, 0, -1}, {".", []int{1}, []int{1}, []int{0}, nil, 1, 0}, {"?", []int{1}, []int{1}, []int{0}, nil, 1, 1}, {"?", []int{0}, []int{0}, nil, []int{0}, 0, 0}, {"?", []int{1}, []int{1}, []int{0}, []int{0}, 0, 0},
		{"..?#?", []int{2}, []int{1, 0, 0, 1, 0}, []int{0}, []int{1, 2, 4}, 2, 1}, {"..?#?", []int{2}, []int{1, 0, 0, 1, 0}, []int{0}, []int{2, 4}, 2, 1}, {"?/?/?/?/#", []int{1, 1, 0, 0, 0}, []int{2}, []int{0, 1}, []int{0}, 0, -1}, {"?/?/?/?/#", []int{1, 1, 0, 0, 0}, []int{2}, []int{1}, []int{0}, -1, -1},
		// MaxSide rows and columns.
		{"??.../??.../??.../?????/?????", []int{1, 1, 1, 1, 1}, []int{1, 1, 1, 1, 1}, []int{0, 1, 2}, []int{0, 1}, 1, 0}, {"??.../??.../??.../?????/?????", []int{1, 1, 1, 1, 1}, []int{1, 1, 1, 1, 1}, []int{0, 1}, []int{0, 1}, 0, 0}, {"??.../??.../??.../?????/####?", []int{1, 1, 1, 1, 1}, []int{1, 1, 1, 1, 1}, []int{0, 1}, []int{0, 1}, 0, -2},
		{"?????/?????/?????/?????/?????", []int{5, 5, 5, 2, 2}, []int{5, 5, 4, 4, 1}, []int{0, 1, 2}, []int{4}, 14, 12}, {"?????/?????/?????/?????/?????", []int{5, 5, 5, 5, 5}, []int{5, 5, 5, 5, 5}, []int{0, 1, 2, 3, 4}, nil, 25, 25}, {"?????/?????/?????/?????/????.", []int{5, 5, 5, 5, 5}, []int{5, 5, 5, 5, 5}, []int{0, 1, 2, 3, 4}, nil, 25, 24},
		{"?????/?????/?????/?????/????#", []int{0, 0, 0, 0, 0}, []int{0, 0, 0, 0, 0}, nil, []int{0, 1, 2, 3, 4}, 0, -1}, {"?????/?????/?????/?????/????#", []int{0, 0, 0, 0, 0}, []int{0, 0, 0, 0, 0}, []int{4}, []int{0, 1, 2, 3, 4}, 0, 0},
	} {
		if got := impl.HasConflict(masked(c.mask), c.rows, c.cols, c.list, c.others); got != (c.a > c.b) {
			t.Errorf("HasConflict(%s, %v, %v, %v, %v) = %t, a is %d and b is %d", c.mask, c.rows, c.cols, c.list, c.others, got, c.a, c.b)
		}
	}
}

func TestP9MaskOkAndMeetsMask(t *testing.T) {
	size := strings.NewReplacer("#", "?", ".", "?")
	for _, c := range []struct {
		m, mask string
		want    bool
	}{
		{"#./.#", "?./??", true}, {"#./.#", "??/??", true}, {"#./.#", "#./.#", true}, {"#./.#", "?./#?", false}, {"#./.#", "?#/??", false}, {"#./.#", "??/?.", false}, {"#./.#", ".?/??", false}, {"#./.#", ".#/#.", false},
		{"#", "#", true}, {"#", "?", true}, {"#", ".", false}, {".", ".", true}, {".", "?", true}, {".", "#", false}, {"#.##.", "#?#?.", true}, {"#.##.", "#?#??", true}, {"#.##.", "#?#?#", false}, {"#/./#", "?/?/#", true}, {"#/./#", "?/#/#", false},
		{"#####/####./###../##.../#....", "?????/????./???../??.../?....", true}, {"#####/####./###../##.../#....", "?????/????./???../??.../?...#", false}, {"#####/####./###../##.../#....", "#####/####./###../##.../#....", true}, {"...../...../...../...../.....", "?????/?????/?????/?????/????#", false},
		// Other sizes.
		{"#./.#", "??", false}, {"##", "??/??", false}, {"#./.#", "??/??/??", false}, {"#./.#", "???/???", false}, {"#./.#", "?/?", false}, {"#.#", "?/?/?", false}, {"#/.", "??", false}, {"#", "??", false}, {"#", "?/?", false}, {"#./.#", "??/?", false}, {"#./.#", "?/??", false}, {"#./.#", "??/???", false},
		{"#####/#####/#####/#####/#####", "?????/?????/?????/?????/?????/?????", false}, {"#####/#####/#####/#####/#####", "??????/??????/??????/??????/??????", false}, {"#####", "??????", false}, {"#/#/#/#/#", "?/?/?/?/?/?", false},
	} {
		if got := impl.MeetsMask(drawn(c.m), masked(c.mask)); got != c.want {
			t.Errorf("MeetsMask(%s, %s) = %t", c.m, c.mask, got)
		}
		// The sums of an image are valid, so only the size of the mask counts.
		rows, cols := rowsAndCols(drawn(c.m))
		sizes := size.Replace(c.m) == size.Replace(c.mask)
		if got := impl.MaskOk(masked(c.mask), rows, cols); got != sizes {
			t.Errorf("MaskOk(%s, %v, %v) = %t", c.mask, rows, cols, got)
		}
	}
	// Sums without an image are valid too.
	if !impl.MaskOk(masked("?#./???"), []int{3, 0}, []int{2, 1, 0}) || impl.MaskOk(masked("?./??"), []int{1, 1}, []int{1, 0}) {
		t.Error("MaskOk")
	}
}

func TestP9MasksWithFarNumbers(t *testing.T) {
	for _, size := range [][2]int{{1, 1}, {1, 5}, {5, 1}, {2, 3}, {5, 5}} {
		rows, cols := slices.Repeat([]int{0}, size[0]), slices.Repeat([]int{0}, size[1])
		for y := range rows {
			for x := range cols {
				for _, cell := range append([]int{-3, -2, 2, 3, 255, 256}, farInts...) {
					if cell == -1 {
						continue
					}
					mask := evenMask(size[0], size[1], -1)
					mask[y][x] = cell
					checkNoMask(t, "the element "+impl.FormatInt(cell), mask, rows, cols)
					if m := evenMask(size[0], size[1], 0); impl.MeetsMask(m, mask) || impl.MeetsMask(mask, mask) || impl.MeetsMask(mask, evenMask(size[0], size[1], -1)) {
						t.Errorf("MeetsMask is true with %d at (%d, %d)", cell, y, x)
					}
				}
			}
		}
	}
}

// checkNoMask checks the results for sums and a mask that MaskOk does not accept.
func checkNoMask(t *testing.T, label string, mask [][]int, rows, cols []int) {
	t.Helper()
	if impl.MaskOk(mask, rows, cols) {
		t.Errorf("MaskOk is true: %s", label)
	}
	if got, ok := impl.MaskedImage(mask, rows, cols); len(got) != 0 || ok {
		t.Errorf("MaskedImage = %v, %t: %s", got, ok, label)
	}
	if got := impl.MaskedCount(mask, rows, cols); got != -1 {
		t.Errorf("MaskedCount = %d: %s", got, label)
	}
	if list, others, bad := impl.BadRectangle(mask, rows, cols); len(list)+len(others) != 0 || bad {
		t.Errorf("BadRectangle = %v, %v, %t: %s", list, others, bad, label)
	}
	for _, c := range [][2][]int{{nil, nil}, {{0}, nil}, {nil, {0}}, {{0}, {0}}, {{0, 1}, nil}, {nil, {0, 1}}, {{0, 1}, {0, 1}}, {{-1}, {9}}} {
		if impl.HasConflict(mask, rows, cols, c[0], c[1]) {
			t.Errorf("HasConflict of %v and %v is true: %s", c[0], c[1], label)
		}
	}
}

func TestP9MasksOfInvalidSums(t *testing.T) {
	for label, c := range invalidSums() {
		checkNoMask(t, "nil mask, "+label, nil, c[0], c[1])
		for cell := -1; cell <= 1; cell++ {
			checkNoMask(t, label, evenMask(len(c[0]), len(c[1]), cell), c[0], c[1])
			checkNoMask(t, "2 x 2, "+label, evenMask(2, 2, cell), c[0], c[1])
		}
	}
	for _, rows := range listsOf(2, -1, 3) {
		for _, cols := range listsOf(2, -1, 3) {
			want := slices.Min(rows) >= 0 && slices.Max(rows) <= 2 && slices.Min(cols) >= 0 && slices.Max(cols) <= 2 && total(rows) == total(cols)
			if mask := masked("#?/?."); !want {
				checkNoMask(t, "sums", mask, rows, cols)
			} else if !impl.MaskOk(mask, rows, cols) {
				t.Errorf("MaskOk(%v, %v, %v) is false", mask, rows, cols)
			}
		}
	}
}

func TestP9InvalidMasks(t *testing.T) {
	for _, c := range [][2][]int{{{1, 1}, {1, 1}}, {{0}, {0}}, {{1}, {1}}, {{2}, {1, 0, 1}}, {{1, 0, 1}, {2}}, {{1, 2}, {1, 1, 1}}, {{3, 0}, {2, 1, 0}}, {{2, 2, 2, 2, 2}, {2, 2, 2, 2, 2}}, {{0, 0, 0, 0, 0}, {0, 0, 0, 0, 0}}, {{5, 5, 5, 5, 5}, {5, 5, 5, 5, 5}}} {
		rows, cols := c[0], c[1]
		for cell := -1; cell <= 1; cell++ {
			bad := map[string][][]int{
				"nil": nil, "empty": {}, "empty rows": evenMask(len(rows), 0, cell), "nil rows": make([][]int, len(rows)), "1000 rows": evenMask(1000, len(cols), cell), "1000 columns": evenMask(len(rows), 1000, cell),
				"fewer rows": evenMask(len(rows)-1, len(cols), cell), "more rows": evenMask(len(rows)+1, len(cols), cell), "fewer columns": evenMask(len(rows), len(cols)-1, cell), "more columns": evenMask(len(rows), len(cols)+1, cell),
				"more of both": evenMask(len(rows)+1, len(cols)+1, cell), "another nil row": append(evenMask(len(rows), len(cols), cell), nil),
			}
			for y := range rows {
				label := " row " + impl.FormatInt(y)
				for change, row := range map[string][]int{"nil": nil, "empty": {}, "shorter": make([]int, len(cols)-1), "longer": make([]int, len(cols)+1)} {
					mask := evenMask(len(rows), len(cols), cell)
					mask[y] = row
					bad[change+label] = mask
				}
			}
			if len(rows) != len(cols) {
				bad["exchanged"] = evenMask(len(cols), len(rows), cell)
			}
			for label, mask := range bad {
				checkNoMask(t, label, mask, rows, cols)
				if impl.MeetsMask(evenMask(len(rows), len(cols), max(cell, 0)), mask) {
					t.Errorf("MeetsMask is true: %s, sums %v and %v", label, rows, cols)
				}
			}
		}
	}
}

func TestP9MeetsMaskOfInvalidImages(t *testing.T) {
	for label, m := range invalidImages() {
		free := copied(m)
		for y := range free {
			for x := range free[y] {
				free[y][x] = -1
			}
		}
		if impl.MeetsMask(m, free) || impl.MeetsMask(m, m) || impl.MeetsMask(m, nil) || impl.MeetsMask(m, [][]int{{-1}}) || impl.MeetsMask(m, evenMask(2, 2, -1)) {
			t.Errorf("MeetsMask is true: %s", label)
		}
		if impl.MeetsMask([][]int{{1}}, m) && !(len(m) == 1 && len(m[0]) == 1 && m[0][0] == -1) {
			t.Errorf("MeetsMask of a black cell is true: %s", label)
		}
	}
}

func TestP9HasConflictOfInvalidLists(t *testing.T) {
	// All cells must be white: every list of rows that are not empty has a conflict. They must be black: every list of columns.
	white, black := evenMask(3, 4, 0), evenMask(3, 4, 1)
	rows, cols := []int{1, 1, 1}, []int{1, 1, 1, 0}
	for _, n := range []int{1, 2, 4, 3, 5, 6, 7} {
		if !impl.HasConflict(white, rows, cols, bitsOf(n), nil) {
			t.Errorf("HasConflict of the rows %v is false", bitsOf(n))
		}
	}
	for n := 1; n < 16; n++ {
		if !impl.HasConflict(black, rows, cols, nil, bitsOf(n)) {
			t.Errorf("HasConflict of the columns %v is false", bitsOf(n))
		}
	}
	bad := [][]int{
		{0, 0}, {1, 1}, {2, 2}, {0, 0, 1}, {0, 1, 1}, {1, 0}, {2, 1}, {2, 0}, {0, 2, 1}, {1, 0, 2}, {2, 1, 0}, {1, 2, 0}, {0, 1, 0}, {-1}, {-1, 0}, {0, -1}, {-1, 0, 1, 2}, {0, 1, 2, -1}, {0, 1, 2, 2}, slices.Repeat([]int{0}, 1000), slices.Repeat([]int{2}, 64),
		{4}, {0, 4}, {4, 0}, {0, 1, 2, 3, 4}, {0, 1, 2, 3, 4, 5}, {3, 4}, {3, 3}, {math.MinInt, 0}, {0, math.MaxInt}, {math.MaxInt, 0}, {math.MinInt, math.MaxInt},
	}
	for _, far := range farInts {
		bad = append(bad, []int{far}, []int{0, far}, []int{far, 1}, []int{0, 1, far}, []int{far, far})
	}
	for _, list := range bad {
		for _, mask := range [][][]int{white, black, evenMask(3, 4, -1)} {
			for _, valid := range [][]int{nil, {}, {0}, {1, 2}, {0, 1, 2}} {
				if impl.HasConflict(mask, rows, cols, list, valid) || impl.HasConflict(mask, rows, cols, valid, list) {
					t.Errorf("HasConflict of %v and %v, or the other way round, is true", list, valid)
				}
			}
			if impl.HasConflict(mask, rows, cols, list, list) {
				t.Errorf("HasConflict of %v twice is true", list)
			}
		}
	}
	// 3 is a column, but no row.
	if impl.HasConflict(white, rows, cols, []int{0, 3}, nil) || impl.HasConflict(white, rows, cols, []int{3}, nil) || !impl.HasConflict(black, rows, cols, nil, []int{3}) || !impl.HasConflict(black, rows, cols, nil, []int{0, 3}) {
		t.Error("HasConflict with the number 3")
	}
}

func TestP9MaskArgumentsStay(t *testing.T) {
	for _, c := range []struct {
		mask       [][]int
		rows, cols []int
		list       []int
		others     []int
	}{
		{masked("?./??"), []int{1, 1}, []int{1, 1}, []int{0}, []int{0}}, {masked("?./#?"), []int{1, 1}, []int{1, 1}, []int{0}, []int{0}}, {masked("???/???"), []int{3, 0}, []int{2, 1, 0}, nil, []int{2}}, {masked("?"), []int{1}, []int{1}, []int{0}, nil}, {masked("..?#?"), []int{2}, []int{1, 0, 0, 1, 0}, []int{0}, []int{1, 2, 4}},
		{evenMask(5, 5, -1), []int{2, 2, 2, 2, 2}, []int{2, 2, 2, 2, 2}, []int{0, 1, 2, 3, 4}, []int{4}}, {masked("??.../??.../??.../?????/?????"), []int{1, 1, 1, 1, 1}, []int{1, 1, 1, 1, 1}, []int{2, 1}, []int{1, 1}}, {masked("???/#??/???"), []int{3, 1, 1}, []int{1, 2, 2}, []int{math.MinInt, 7}, []int{math.MaxInt}},
		{masked("??/?"), []int{1, 1}, []int{1, 1}, []int{0}, []int{0}}, {masked("??/??"), []int{1, 1}, []int{1, 0}, []int{0}, []int{0}}, {[][]int{{7}}, []int{1}, []int{1}, []int{0}, []int{0}}, {[][]int{}, []int{}, []int{}, []int{}, []int{}}, {evenMask(6, 6, -1), []int{1, 1, 1, 1, 1, 1}, []int{1, 1, 1, 1, 1, 1}, nil, nil},
	} {
		mask, whole := roomy(c.mask)
		m, wholeImage := roomy(numbered(len(c.rows), len(c.cols), 0x1234567))
		before, imageBefore := copied(memory(whole)), copied(memory(wholeImage))
		var wholes, wants [][]int
		var lists [4][]int
		for i, list := range [][]int{c.rows, c.cols, c.list, c.others} {
			argument, wholeList := withRoom(list)
			lists[i] = argument
			wholes = append(wholes, wholeList)
			wants = append(wants, slices.Clone(wholeList))
		}
		impl.MaskOk(mask, lists[0], lists[1])
		impl.MeetsMask(m, mask)
		impl.MeetsMask(mask, m)
		impl.MaskedImage(mask, lists[0], lists[1])
		impl.MaskedCount(mask, lists[0], lists[1])
		impl.BadRectangle(mask, lists[0], lists[1])
		impl.HasConflict(mask, lists[0], lists[1], lists[2], lists[3])
		if !same(memory(whole), before) || !same(memory(wholeImage), imageBefore) || !same(wholes, wants) {
			t.Errorf("the arguments %v or the room behind them have become %v, %v, %v", c, memory(whole), memory(wholeImage), wholes)
		}
	}
}

func TestP9MaskedImagesAreNew(t *testing.T) {
	for _, c := range []struct {
		mask       string
		rows, cols []int
	}{
		{"?./??", []int{1, 1}, []int{1, 1}}, {"#./.#", []int{1, 1}, []int{1, 1}}, {"##/##", []int{2, 2}, []int{2, 2}}, {"../..", []int{0, 0}, []int{0, 0}}, {"?", []int{0}, []int{0}}, {"#", []int{1}, []int{1}}, {"?.?#?", []int{2}, []int{1, 0, 0, 1, 0}}, {"?/./?/#/?", []int{1, 0, 0, 1, 0}, []int{2}},
		{"?????/?????/?????/?????/?????", []int{2, 2, 2, 2, 2}, []int{2, 2, 2, 2, 2}}, {"#????/?#???/??#??/???#?/????#", []int{1, 1, 1, 1, 1}, []int{1, 1, 1, 1, 1}}, {"?????/?????/?????/?????/?????", []int{5, 5, 5, 5, 5}, []int{5, 5, 5, 5, 5}},
	} {
		mask, whole := roomy(masked(c.mask))
		rows, wholeRows := withRoom(c.rows)
		cols, wholeCols := withRoom(c.cols)
		before, rowsBefore, colsBefore := copied(memory(whole)), slices.Clone(wholeRows), slices.Clone(wholeCols)
		first, ok := impl.MaskedImage(mask, rows, cols)
		want := copied(first)
		if !ok {
			t.Errorf("MaskedImage(%s, %v, %v) fails", c.mask, c.rows, c.cols)
			continue
		}
		checkRowsApart(t, "MaskedImage", first)
		if !same(memory(whole), before) || !slices.Equal(wholeRows, rowsBefore) || !slices.Equal(wholeCols, colsBefore) {
			t.Errorf("MaskedImage(%s, %v, %v) returns memory of its arguments", c.mask, c.rows, c.cols)
		}
		if second, ok := impl.MaskedImage(mask, rows, cols); !ok || !same(second, want) {
			t.Errorf("MaskedImage(%s, %v, %v) = %v, %t after its first result was overwritten, want %v", c.mask, c.rows, c.cols, second, ok, want)
		}
	}
}

func TestP9BadRectanglesAreNew(t *testing.T) {
	for _, c := range badRectangles {
		mask, whole := roomy(masked(c.mask))
		rows, wholeRows := withRoom(c.rows)
		cols, wholeCols := withRoom(c.cols)
		before, rowsBefore, colsBefore := copied(memory(whole)), slices.Clone(wholeRows), slices.Clone(wholeCols)
		list, others, _ := impl.BadRectangle(mask, rows, cols)
		checkRowsApart(t, "BadRectangle", [][]int{list, others})
		if !same(memory(whole), before) || !slices.Equal(wholeRows, rowsBefore) || !slices.Equal(wholeCols, colsBefore) {
			t.Errorf("BadRectangle(%s, %v, %v) returns memory of its arguments", c.mask, c.rows, c.cols)
		}
		if list, others, bad := impl.BadRectangle(mask, rows, cols); !bad || !slices.Equal(list, c.list) || !slices.Equal(others, c.others) {
			t.Errorf("BadRectangle(%s, %v, %v) = %v, %v, %t after its first result was overwritten, want %v, %v", c.mask, c.rows, c.cols, list, others, bad, c.list, c.others)
		}
	}
}

// TestP9RectanglesByGoroutines is also run with the race detector, where .ci/run can build it.
func TestP9RectanglesByGoroutines(t *testing.T) {
	defer runtime.GOMAXPROCS(runtime.GOMAXPROCS(0))
	for _, threads := range []int{1, 2, 3, 8, 32} {
		runtime.GOMAXPROCS(threads)
		for _, c := range badRectangles {
			mask, rows, cols := masked(c.mask), slices.Clone(c.rows), slices.Clone(c.cols)
			// Several calls at once read the same arguments.
			var calls sync.WaitGroup
			for range 8 {
				calls.Go(func() {
					list, others, bad := impl.BadRectangle(mask, rows, cols)
					if !bad || !slices.Equal(list, c.list) || !slices.Equal(others, c.others) {
						t.Errorf("BadRectangle(%s, %v, %v) = %v, %v, %t with %d threads, want %v, %v", c.mask, c.rows, c.cols, list, others, bad, threads, c.list, c.others)
					}
				})
			}
			calls.Wait()
			// A goroutine that still read the arguments would be found here by the race detector.
			for _, list := range append(mask, rows, cols) {
				clear(list)
			}
		}
		for range 20 {
			if _, _, bad := impl.BadRectangle(evenMask(5, 5, -1), []int{2, 2, 2, 2, 2}, []int{2, 2, 2, 2, 2}); bad {
				t.Errorf("BadRectangle of a free mask is true with %d threads", threads)
			}
		}
	}
}

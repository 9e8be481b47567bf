package tests

import (
	"slices"
	"strings"
	"testing"

	"loop.example/g00860/impl"
)

// drawn returns the image with # for black and . for white cells and its rows separated by /.
func drawn(text string) [][]int {
	var m [][]int
	for _, line := range strings.Split(text, "/") {
		var row []int
		for _, sign := range line {
			row = append(row, strings.IndexRune(".#", sign))
		}
		m = append(m, row)
	}
	return m
}

// swap returns a switch from Y1, Y2, X1 and X2.
func swap(n [4]int) impl.Switch { return impl.Switch{Y1: n[0], Y2: n[1], X1: n[2], X2: n[3]} }

func swaps(list ...[4]int) []impl.Switch {
	var all []impl.Switch
	for _, n := range list {
		all = append(all, swap(n))
	}
	return all
}

// switchesByHand tries all rows and columns of an image.
func switchesByHand(m [][]int) []impl.Switch {
	var all []impl.Switch
	for y1 := range m {
		for y2 := y1 + 1; y2 < len(m); y2++ {
			for x1 := range m[0] {
				for x2 := x1 + 1; x2 < len(m[0]); x2++ {
					if a, b := m[y1][x1], m[y1][x2]; a != b && m[y2][x1] == b && m[y2][x2] == a {
						all = append(all, swap([4]int{y1, y2, x1, x2}))
					}
				}
			}
		}
	}
	return all
}

// changed returns the image in which the four cells of a switch have the other color.
func changed(m [][]int, s impl.Switch) [][]int {
	c := copied(m)
	c[s.Y1][s.X1] = 1 - c[s.Y1][s.X1]
	c[s.Y1][s.X2] = 1 - c[s.Y1][s.X2]
	c[s.Y2][s.X1] = 1 - c[s.Y2][s.X1]
	c[s.Y2][s.X2] = 1 - c[s.Y2][s.X2]
	return c
}

// groupedBySums puts images with the same sums together, and leaves them in order.
func groupedBySums(list [][][]int) [][][][]int {
	var groups [][][][]int
	places := map[[2]colSums]int{}
	for _, m := range list {
		rows, cols := rowsAndCols(m)
		key := [2]colSums{colSumsOf(rows), colSumsOf(cols)}
		place, known := places[key]
		if !known {
			place = len(groups)
			places[key] = place
			groups = append(groups, nil)
		}
		groups[place] = append(groups[place], m)
	}
	return groups
}

// imagesBySums returns all images of a size, those with the same sums together.
func imagesBySums(nRows, nCols int) [][][][]int {
	var all [][][]int
	for n := range 1 << (nRows * nCols) {
		all = append(all, ordered(nRows, nCols, n))
	}
	return groupedBySums(all)
}

// eachGroup calls check for the images with the same sums, for all sizes from least to most cells.
func eachGroup(least, most int, check func(group [][][]int)) {
	for nRows := 1; nRows <= impl.MaxSide; nRows++ {
		for nCols := 1; nCols <= impl.MaxSide; nCols++ {
			if nRows*nCols < least || nRows*nCols > most {
				continue
			}
			for _, group := range imagesBySums(nRows, nCols) {
				check(group)
			}
		}
	}
}

// imagesByRows tries all rows for the images with these sums, one after the other, in lexicographic order.
func imagesByRows(rows []int, left colSums, nCols int) [][][]int {
	if len(rows) == 0 {
		if left == (colSums{}) {
			return [][][]int{nil}
		}
		return nil
	}
	var all [][][]int
	for n := range 1 << nCols {
		row := ordered(1, nCols, n)[0]
		if rest := without(left, row); total(row) == rows[0] && slices.Min(rest[:]) >= 0 {
			for _, below := range imagesByRows(rows[1:], rest, nCols) {
				all = append(all, append([][]int{row}, below...))
			}
		}
	}
	return all
}

// groupOf returns all images with the sums of m.
func groupOf(m [][]int) [][][]int {
	rows, cols := rowsAndCols(m)
	return imagesByRows(rows, colSumsOf(cols), len(cols))
}

// flooded returns the texts of all images that switches lead to from m, itself included.
func flooded(m [][]int) map[string]bool {
	found := map[string]bool{impl.FormatImage(m): true}
	for queue := [][][]int{m}; len(queue) > 0; queue = queue[1:] {
		for _, s := range impl.SwitchesOf(queue[0]) {
			next, ok := impl.ApplySwitch(queue[0], s)
			if text := impl.FormatImage(next); ok && !found[text] {
				found[text] = true
				queue = append(queue, next)
			}
		}
	}
	return found
}

func TestP9MaxPath(t *testing.T) {
	if impl.MaxPath != 60 {
		t.Errorf("MaxPath is %d", impl.MaxPath)
	}
}

func TestP9SwitchesOf(t *testing.T) {
	for _, c := range []struct {
		text string
		want []impl.Switch
	}{
		// Both colors at (Y1, X1).
		{"#./.#", swaps([4]int{0, 1, 0, 1})}, {".#/#.", swaps([4]int{0, 1, 0, 1})},
		{"##./..#", swaps([4]int{0, 1, 0, 2}, [4]int{0, 1, 1, 2})}, {"#../.##", swaps([4]int{0, 1, 0, 1}, [4]int{0, 1, 0, 2})}, {"#./#./.#", swaps([4]int{0, 2, 0, 1}, [4]int{1, 2, 0, 1})},
		{"#../.#./..#", swaps([4]int{0, 1, 0, 1}, [4]int{0, 2, 0, 2}, [4]int{1, 2, 1, 2})}, {"..#/.#./#..", swaps([4]int{0, 1, 1, 2}, [4]int{0, 2, 0, 2}, [4]int{1, 2, 0, 1})},
		{"#.#./.#.#/#.#.", swaps([4]int{0, 1, 0, 1}, [4]int{0, 1, 0, 3}, [4]int{0, 1, 1, 2}, [4]int{0, 1, 2, 3}, [4]int{1, 2, 0, 1}, [4]int{1, 2, 0, 3}, [4]int{1, 2, 1, 2}, [4]int{1, 2, 2, 3})},
		// The edges of the greatest images.
		{"#..../...../...../...../....#", swaps([4]int{0, 4, 0, 4})}, {"....#/...../...../...../#....", swaps([4]int{0, 4, 0, 4})}, {".####/#####/#####/#####/####.", swaps([4]int{0, 4, 0, 4})},
		{"#.../..../..../..../...#", swaps([4]int{0, 4, 0, 3})}, {"#..../...../...../....#", swaps([4]int{0, 3, 0, 4})}, {"...../...../...../...#./....#", swaps([4]int{3, 4, 3, 4})}, {".#.../#..../...../...../.....", swaps([4]int{0, 1, 0, 1})},
		// No switch.
		{"##/#.", nil}, {"#", nil}, {".", nil}, {"#.#.#", nil}, {"#/./#/./#", nil}, {"##/##", nil}, {"../..", nil}, {"##/..", nil}, {"#./#.", nil}, {"#./..", nil},
		{"#####/####./###../##.../#....", nil}, {"#..../##.../###../####./#####", nil}, {"#####/#####/#####/#####/#####", nil}, {"...../...../...../...../.....", nil}, {"..#../#####/..#../..#../..#..", nil},
	} {
		m := drawn(c.text)
		if got := impl.SwitchesOf(m); !slices.Equal(got, c.want) {
			t.Errorf("SwitchesOf(%s) = %v, want %v", c.text, got, c.want)
		}
		if got := impl.IsUnique(m); got != (len(c.want) == 0) {
			t.Errorf("IsUnique(%s) = %t", c.text, got)
		}
	}
}

func TestP9SwitchesOfManyImages(t *testing.T) {
	t.Parallel()
	check := func(m [][]int) {
		want := switchesByHand(m)
		if got := impl.SwitchesOf(m); !slices.Equal(got, want) || impl.IsUnique(m) != (len(want) == 0) {
			t.Fatalf("SwitchesOf(%v) = %v, want %v, and IsUnique is %t", m, got, want, impl.IsUnique(m))
		}
	}
	for _, m := range manyImages() {
		check(m)
	}
	for n := range 1 << 16 {
		check(ordered(4, 4, n))
	}
	for n := 0; n < 1<<25; n += 1009 {
		check(ordered(5, 5, n))
	}
}

func TestP9ManySwitches(t *testing.T) {
	// With black cells where the row and the column are both even or both odd, 6 pairs of rows and 6 of columns differ.
	m := drawn("#.#.#/.#.#./#.#.#/.#.#./#.#.#")
	list := impl.SwitchesOf(m)
	if len(list) != 36 || list[0] != swap([4]int{0, 1, 0, 1}) || list[5] != swap([4]int{0, 1, 3, 4}) || list[6] != swap([4]int{0, 3, 0, 1}) || list[35] != swap([4]int{3, 4, 3, 4}) {
		t.Errorf("SwitchesOf(%v) = %v", m, list)
	}
	// Each pair of the rows and columns of a diagonal has one switch.
	if got := len(impl.SwitchesOf(drawn("#..../.#.../..#../...#./....#"))); got != 10 {
		t.Errorf("the diagonal has %d switches", got)
	}
}

func TestP9SwitchOkAndApplySwitch(t *testing.T) {
	t.Parallel()
	for _, m := range manyImages() {
		list := switchesByHand(m)
		// From -1 to the number of rows or columns, in any order.
		for place := range (len(m) + 2) * (len(m) + 2) * (len(m[0]) + 2) * (len(m[0]) + 2) {
			y, x := place/((len(m[0])+2)*(len(m[0])+2)), place%((len(m[0])+2)*(len(m[0])+2))
			s := swap([4]int{y/(len(m)+2) - 1, y%(len(m)+2) - 1, x/(len(m[0])+2) - 1, x%(len(m[0])+2) - 1})
			want := slices.Contains(list, s)
			got, ok := impl.ApplySwitch(m, s)
			if impl.SwitchOk(m, s) != want || ok != want || !want && len(got) != 0 {
				t.Fatalf("SwitchOk(%v, %v) = %t, ApplySwitch %v, %t", m, s, impl.SwitchOk(m, s), got, ok)
			}
			if want && !same(got, changed(m, s)) {
				t.Fatalf("ApplySwitch(%v, %v) = %v, want %v", m, s, got, changed(m, s))
			}
		}
	}
}

func TestP9SwitchesWithFarNumbers(t *testing.T) {
	for _, c := range []struct {
		text string
		n    [4]int
	}{
		{"#./.#", [4]int{0, 1, 0, 1}}, {".#/#.", [4]int{0, 1, 0, 1}}, {"#.../.#../..#./...#", [4]int{1, 2, 1, 2}}, {"#..../...../...../...../....#", [4]int{0, 4, 0, 4}}, {".####/#####/#####/#####/####.", [4]int{0, 4, 0, 4}},
	} {
		m := drawn(c.text)
		if !impl.SwitchOk(m, swap(c.n)) {
			t.Errorf("SwitchOk(%s, %v) is false", c.text, c.n)
		}
		for set := 1; set < 16; set++ {
			for _, far := range farInts {
				n := c.n
				for i := range n {
					if set>>i&1 == 1 {
						n[i] = far
					}
				}
				checkNoSwitch(t, m, swap(n))
			}
		}
	}
}

// checkNoSwitch checks that nothing takes s for a switch of m.
func checkNoSwitch(t *testing.T, m [][]int, s impl.Switch) {
	t.Helper()
	if impl.SwitchOk(m, s) {
		t.Errorf("SwitchOk(%v, %v) is true", m, s)
	}
	if got, ok := impl.ApplySwitch(m, s); len(got) != 0 || ok {
		t.Errorf("ApplySwitch(%v, %v) = %v, %t", m, s, got, ok)
	}
	if got, ok := impl.ApplyAll(m, []impl.Switch{s}); len(got) != 0 || ok {
		t.Errorf("ApplyAll(%v, %v) = %v, %t", m, s, got, ok)
	}
}

func TestP9NoSwitches(t *testing.T) {
	for _, c := range []struct {
		text string
		n    [4]int
	}{
		// Y1 equal to Y2 and greater than it, X1 equal to X2 and greater than it.
		{"#./.#", [4]int{0, 0, 0, 1}}, {"#./.#", [4]int{1, 1, 0, 1}}, {"#./.#", [4]int{1, 0, 0, 1}}, {"#./.#", [4]int{0, 1, 0, 0}}, {"#./.#", [4]int{0, 1, 1, 1}}, {"#./.#", [4]int{0, 1, 1, 0}}, {"#./.#", [4]int{1, 0, 1, 0}}, {"#./.#", [4]int{}},
		// Rows and columns that do not exist.
		{"#./.#", [4]int{-1, 1, 0, 1}}, {"#./.#", [4]int{0, 2, 0, 1}}, {"#./.#", [4]int{0, 1, -1, 1}}, {"#./.#", [4]int{0, 1, 0, 2}}, {"#.#/.#./#.#", [4]int{0, 3, 0, 1}}, {"#.#/.#./#.#", [4]int{0, 1, 0, 3}}, {"#.#/.#./#.#", [4]int{3, 4, 3, 4}},
		{"#", [4]int{0, 1, 0, 1}}, {".", [4]int{0, 1, 0, 1}}, {"#.#.#", [4]int{0, 1, 0, 1}}, {"#/./#", [4]int{0, 1, 0, 1}}, {"#.#.#/.#.#./#.#.#/.#.#./#.#.#", [4]int{0, 5, 0, 1}}, {"#.#.#/.#.#./#.#.#/.#.#./#.#.#", [4]int{0, 1, 0, 5}},
		// Four cells that are no switch, each with other colors.
		{"../..", [4]int{0, 1, 0, 1}}, {"#./..", [4]int{0, 1, 0, 1}}, {".#/..", [4]int{0, 1, 0, 1}}, {"../#.", [4]int{0, 1, 0, 1}}, {"../.#", [4]int{0, 1, 0, 1}}, {"##/..", [4]int{0, 1, 0, 1}}, {"../##", [4]int{0, 1, 0, 1}},
		{"#./#.", [4]int{0, 1, 0, 1}}, {".#/.#", [4]int{0, 1, 0, 1}}, {"##/#.", [4]int{0, 1, 0, 1}}, {"##/.#", [4]int{0, 1, 0, 1}}, {"#./##", [4]int{0, 1, 0, 1}}, {".#/##", [4]int{0, 1, 0, 1}}, {"##/##", [4]int{0, 1, 0, 1}},
	} {
		checkNoSwitch(t, drawn(c.text), swap(c.n))
	}
}

func TestP9SwitchesOfInvalidImages(t *testing.T) {
	bad := invalidImages()
	bad["a switch of 2 and 0"] = [][]int{{2, 0}, {0, 2}}
	bad["a switch of 1 and -1"] = [][]int{{1, -1}, {-1, 1}}
	bad["a switch in 6 rows"] = numbered(6, 2, 0x666)
	bad["a switch and a longer row"] = [][]int{{1, 0}, {0, 1}, {1, 0, 1}}
	for label, m := range bad {
		if got := impl.SwitchesOf(m); len(got) != 0 {
			t.Errorf("SwitchesOf = %v: %s", got, label)
		}
		if impl.IsUnique(m) {
			t.Errorf("IsUnique is true: %s", label)
		}
		for _, s := range swaps([4]int{0, 1, 0, 1}, [4]int{}, [4]int{0, 2, 0, 1}, [4]int{1, 2, 1, 2}) {
			checkNoSwitch(t, m, s)
		}
		for _, list := range [][]impl.Switch{nil, {}, swaps([4]int{0, 1, 0, 1}, [4]int{0, 1, 0, 1})} {
			if got, ok := impl.ApplyAll(m, list); len(got) != 0 || ok {
				t.Errorf("ApplyAll with %v = %v, %t: %s", list, got, ok, label)
			}
		}
		for _, pair := range [][2][][]int{{m, drawn("#./.#")}, {drawn("#./.#"), m}, {m, m}, {m, copied(m)}, {m, nil}, {nil, m}} {
			checkNoPath(t, label, pair[0], pair[1])
		}
	}
}

func checkNoPath(t *testing.T, label string, m, target [][]int) {
	t.Helper()
	if got, ok := impl.PathTo(m, target); len(got) != 0 || ok {
		t.Errorf("PathTo(%v, %v) = %v, %t: %s", m, target, got, ok, label)
	}
	if got, ok := impl.NextTo(m, target); got != (impl.Switch{}) || ok {
		t.Errorf("NextTo(%v, %v) = %v, %t: %s", m, target, got, ok, label)
	}
}

func TestP3SwitchesKeepTheSumsAndAreUndone(t *testing.T) {
	for _, m := range manyImages() {
		rows, cols := rowsAndCols(m)
		for _, s := range impl.SwitchesOf(m) {
			got, ok := impl.ApplySwitch(m, s)
			if !ok || !impl.ImageOk(got) || !sameSumsAs(got, rows, cols) || impl.DistanceOf(m, got) != 4 {
				t.Errorf("ApplySwitch(%v, %v) = %v, %t", m, s, got, ok)
			}
			if back, ok := impl.ApplySwitch(got, s); !ok || !same(back, m) {
				t.Errorf("ApplySwitch(%v, %v) = %v, %t, want %v", got, s, back, ok, m)
			}
		}
	}
}

func TestP3SwitchesJoinAllImages(t *testing.T) {
	t.Parallel()
	eachGroup(1, 16, func(group [][][]int) {
		found := flooded(group[0])
		for _, m := range group {
			if !found[impl.FormatImage(m)] {
				t.Fatalf("no switches lead from %v to %v", group[0], m)
			}
			if got := impl.IsUnique(m); got != (len(group) == 1) {
				t.Fatalf("IsUnique(%v) = %t, but %d images have its sums", m, got, len(group))
			}
		}
		if len(found) != len(group) {
			t.Fatalf("switches lead from %v to %d images, but %d have its sums", group[0], len(found), len(group))
		}
	})
}

func TestP3SwitchesLeadToAllImagesThatDifferInFourCells(t *testing.T) {
	eachGroup(1, 12, func(group [][][]int) {
		for _, m := range group {
			count := 0
			for _, other := range group {
				if impl.DistanceOf(m, other) == 4 {
					count++
				}
			}
			if got := impl.SwitchesOf(m); len(got) != count {
				t.Fatalf("SwitchesOf(%v) = %v, but %d images with its sums differ in 4 cells", m, got, count)
			}
		}
	})
}

func TestP3SwitchesJoinGreaterImages(t *testing.T) {
	t.Parallel()
	for _, text := range []string{
		"##.../.##../..##./...##/#...#", "#..../.#.../..#../...#./....#", ".####/#.###/##.##/###.#/####.", "##..#/#.##./.###./#..##/.#.##", "#####/#..../#..../#..../.....",
		"#####/####./###../##.../#....", "#.#.#/.#.#./#.#.#/.#.#./#.#.#", "##../.##./..##/#..#/##..", "#.#.#/.#.#./#.#.#/.#.#.", "##.##/#..#.", "#./.#/##/../#.",
	} {
		m := drawn(text)
		if found, count := len(flooded(m)), len(groupOf(m)); found != count {
			t.Errorf("switches lead from %s to %d images, but %d have its sums", text, found, count)
		}
	}
}

func TestP3UniqueImagesOfAllSizes(t *testing.T) {
	t.Parallel()
	for _, m := range manyImages() {
		if count := len(groupOf(m)); impl.IsUnique(m) != (count == 1) {
			t.Errorf("IsUnique(%v) = %t, but %d images have its sums", m, impl.IsUnique(m), count)
		}
	}
}

func TestP9PathToAndNextTo(t *testing.T) {
	for _, c := range []struct {
		from, to string
		want     []impl.Switch
	}{
		// 4 cells differ.
		{"#./.#", ".#/#.", swaps([4]int{0, 1, 0, 1})}, {".#/#.", "#./.#", swaps([4]int{0, 1, 0, 1})}, {"##./..#", ".##/#..", swaps([4]int{0, 1, 0, 2})}, {"#.../..../..../...#", "...#/..../..../#...", swaps([4]int{0, 3, 0, 3})},
		// 6 cells, and 2 switches; of three lists the first one.
		{"#../.#./..#", ".#./..#/#..", swaps([4]int{0, 1, 0, 1}, [4]int{1, 2, 0, 2})}, {".#./..#/#..", "#../.#./..#", swaps([4]int{0, 1, 1, 2}, [4]int{0, 2, 0, 2})}, {"#../.#./..#", "..#/#../.#.", swaps([4]int{0, 1, 0, 1}, [4]int{0, 2, 1, 2})},
		// 8 cells: 2 switches in any order, 2 of two kinds, and 3.
		{"#.../.#../..#./...#", ".#../#.../...#/..#.", swaps([4]int{0, 1, 0, 1}, [4]int{2, 3, 2, 3})}, {"##../..##", "..##/##..", swaps([4]int{0, 1, 0, 2}, [4]int{0, 1, 1, 3})}, {"#./#./.#/.#", ".#/.#/#./#.", swaps([4]int{0, 2, 0, 1}, [4]int{1, 3, 0, 1})},
		{"#.../.#../..#./...#", ".#../..#./...#/#...", swaps([4]int{0, 1, 0, 1}, [4]int{1, 2, 0, 2}, [4]int{2, 3, 0, 3})},
		// 16 cells, and 4 switches.
		{"#.#./.#.#/#.#./.#.#", ".#.#/#.#./.#.#/#.#.", swaps([4]int{0, 1, 0, 1}, [4]int{0, 1, 2, 3}, [4]int{2, 3, 0, 1}, [4]int{2, 3, 2, 3})}, {"##../##../..##/..##", "..##/..##/##../##..", swaps([4]int{0, 2, 0, 2}, [4]int{0, 2, 1, 3}, [4]int{1, 3, 0, 2}, [4]int{1, 3, 1, 3})},
		// An image to itself.
		{"#", "#", nil}, {".", ".", nil}, {"#.#.", "#.#.", nil}, {"#/./#/.", "#/./#/.", nil}, {"#./.#", "#./.#", nil}, {"##/#.", "##/#.", nil}, {"#.../.#../..#./...#", "#.../.#../..#./...#", nil}, {"####/####/####/####", "####/####/####/####", nil},
	} {
		m, target := drawn(c.from), drawn(c.to)
		if got, ok := impl.PathTo(m, target); !ok || !slices.Equal(got, c.want) {
			t.Errorf("PathTo(%s, %s) = %v, %t, want %v", c.from, c.to, got, ok, c.want)
		}
		var first impl.Switch
		if len(c.want) > 0 {
			first = c.want[0]
		}
		if got, ok := impl.NextTo(m, target); got != first || ok != (len(c.want) > 0) {
			t.Errorf("NextTo(%s, %s) = %v, %t", c.from, c.to, got, ok)
		}
	}
}

// firstOfAllLists tries all lists of so many switches, in lexicographic order.
func firstOfAllLists(m, target [][]int, length int) ([]impl.Switch, bool) {
	if length == 0 {
		return nil, same(m, target)
	}
	for _, s := range switchesByHand(m) {
		if rest, ok := firstOfAllLists(changed(m, s), target, length-1); ok {
			return append([]impl.Switch{s}, rest...), true
		}
	}
	return nil, false
}

func shortestOfAllLists(m, target [][]int) []impl.Switch {
	for length := 0; ; length++ {
		if list, ok := firstOfAllLists(m, target, length); ok {
			return list
		}
	}
}

// checkPath checks all that the document says of a path, with the list that is wanted.
func checkPath(t *testing.T, m, target [][]int, want []impl.Switch) {
	t.Helper()
	got, ok := impl.PathTo(m, target)
	if !ok || !slices.Equal(got, want) {
		t.Fatalf("PathTo(%v, %v) = %v, %t, want %v", m, target, got, ok, want)
	}
	if end, ok := impl.ApplyAll(m, got); !ok || !same(end, target) {
		t.Fatalf("PathTo(%v, %v) = %v, but that leads to %v, %t", m, target, got, end, ok)
	}
	var first impl.Switch
	if len(want) > 0 {
		first = want[0]
	}
	if next, ok := impl.NextTo(m, target); next != first || ok != (len(want) > 0) {
		t.Fatalf("NextTo(%v, %v) = %v, %t, want %v", m, target, next, ok, first)
	}
	cells := impl.DistanceOf(m, target)
	if 4*len(got) < cells || 2*len(got) > cells || cells > 0 && 2*len(got) == cells {
		t.Fatalf("PathTo(%v, %v) has %d switches, but %d cells differ", m, target, len(got), cells)
	}
}

func TestP3PathsAreTheFirstOfAllLists(t *testing.T) {
	t.Parallel()
	eachGroup(1, 9, func(group [][][]int) {
		if len(group[0]) > 4 || len(group[0][0]) > 4 {
			return
		}
		for _, m := range group {
			for _, target := range group {
				checkPath(t, m, target, shortestOfAllLists(m, target))
			}
		}
	})
}

// A web has the switches between the images with the same sums, with the number of the image that each of them leads to.
type web struct {
	switches [][]impl.Switch
	ends     [][]int
}

func webOf(group [][][]int) web {
	numbers := map[string]int{}
	for i, m := range group {
		numbers[impl.FormatImage(m)] = i
	}
	var w web
	for _, m := range group {
		list := switchesByHand(m)
		var ends []int
		for _, s := range list {
			ends = append(ends, numbers[impl.FormatImage(changed(m, s))])
		}
		w.switches = append(w.switches, list)
		w.ends = append(w.ends, ends)
	}
	return w
}

// distances returns the least number of switches from each image to the target, which are lowered until nothing changes.
func (w web) distances(target int) []int {
	far := make([]int, len(w.ends))
	for i := range far {
		far[i] = len(far)
	}
	far[target] = 0
	for settled := false; !settled; {
		settled = true
		for i, ends := range w.ends {
			for _, end := range ends {
				if far[i] > far[end]+1 {
					far[i] = far[end] + 1
					settled = false
				}
			}
		}
	}
	return far
}

// path takes the first switch that leads nearer, again and again.
func (w web) path(from int, far []int) []impl.Switch {
	var list []impl.Switch
	for far[from] > 0 {
		i := slices.IndexFunc(w.ends[from], func(end int) bool { return far[end] < far[from] })
		list = append(list, w.switches[from][i])
		from = w.ends[from][i]
	}
	return list
}

// checkGroupPaths checks the paths between all images of a group, or one of so many.
func checkGroupPaths(t *testing.T, group [][][]int, step int) {
	t.Helper()
	w := webOf(group)
	for i, target := range group {
		var far []int
		for j, m := range group {
			if (i*len(group)+j)%step != 0 {
				continue
			}
			if far == nil {
				far = w.distances(i)
			}
			checkPath(t, m, target, w.path(j, far))
		}
	}
}

func TestP3PathsOfGreaterImages(t *testing.T) {
	t.Parallel()
	eachGroup(10, 12, func(group [][][]int) {
		if len(group[0]) <= 4 && len(group[0][0]) <= 4 {
			checkGroupPaths(t, group, 1)
		}
	})
	for i, group := range imagesBySums(4, 4) {
		// All paths of some sums, among them those with the most images, and some paths of all others.
		step := 101
		if i%100 == 0 || len(group) == 90 {
			step = 1
		}
		checkGroupPaths(t, group, step)
	}
}

func TestP9PathsGoOnInTheSameWay(t *testing.T) {
	for _, group := range imagesBySums(3, 4) {
		m, target := group[0], group[len(group)-1]
		list, _ := impl.PathTo(m, target)
		for i, s := range list {
			if next, ok := impl.NextTo(m, target); !ok || next != s {
				t.Fatalf("NextTo(%v, %v) = %v, %t, want %v", m, target, next, ok, s)
			}
			m, _ = impl.ApplySwitch(m, s)
			if rest, ok := impl.PathTo(m, target); !ok || !slices.Equal(rest, list[i+1:]) {
				t.Fatalf("PathTo(%v, %v) = %v, %t, want %v", m, target, rest, ok, list[i+1:])
			}
		}
		if next, ok := impl.NextTo(m, target); next != (impl.Switch{}) || ok || !same(m, target) {
			t.Fatalf("NextTo(%v, %v) = %v, %t after all switches", m, target, next, ok)
		}
	}
}

func TestP9PathsOfOtherSumsAndSizes(t *testing.T) {
	for _, c := range [][2]string{
		{"#.", ".#"}, {"#/.", "./#"}, {"#", "."}, {"##/..", "../##"}, {"#./#.", ".#/.#"}, {"#./.#", "##/##"}, {"#./.#", "#./.."}, {"#../.#./..#", "##./.#./..#"}, {"#../.#./..#", "#../.#./.#."}, {"##./.#./..#", "##./.#./.#."},
		{"#.#./.#.#/#.#./.#.#", "#.#./.#.#/#.#./.###"}, {"#./.#", "#../.#."}, {"#./.#", "#./.#/.."}, {"#../.#.", "#./.#"}, {"#../.#./...", "#./.#"}, {"##", "#/#"}, {"##./..#", "#./#./.#"}, {"....", "..../...."}, {"....", "../.."},
	} {
		checkNoPath(t, "other sums or sizes", drawn(c[0]), drawn(c[1]))
	}
	var all [][][]int
	eachGroup(1, 6, func(group [][][]int) { all = append(all, group...) })
	for _, m := range all {
		for _, target := range all {
			rows, cols := rowsAndCols(m)
			want := len(m) <= 4 && len(m[0]) <= 4 && sameSumsAs(target, rows, cols)
			if got, ok := impl.PathTo(m, target); ok != want || !ok && len(got) != 0 {
				t.Fatalf("PathTo(%v, %v) = %v, %t", m, target, got, ok)
			}
			if got, ok := impl.NextTo(m, target); ok != (want && !same(m, target)) || !ok && got != (impl.Switch{}) {
				t.Fatalf("NextTo(%v, %v) = %v, %t", m, target, got, ok)
			}
		}
	}
}

func TestP9PathsOfMoreThanFourRowsOrColumns(t *testing.T) {
	for _, m := range manyImages() {
		if len(m) <= 4 && len(m[0]) <= 4 {
			if got, ok := impl.PathTo(m, copied(m)); len(got) != 0 || !ok {
				t.Errorf("PathTo(%v, itself) = %v, %t", m, got, ok)
			}
			continue
		}
		checkNoPath(t, "itself", m, copied(m))
		for _, s := range switchesByHand(m) {
			checkNoPath(t, "one switch", m, changed(m, s))
		}
	}
}

func TestP9ApplyAll(t *testing.T) {
	for _, c := range []struct {
		from string
		list []impl.Switch
		want string
	}{
		{"#../.#./..#", swaps([4]int{0, 1, 0, 1}, [4]int{1, 2, 0, 2}), ".#./..#/#.."}, {"#../.#./..#", swaps([4]int{0, 1, 0, 1}), ".#./#../..#"}, {"#./.#", swaps([4]int{0, 1, 0, 1}, [4]int{0, 1, 0, 1}), "#./.#"},
		{"#./.#", nil, "#./.#"}, {"#./.#", []impl.Switch{}, "#./.#"}, {"##/#.", nil, "##/#."}, {"#", nil, "#"}, {".", []impl.Switch{}, "."}, {"#.#.#/.#.#./#.#.#/.#.#./#.#.#", nil, "#.#.#/.#.#./#.#.#/.#.#./#.#.#"},
		{"#..../.#.../..#../...#./....#", swaps([4]int{0, 4, 0, 4}, [4]int{1, 3, 1, 3}, [4]int{0, 1, 3, 4}), "...#./....#/..#../.#.../#...."},
		// A switch that the image has only before, and only after another one.
		{"#../.#./..#", swaps([4]int{0, 1, 0, 1}, [4]int{0, 2, 0, 2}), ""}, {"#../.#./..#", swaps([4]int{0, 1, 0, 1}, [4]int{0, 2, 1, 2}), "..#/#../.#."}, {"#../.#./..#", swaps([4]int{0, 2, 1, 2}, [4]int{0, 1, 0, 1}), ""}, {"#../.#./..#", swaps([4]int{0, 2, 1, 2}), ""},
		// A last switch that is none.
		{"#./.#", swaps([4]int{0, 1, 0, 1}, [4]int{}), ""}, {"#./.#", swaps([4]int{0, 1, 0, 1}, [4]int{0, 1, 0, 2}), ""}, {"#./.#", swaps([4]int{0, 1, 0, 1}, [4]int{1, 0, 0, 1}), ""}, {"#./.#", swaps([4]int{0, 1, 0, 1}, [4]int{0, 1, 0, 1}, [4]int{-1, 1, 0, 1}), ""},
		{"#", swaps([4]int{0, 1, 0, 1}), ""}, {"##/#.", swaps([4]int{0, 1, 0, 1}), ""}, {"#./.#", swaps([4]int{}), ""},
	} {
		got, ok := impl.ApplyAll(drawn(c.from), c.list)
		if impl.FormatImage(got) != c.want || ok != (c.want != "") || !ok && len(got) != 0 {
			t.Errorf("ApplyAll(%s, %v) = %v, %t, want %s", c.from, c.list, got, ok, c.want)
		}
	}
}

func TestP9ApplyAllOfManySwitches(t *testing.T) {
	for _, text := range []string{"#./.#", ".#/#.", "#..../...../...../...../....#", "#.../.#../..#./...#", "##./..#"} {
		m := drawn(text)
		s := switchesByHand(m)[0]
		for _, n := range []int{1, 2, 3, impl.MaxPath - 1, impl.MaxPath, impl.MaxPath + 1, impl.MaxPath + 2, 1000} {
			want := m
			if n > impl.MaxPath {
				want = nil
			} else if n%2 == 1 {
				want = changed(m, s)
			}
			if got, ok := impl.ApplyAll(m, slices.Repeat([]impl.Switch{s}, n)); ok != (want != nil) || !same(got, want) {
				t.Errorf("ApplyAll(%s) with %d switches = %v, %t, want %v", text, n, got, ok, want)
			}
		}
		for i := range impl.MaxPath {
			list := slices.Repeat([]impl.Switch{s}, impl.MaxPath)
			list[i].Y1 = list[i].Y2
			if got, ok := impl.ApplyAll(m, list); len(got) != 0 || ok {
				t.Errorf("ApplyAll(%s) = %v, %t, but switch %d is none", text, got, ok, i)
			}
		}
	}
	// None of these fails before the list is too long.
	if got, ok := impl.ApplyAll(drawn("#./.#"), make([]impl.Switch, impl.MaxPath+1)); len(got) != 0 || ok {
		t.Errorf("ApplyAll with many zero values = %v, %t", got, ok)
	}
}

// roomySwitches returns an equal list with spare elements behind it, and all of its memory.
func roomySwitches(list []impl.Switch) ([]impl.Switch, []impl.Switch) {
	whole := append(slices.Clone(list), swaps([4]int{7, 8, 9, 7}, [4]int{-1, -2, -3, -4})...)
	return whole[:len(list)], whole
}

func TestP9SwitchArgumentsStay(t *testing.T) {
	lists := [][]impl.Switch{nil, {}, swaps([4]int{0, 1, 0, 1}), swaps([4]int{0, 1, 0, 1}, [4]int{0, 1, 0, 1}), swaps([4]int{0, 1, 0, 1}, [4]int{}), slices.Repeat(swaps([4]int{0, 1, 0, 1}), impl.MaxPath+1)}
	for _, m := range [][][]int{drawn("#./.#"), drawn("#../.#./..#"), drawn("#.#./.#.#/#.#./.#.#"), drawn("##/#."), {{1}}, {{0, 1, 1}}, numbered(5, 5, 0x1234567), numbered(6, 6, 5), {{1, 2}, {0, 1}}, {{1}, {0, 1}}, {}} {
		target := copied(m)
		slices.Reverse(target)
		a, whole := roomy(m)
		b, wholeB := roomy(target)
		before, beforeB := copied(memory(whole)), copied(memory(wholeB))
		impl.SwitchesOf(a)
		impl.IsUnique(a)
		impl.SwitchOk(a, swap([4]int{0, 1, 0, 1}))
		impl.ApplySwitch(a, swap([4]int{0, 1, 0, 1}))
		impl.PathTo(a, b)
		impl.NextTo(a, b)
		for _, list := range lists {
			l, wholeList := roomySwitches(list)
			beforeList := slices.Clone(wholeList)
			impl.ApplyAll(a, l)
			if !slices.Equal(wholeList, beforeList) {
				t.Errorf("the list %v or the room behind it has become %v", list, wholeList)
			}
		}
		if !same(memory(whole), before) || !same(memory(wholeB), beforeB) {
			t.Errorf("the arguments %v, %v or the room behind them have become %v, %v", m, target, memory(whole), memory(wholeB))
		}
	}
}

// switchers are the functions of this chapter that return an image.
func switchers() map[string]func(m [][]int) [][]int {
	applied := func(list ...impl.Switch) func(m [][]int) [][]int {
		return func(m [][]int) [][]int {
			p, _ := impl.ApplyAll(m, list)
			return p
		}
	}
	return map[string]func(m [][]int) [][]int{
		"ApplySwitch": func(m [][]int) [][]int {
			p, _ := impl.ApplySwitch(m, swap([4]int{0, 1, 0, 1}))
			return p
		},
		"ApplyAll":                  applied(swap([4]int{0, 1, 0, 1})),
		"ApplyAll without a change": applied(swap([4]int{0, 1, 0, 1}), swap([4]int{0, 1, 0, 1})),
		"ApplyAll with no switch":   applied(),
	}
}

func TestP9SwitchedImagesAreNew(t *testing.T) {
	for _, text := range []string{"#./.#", ".#/#.", "#../.#./..#", "#.#./.#.#/#.#./.#.#", "#.#.#/.#.#./#.#.#/.#.#./#.#.#", "#./.#/#./.#/##"} {
		for label, apply := range switchers() {
			m, whole := roomy(drawn(text))
			before := copied(memory(whole))
			first := apply(m)
			want := copied(first)
			if len(first) != len(m) {
				t.Errorf("%s(%s) = %v", label, text, first)
				continue
			}
			checkRowsApart(t, label, first)
			if !same(memory(whole), before) {
				t.Errorf("%s returns memory of its argument %s", label, text)
			}
			if second := apply(m); !same(second, want) {
				t.Errorf("%s(%s) = %v after its first result was overwritten, want %v", label, text, second, want)
			}
		}
	}
}

func TestP9ListsOfSwitchesAreNew(t *testing.T) {
	for _, c := range [][2]string{{"#./.#", ".#/#."}, {"#../.#./..#", ".#./..#/#.."}, {"#.#./.#.#/#.#./.#.#", ".#.#/#.#./.#.#/#.#."}, {"##/#.", "##/#."}} {
		m, target := drawn(c[0]), drawn(c[1])
		for label, listed := range map[string]func() []impl.Switch{
			"SwitchesOf": func() []impl.Switch { return impl.SwitchesOf(m) },
			"PathTo": func() []impl.Switch {
				list, _ := impl.PathTo(m, target)
				return list
			},
		} {
			first := listed()
			want := slices.Clone(first)
			first = first[:cap(first)]
			for i := range first {
				first[i] = swap([4]int{9, 9, 9, 9})
			}
			if second := listed(); !slices.Equal(second, want) {
				t.Errorf("%s of %s = %v after its first result was overwritten, want %v", label, c[0], second, want)
			}
		}
	}
}

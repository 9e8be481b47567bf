package tests

import (
	"math"
	"slices"
	"strings"
	"testing"

	"loop.example/g00860/impl"
)

// farInts are no position, size or cell of any image.
var farInts = []int{math.MinInt, math.MinInt + 1, -1 << 32, -1000, -2, -1, impl.MaxSide + 1, 1000, 1 << 32, 1<<32 + 1, math.MaxInt - 1, math.MaxInt}

// numbered returns the image of this size whose cells, from the last to the first, are the bits of n.
func numbered(rows, cols, n int) [][]int {
	m := make([][]int, rows)
	for y := range m {
		m[y] = make([]int, cols)
		for x := range m[y] {
			m[y][x] = n >> (y*cols + x) & 1
		}
	}
	return m
}

// manyImages returns all images of at most 9 cells, and some of every greater size.
func manyImages() [][][]int {
	var all [][][]int
	for rows := 1; rows <= impl.MaxSide; rows++ {
		for cols := 1; cols <= impl.MaxSide; cols++ {
			count := 1 << (rows * cols)
			step := 1
			if rows*cols > 9 {
				step = count/60 + 1
			}
			for n := 0; n < count; n += step {
				all = append(all, numbered(rows, cols, n))
			}
			all = append(all, numbered(rows, cols, count-1))
		}
	}
	return all
}

// invalidImages returns lists that are not images, each for one reason.
func invalidImages() map[string][][]int {
	bad := map[string][][]int{
		"nil": nil, "empty": {}, "nil row": {nil}, "empty row": {{}}, "empty rows": {{}, {}, {}},
		"longer row": {{1}, {1, 0}}, "shorter row": {{1, 0}, {1}}, "shorter middle row": {{1, 0}, {1}, {0, 1}},
		"first row empty": {{}, {1}}, "last row empty": {{1}, {}}, "last row nil": {{1}, nil},
		"first row longer": {{0, 0, 0, 0, 0, 0}, {0, 0, 0, 0, 0}}, "last row longer": {{0, 0, 0, 0, 0}, {0, 0, 0, 0, 0, 0}},
		"MaxSide + 1 rows": numbered(impl.MaxSide+1, 1, 0), "MaxSide + 1 columns": numbered(1, impl.MaxSide+1, 0),
		"MaxSide + 1 both": numbered(impl.MaxSide+1, impl.MaxSide+1, 0), "1000 rows": numbered(1000, 2, 0), "1000 columns": numbered(2, 1000, 0),
	}
	for label, cell := range map[string]int{"2": 2, "-1": -1, "256": 256, "2^32 + 1": 1<<32 + 1, "least": math.MinInt, "greatest": math.MaxInt} {
		bad["the only cell "+label] = [][]int{{cell}}
		bad["the first cell "+label] = [][]int{{cell, 1}, {0, 1}}
		bad["the last cell "+label] = [][]int{{0, 1}, {0, cell}}
		bad["a middle cell "+label] = [][]int{{0, 1, 0}, {0, cell, 1}, {1, 1, 0}}
	}
	return bad
}

// same compares cell by cell; nil and empty lists are equivalent.
func same(a, b [][]int) bool { return slices.EqualFunc(a, b, slices.Equal[[]int]) }

func copied(m [][]int) [][]int {
	c := make([][]int, len(m))
	for y := range m {
		c[y] = slices.Clone(m[y])
	}
	return c
}

func TestP9MaxSide(t *testing.T) {
	if impl.MaxSide != 5 {
		t.Errorf("MaxSide is %d", impl.MaxSide)
	}
}

func TestP9ImageOk(t *testing.T) {
	for _, m := range manyImages() {
		if !impl.ImageOk(m) {
			t.Errorf("ImageOk(%v) is false", m)
		}
	}
	for label, m := range invalidImages() {
		if impl.ImageOk(m) {
			t.Errorf("ImageOk is true: %s", label)
		}
	}
	for rows := range impl.MaxSide + 3 {
		for cols := range impl.MaxSide + 3 {
			want := rows >= 1 && rows <= 5 && cols >= 1 && cols <= 5
			if got := impl.ImageOk(numbered(rows, cols, 5)); got != want {
				t.Errorf("ImageOk of %d rows and %d columns is %t", rows, cols, got)
			}
		}
	}
}

func TestP9ImageOkEveryCell(t *testing.T) {
	for y := range impl.MaxSide {
		for x := range impl.MaxSide {
			for _, cell := range append([]int{2}, farInts...) {
				m := numbered(impl.MaxSide, impl.MaxSide, 0x155aa55)
				m[y][x] = cell
				if impl.ImageOk(m) {
					t.Errorf("ImageOk is true with the cell %d at (%d, %d)", cell, y, x)
				}
			}
		}
	}
}

func TestP9InvalidImages(t *testing.T) {
	good := [][]int{{1}}
	for label, m := range invalidImages() {
		if got := impl.CellAt(m, 0, 0); got != -1 {
			t.Errorf("CellAt = %d: %s", got, label)
		}
		if got, ok := impl.PutCell(m, 0, 0, 1); len(got) != 0 || ok {
			t.Errorf("PutCell = %v, %t: %s", got, ok, label)
		}
		if got := impl.CountBlack(m); got != -1 {
			t.Errorf("CountBlack = %d: %s", got, label)
		}
		if got := impl.TransposeOf(m); len(got) != 0 {
			t.Errorf("TransposeOf = %v: %s", got, label)
		}
		if got := impl.MirrorOf(m); len(got) != 0 {
			t.Errorf("MirrorOf = %v: %s", got, label)
		}
		if got := impl.InvertOf(m); len(got) != 0 {
			t.Errorf("InvertOf = %v: %s", got, label)
		}
		if a, b, c := impl.DistanceOf(m, good), impl.DistanceOf(good, m), impl.DistanceOf(m, m); a != -1 || b != -1 || c != -1 {
			t.Errorf("DistanceOf = %d, %d, %d: %s", a, b, c, label)
		}
		if got := impl.FormatImage(m); got != "" {
			t.Errorf("FormatImage = %q: %s", got, label)
		}
	}
}

func TestP9EmptyImage(t *testing.T) {
	for rows := 1; rows <= impl.MaxSide; rows++ {
		for cols := 1; cols <= impl.MaxSide; cols++ {
			if got := impl.EmptyImage(rows, cols); !same(got, numbered(rows, cols, 0)) {
				t.Errorf("EmptyImage(%d, %d) = %v", rows, cols, got)
			}
		}
	}
	for _, n := range append([]int{0}, farInts...) {
		for _, size := range [][]int{{n, 1}, {n, impl.MaxSide}, {1, n}, {impl.MaxSide, n}, {n, n}, {n, 0}, {0, n}} {
			if got := impl.EmptyImage(size[0], size[1]); len(got) != 0 {
				t.Errorf("EmptyImage(%d, %d) = %v", size[0], size[1], got)
			}
		}
	}
}

func TestP9CellAt(t *testing.T) {
	for _, m := range manyImages() {
		for y := -2; y <= impl.MaxSide+1; y++ {
			for x := -2; x <= impl.MaxSide+1; x++ {
				want := -1
				if y >= 0 && y < len(m) && x >= 0 && x < len(m[0]) {
					want = m[y][x]
				}
				if got := impl.CellAt(m, y, x); got != want {
					t.Fatalf("CellAt(%v, %d, %d) = %d, want %d", m, y, x, got, want)
				}
			}
		}
	}
}

func TestP9CellsFarAway(t *testing.T) {
	for _, m := range [][][]int{{{1}}, numbered(2, 3, 63), numbered(impl.MaxSide, impl.MaxSide, 1<<25-1)} {
		for _, n := range farInts {
			for _, place := range [][]int{{n, 0}, {0, n}, {n, n}, {len(m) - 1, n}, {n, len(m[0]) - 1}} {
				if got := impl.CellAt(m, place[0], place[1]); got != -1 {
					t.Errorf("CellAt(%v, %d, %d) = %d", m, place[0], place[1], got)
				}
				if got, ok := impl.PutCell(m, place[0], place[1], 0); len(got) != 0 || ok {
					t.Errorf("PutCell(%v, %d, %d, 0) = %v, %t", m, place[0], place[1], got, ok)
				}
			}
		}
	}
}

func TestP9PutCell(t *testing.T) {
	for _, m := range manyImages() {
		for y := -1; y <= len(m); y++ {
			for x := -1; x <= len(m[0]); x++ {
				for cell := range 2 {
					inside := y >= 0 && y < len(m) && x >= 0 && x < len(m[0])
					var want [][]int
					if inside {
						want = copied(m)
						want[y][x] = cell
					}
					if got, ok := impl.PutCell(m, y, x, cell); ok != inside || !same(got, want) {
						t.Fatalf("PutCell(%v, %d, %d, %d) = %v, %t, want %v", m, y, x, cell, got, ok, want)
					}
				}
			}
		}
	}
}

func TestP9PutCellColors(t *testing.T) {
	m := numbered(3, 4, 0x5a5)
	for _, cell := range append([]int{2, 3, 256, 257}, farInts...) {
		if got, ok := impl.PutCell(m, 1, 2, cell); len(got) != 0 || ok {
			t.Errorf("PutCell with the cell %d = %v, %t", cell, got, ok)
		}
	}
}

func TestP9CountBlack(t *testing.T) {
	for _, m := range manyImages() {
		want := 0
		for _, row := range m {
			for _, cell := range row {
				want += cell
			}
		}
		if got := impl.CountBlack(m); got != want {
			t.Errorf("CountBlack(%v) = %d, want %d", m, got, want)
		}
	}
}

func TestP9Turned(t *testing.T) {
	for _, c := range []struct{ m, transpose, mirror, invert [][]int }{
		{[][]int{{1}}, [][]int{{1}}, [][]int{{1}}, [][]int{{0}}},
		{[][]int{{0}}, [][]int{{0}}, [][]int{{0}}, [][]int{{1}}},
		{[][]int{{1, 0, 0}, {1, 1, 0}}, [][]int{{1, 1}, {0, 1}, {0, 0}}, [][]int{{0, 0, 1}, {0, 1, 1}}, [][]int{{0, 1, 1}, {0, 0, 1}}},
		{[][]int{{1, 1, 0, 0, 1}}, [][]int{{1}, {1}, {0}, {0}, {1}}, [][]int{{1, 0, 0, 1, 1}}, [][]int{{0, 0, 1, 1, 0}}},
		{[][]int{{1}, {0}, {0}, {0}, {1}}, [][]int{{1, 0, 0, 0, 1}}, [][]int{{1}, {0}, {0}, {0}, {1}}, [][]int{{0}, {1}, {1}, {1}, {0}}},
	} {
		if got := impl.TransposeOf(c.m); !same(got, c.transpose) {
			t.Errorf("TransposeOf(%v) = %v, want %v", c.m, got, c.transpose)
		}
		if got := impl.MirrorOf(c.m); !same(got, c.mirror) {
			t.Errorf("MirrorOf(%v) = %v, want %v", c.m, got, c.mirror)
		}
		if got := impl.InvertOf(c.m); !same(got, c.invert) {
			t.Errorf("InvertOf(%v) = %v, want %v", c.m, got, c.invert)
		}
	}
}

func TestP9TurnedEveryCell(t *testing.T) {
	for _, m := range manyImages() {
		rows, cols := len(m), len(m[0])
		transpose, mirror, invert := numbered(cols, rows, 0), numbered(rows, cols, 0), numbered(rows, cols, 0)
		for y := range rows {
			for x := range cols {
				transpose[x][y] = m[y][x]
				mirror[y][cols-1-x] = m[y][x]
				invert[y][x] = 1 - m[y][x]
			}
		}
		if !same(impl.TransposeOf(m), transpose) || !same(impl.MirrorOf(m), mirror) || !same(impl.InvertOf(m), invert) {
			t.Errorf("%v: transpose %v, mirror %v, invert %v", m, impl.TransposeOf(m), impl.MirrorOf(m), impl.InvertOf(m))
		}
	}
}

func TestP1TurnedTwice(t *testing.T) {
	for _, m := range manyImages() {
		for label, turn := range map[string]func([][]int) [][]int{
			"TransposeOf": impl.TransposeOf, "MirrorOf": impl.MirrorOf, "InvertOf": impl.InvertOf,
		} {
			if got := turn(turn(m)); !same(got, m) {
				t.Errorf("%s twice makes %v of %v", label, got, m)
			}
		}
		if impl.CountBlack(m)+impl.CountBlack(impl.InvertOf(m)) != len(m)*len(m[0]) {
			t.Errorf("the black cells of %v and its inverse are not all cells", m)
		}
	}
}

func TestP9SameImage(t *testing.T) {
	all := manyImages()
	for i, a := range all {
		if !impl.SameImage(a, copied(a)) {
			t.Errorf("SameImage(%v, itself) is false", a)
		}
		for j := i % 7; j < len(all); j += 7 {
			if got, want := impl.SameImage(a, all[j]), same(a, all[j]); got != want {
				t.Errorf("SameImage(%v, %v) = %t", a, all[j], got)
			}
		}
	}
}

func TestP9SameImageSizes(t *testing.T) {
	for _, c := range []struct{ a, b [][]int }{
		{[][]int{{0}}, [][]int{{0, 0}}}, {[][]int{{0}}, [][]int{{0}, {0}}}, {[][]int{{0, 0}}, [][]int{{0}, {0}}},
		{[][]int{{1, 0, 1, 0}}, [][]int{{1, 0}, {1, 0}}}, {[][]int{{0}}, nil}, {[][]int{{0}}, [][]int{{}}}, {[][]int{{}}, nil},
		{[][]int{{0, 1}, {0}}, [][]int{{0, 1}, {0, 0}}}, {[][]int{{2}}, [][]int{{3}}}, {[][]int{{-1}}, [][]int{{0}}},
		{numbered(5, 5, 0), numbered(6, 5, 0)}, {numbered(5, 5, 0), numbered(5, 6, 0)}, {numbered(5, 5, 0), numbered(4, 5, 0)},
	} {
		if impl.SameImage(c.a, c.b) || impl.SameImage(c.b, c.a) {
			t.Errorf("SameImage(%v, %v) is true", c.a, c.b)
		}
	}
	// Only the rows count: the document does not ask for valid images here.
	if !impl.SameImage(nil, [][]int{}) || !impl.SameImage([][]int{nil}, [][]int{{}}) {
		t.Error("SameImage tells nil and empty lists apart")
	}
	for label, m := range invalidImages() {
		if !impl.SameImage(m, copied(m)) {
			t.Errorf("SameImage of equal rows is false: %s", label)
		}
	}
}

func TestP9DistanceOf(t *testing.T) {
	for _, c := range []struct {
		a, b [][]int
		want int
	}{
		{[][]int{{0}}, [][]int{{0}}, 0}, {[][]int{{0}}, [][]int{{1}}, 1},
		{[][]int{{1, 0, 0}, {1, 1, 0}}, [][]int{{1, 0, 1}, {0, 1, 0}}, 2},
		{[][]int{{1, 0, 1, 0, 1}}, [][]int{{0, 1, 0, 1, 0}}, 5}, {numbered(5, 5, 0), numbered(5, 5, 1<<25-1), 25},
		{[][]int{{0}}, [][]int{{0, 0}}, -1}, {[][]int{{0}}, [][]int{{0}, {0}}, -1}, {[][]int{{0, 0}}, [][]int{{0}, {0}}, -1},
		{numbered(5, 5, 0), numbered(5, 4, 0), -1}, {numbered(5, 5, 0), numbered(4, 5, 0), -1}, {numbered(2, 3, 0), numbered(3, 2, 0), -1},
		{numbered(5, 5, 0), numbered(5, 6, 0), -1}, {numbered(6, 5, 0), numbered(6, 5, 0), -1},
	} {
		if got, back := impl.DistanceOf(c.a, c.b), impl.DistanceOf(c.b, c.a); got != c.want || back != c.want {
			t.Errorf("DistanceOf(%v, %v) = %d, and %d the other way, want %d", c.a, c.b, got, back, c.want)
		}
	}
}

func TestP1DistancesAreSymmetric(t *testing.T) {
	all := manyImages()
	for i, a := range all {
		if got := impl.DistanceOf(a, copied(a)); got != 0 {
			t.Errorf("DistanceOf(%v, itself) = %d", a, got)
		}
		for j := i % 11; j < len(all); j += 11 {
			b := all[j]
			want := -1
			if len(a) == len(b) && len(a[0]) == len(b[0]) {
				want = 0
				for y, row := range a {
					for x := range row {
						want += (a[y][x] + b[y][x]) % 2
					}
				}
			}
			if got, back := impl.DistanceOf(a, b), impl.DistanceOf(b, a); got != want || back != want {
				t.Errorf("DistanceOf(%v, %v) = %d, and %d the other way, want %d", a, b, got, back, want)
			}
		}
	}
}

// changers are the functions of images that return an image, each called so that it succeeds.
func changers() map[string]func(m [][]int) [][]int {
	return map[string]func(m [][]int) [][]int{
		"TransposeOf": impl.TransposeOf, "MirrorOf": impl.MirrorOf, "InvertOf": impl.InvertOf,
		"EmptyImage": func(m [][]int) [][]int { return impl.EmptyImage(len(m), len(m[0])) },
		"PutCell": func(m [][]int) [][]int {
			p, _ := impl.PutCell(m, len(m)-1, 0, 1)
			return p
		},
		"PutCell without a change": func(m [][]int) [][]int {
			p, _ := impl.PutCell(m, 0, 0, m[0][0])
			return p
		},
	}
}

// roomy returns an equal image with spare rows and cells behind it, and all of its memory.
func roomy(m [][]int) ([][]int, [][]int) {
	whole := make([][]int, 0, len(m)+2)
	for _, row := range m {
		whole = append(whole, append(slices.Clone(row), 7, 8, 9)[:len(row):len(row)+3])
	}
	whole = append(whole, []int{7, 8}, []int{9})
	return whole[:len(m)], whole
}

// memory returns the rows with all cells of their capacity.
func memory(whole [][]int) [][]int {
	all := make([][]int, len(whole))
	for y, row := range whole {
		all[y] = row[:cap(row)]
	}
	return all
}

func TestP9ImageArgumentsStay(t *testing.T) {
	for _, m := range [][][]int{{{1}}, {{0, 1, 1}}, {{1}, {0}, {1}}, numbered(2, 3, 0x2b), numbered(5, 5, 0x1234567), numbered(6, 6, 5), {{1, 2}, {0, 1}}, {{1}, {0, 1}}} {
		a, whole := roomy(m)
		b, wholeB := roomy(m)
		before := copied(memory(whole))
		impl.ImageOk(a)
		impl.CellAt(a, 0, 0)
		impl.CountBlack(a)
		impl.SameImage(a, b)
		impl.DistanceOf(a, b)
		impl.FormatImage(a)
		for _, change := range changers() {
			change(a)
		}
		if !same(memory(whole), before) || !same(memory(wholeB), before) {
			t.Errorf("the argument %v or the room behind it has become %v, %v", m, memory(whole), memory(wholeB))
		}
	}
}

func TestP9ImageResultsAreNew(t *testing.T) {
	parse := func(m [][]int) [][]int {
		p, _ := impl.ParseImage(impl.FormatImage(m))
		return p
	}
	for _, m := range [][][]int{{{0}}, {{0, 1, 1}}, {{1}, {0}, {1}}, numbered(2, 3, 0x2b), numbered(5, 5, 0x1234567)} {
		all := changers()
		all["ParseImage"] = parse
		for label, change := range all {
			a, whole := roomy(m)
			before := copied(memory(whole))
			first := change(a)
			want := copied(first)
			checkRowsApart(t, label, first)
			if !same(memory(whole), before) {
				t.Errorf("%s returns memory of its argument %v", label, m)
			}
			if second := change(a); !same(second, want) {
				t.Errorf("%s(%v) = %v after its first result was overwritten, want %v", label, m, second, want)
			}
		}
	}
}

// checkRowsApart overwrites all memory of the rows, upwards and downwards, and checks that no row writes into another one.
func checkRowsApart(t *testing.T, label string, m [][]int) {
	t.Helper()
	for _, down := range []bool{false, true} {
		for i := range m {
			if down {
				i = len(m) - 1 - i
			}
			row := m[i][:cap(m[i])]
			for x := range row {
				row[x] = 100 + i
			}
		}
		for i, row := range m {
			for _, cell := range row {
				if cell != 100+i {
					t.Fatalf("%s: two rows of one result share memory", label)
				}
			}
		}
	}
	clear(m[:cap(m)])
}

func TestP1ImagesAreRecoveredFromText(t *testing.T) {
	seen := map[string]bool{}
	all := manyImages()
	for _, m := range all {
		text := impl.FormatImage(m)
		if got, ok := impl.ParseImage(text); !ok || !same(got, m) {
			t.Errorf("ParseImage(%q) = %v, %t, want %v", text, got, ok, m)
		}
		if len(text) != len(m)*len(m[0])+len(m)-1 || strings.Count(text, "#") != impl.CountBlack(m) {
			t.Errorf("FormatImage(%v) = %q", m, text)
		}
		seen[text] = true
	}
	for _, text := range stringsUpTo(6, "#./") {
		m, ok := impl.ParseImage(text)
		if ok && impl.FormatImage(m) != text || !ok && (seen[text] || len(m) != 0) {
			t.Errorf("ParseImage(%q) = %v, %t", text, m, ok)
		}
	}
}

func TestP9FormatImage(t *testing.T) {
	for _, c := range []struct {
		m    [][]int
		text string
	}{
		{[][]int{{1}}, "#"}, {[][]int{{0}}, "."}, {[][]int{{1, 0, 0}, {1, 1, 0}}, "#../##."},
		{[][]int{{1}, {0}, {1}, {1}, {0}}, "#/./#/#/."}, {numbered(5, 5, 0), "...../...../...../...../....."},
	} {
		if got := impl.FormatImage(c.m); got != c.text {
			t.Errorf("FormatImage(%v) = %q, want %q", c.m, got, c.text)
		}
		if got, ok := impl.ParseImage(c.text); !ok || !same(got, c.m) {
			t.Errorf("ParseImage(%q) = %v, %t, want %v", c.text, got, ok, c.m)
		}
	}
}

func TestP9ParseImageInvalid(t *testing.T) {
	for _, text := range []string{
		"", "/", "//", "#/", "/#", "#//#", "#./#", "#/#.", "######", "#/#/#/#/#/#", "#####/######", "#.\n", "#.\n..", " #", "# ", "#,#", "#|#",
		"0", "1", "10/01", "?", "\x00", "#\x00", "\xff", "#\xff", "\xae", "＃", "·", "#．", "\ufffd", strings.Repeat("#", 5000), strings.Repeat("#/", 5000), strings.Repeat("#", 261),
	} {
		if got, ok := impl.ParseImage(text); len(got) != 0 || ok {
			t.Errorf("ParseImage(%q) = %v, %t", text, got, ok)
		}
	}
}

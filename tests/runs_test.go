package tests

import (
	"fmt"
	"maps"
	"math"
	"slices"
	"strconv"
	"strings"
	"testing"

	"loop.example/g00860/impl"
)

// runsIn reads lists of runs: those of a line are separated by commas, - stands for none, and spaces separate the lines.
func runsIn(text string) [][]int {
	var list [][]int
	for _, word := range strings.Fields(text) {
		var runs []int
		for _, part := range strings.Split(word, ",") {
			if n, err := strconv.Atoi(part); err == nil {
				runs = append(runs, n)
			}
		}
		list = append(list, runs)
	}
	return list
}

// asked reads a puzzle: the runs of the rows, | and those of the columns.
func asked(text string) impl.Puzzle {
	rows, cols, _ := strings.Cut(text, "|")
	return impl.Puzzle{Rows: runsIn(rows), Cols: runsIn(cols)}
}

func samePuzzle(p, q impl.Puzzle) bool { return same(p.Rows, q.Rows) && same(p.Cols, q.Cols) }

// nameOf is the same for puzzles with the same runs.
func nameOf(p impl.Puzzle) string { return fmt.Sprint(p.Rows, p.Cols) }

// runsByHand returns the lengths of the words that the black cells are between white ones.
func runsByHand(line []int) []int {
	var text strings.Builder
	for _, cell := range line {
		if cell == 1 {
			text.WriteByte('#')
		} else {
			text.WriteByte(' ')
		}
	}
	var runs []int
	for _, word := range strings.Fields(text.String()) {
		runs = append(runs, len(word))
	}
	return runs
}

func allRunsByHand(lines [][]int) [][]int {
	var list [][]int
	for _, line := range lines {
		list = append(list, runsByHand(line))
	}
	return list
}

func puzzleByHand(m [][]int) impl.Puzzle {
	return impl.Puzzle{Rows: allRunsByHand(m), Cols: allRunsByHand(columnsOf(m))}
}

// allLines returns all lines of so many cells in lexicographic order.
func allLines(cells int) [][]int { return listsOf(cells, 0, 1) }

func linesByHand(runs []int, cells int) [][]int {
	return slices.DeleteFunc(allLines(cells), func(line []int) bool { return !slices.Equal(runsByHand(line), runs) })
}

// runsOfLength returns the runs that lines of so many cells can have.
func runsOfLength(cells int) [][]int {
	all := allRunsByHand(allLines(cells))
	slices.SortFunc(all, slices.Compare[[]int])
	return slices.CompactFunc(all, slices.Equal[[]int])
}

// smallRuns returns all lists of at most 4 runs from -1 to MaxSide + 1.
func smallRuns() [][]int {
	var all [][]int
	for n := range 5 {
		all = append(all, listsOf(n, -1, impl.MaxSide+1)...)
	}
	return all
}

// solvedByHand counts the lines that agree with the state, and those of them in which a cell is black.
func solvedByHand(lines [][]int, state []int) ([]int, bool) {
	agreeing := 0
	solved := make([]int, len(state))
	for _, line := range lines {
		if !meets([][]int{line}, [][]int{state}) {
			continue
		}
		agreeing++
		for i, cell := range line {
			solved[i] += cell
		}
	}
	for i, blacks := range solved {
		switch blacks {
		case 0:
		case agreeing:
			solved[i] = 1
		default:
			solved[i] = -1
		}
	}
	return solved, agreeing > 0
}

func hasAt(lines [][]int, i, cell int) bool {
	return slices.ContainsFunc(lines, func(line []int) bool { return line[i] == cell })
}

func withoutAt(lines [][]int, i, cell int) [][]int {
	return slices.DeleteFunc(lines, func(line []int) bool { return line[i] == cell })
}

// deducedByHand takes away the lines that have a color in a cell where no line across has it, until there are no more of them.
func deducedByHand(p impl.Puzzle) ([][]int, bool) {
	rows, cols := make([][][]int, len(p.Rows)), make([][][]int, len(p.Cols))
	for y, runs := range p.Rows {
		rows[y] = linesByHand(runs, len(cols))
	}
	for x, runs := range p.Cols {
		cols[x] = linesByHand(runs, len(rows))
	}
	states := evenMask(len(rows), len(cols), -1)
	for before := [][]int(nil); !same(before, states); {
		before = copied(states)
		for y := range rows {
			for x := range cols {
				for cell := range 2 {
					if !hasAt(rows[y], x, cell) || !hasAt(cols[x], y, cell) {
						states[y][x] = 1 - cell
						rows[y], cols[x] = withoutAt(rows[y], x, cell), withoutAt(cols[x], y, cell)
					}
				}
				if len(rows[y]) == 0 || len(cols[x]) == 0 {
					return nil, false
				}
			}
		}
	}
	return states, true
}

// choicesOf returns all lists of n of the given lists of runs.
func choicesOf(n int, from [][]int) [][][]int {
	var all [][][]int
	for _, choice := range listsOf(n, 0, len(from)-1) {
		var list [][]int
		for _, i := range choice {
			list = append(list, from[i])
		}
		all = append(all, list)
	}
	return all
}

// eachPuzzle calls check for all valid puzzles of a size.
func eachPuzzle(nRows, nCols int, check func(p impl.Puzzle)) {
	allRows, allCols := choicesOf(nRows, runsOfLength(nCols)), choicesOf(nCols, runsOfLength(nRows))
	for _, rows := range allRows {
		for _, cols := range allCols {
			check(impl.Puzzle{Rows: rows, Cols: cols})
		}
	}
}

// imagesByPuzzle returns all images of a size in lexicographic order, by the names of their puzzles.
func imagesByPuzzle(nRows, nCols int) map[string][][][]int {
	images := map[string][][][]int{}
	for n := range 1 << (nRows * nCols) {
		m := ordered(nRows, nCols, n)
		name := nameOf(puzzleByHand(m))
		images[name] = append(images[name], m)
	}
	return images
}

// imagesOfRows tries all lines for each row.
func imagesOfRows(p impl.Puzzle) [][][]int {
	images := [][][]int{nil}
	for _, runs := range p.Rows {
		var longer [][][]int
		for _, m := range images {
			for _, row := range linesByHand(runs, len(p.Cols)) {
				longer = append(longer, append(slices.Clone(m), row))
			}
		}
		images = longer
	}
	return slices.DeleteFunc(images, func(m [][]int) bool { return !samePuzzle(puzzleByHand(m), p) })
}

// kindOf says in words what is true of a valid puzzle with so many solutions.
func kindOf(deduced, logical bool, solutions int) string {
	if !deduced {
		return "fails"
	}
	if solutions > 1 {
		solutions = 2
	}
	return []string{"none", "one", "several"}[solutions] + map[bool]string{true: ", logical", false: ""}[logical]
}

// checkPuzzle checks what is said of a valid puzzle, of which want has all solutions in order, and returns its kind.
func checkPuzzle(t *testing.T, p impl.Puzzle, want [][][]int) string {
	t.Helper()
	if !impl.PuzzleOk(p) {
		t.Fatalf("PuzzleOk(%v) is false", p)
	}
	if got, ok := impl.SolvePuzzle(p); !ok || !slices.EqualFunc(got, want, same) {
		t.Fatalf("SolvePuzzle(%v) = %v, %t, want %v", p, got, ok, want)
	}
	states, deduced := deducedByHand(p)
	got, ok := impl.Deduce(p)
	if ok != deduced || !same(got, states) {
		t.Fatalf("Deduce(%v) = %v, %t, want %v, %t", p, got, ok, states, deduced)
	}
	if !ok && len(want) > 0 {
		t.Fatalf("Deduce(%v) fails, but there are the solutions %v", p, want)
	}
	for _, m := range want {
		if q, ok := impl.PuzzleOf(m); !ok || !samePuzzle(p, q) || !meets(m, got) {
			t.Fatalf("Deduce(%v) = %v does not hold in %v, of which PuzzleOf is %v", p, got, m, q)
		}
	}
	logical := impl.IsLogical(p)
	if logical != (deduced && freeIn(states) == 0) || logical && (len(want) != 1 || !same(got, want[0])) {
		t.Fatalf("IsLogical(%v) = %t, but Deduce = %v, %t, and the solutions are %v", p, logical, got, ok, want)
	}
	return kindOf(deduced, logical, len(want))
}

// checkKinds checks that there were puzzles of each kind that there is.
func checkKinds(t *testing.T, kinds map[string]int) {
	t.Helper()
	if got := slices.Sorted(maps.Keys(kinds)); !slices.Equal(got, []string{"fails", "none", "one", "one, logical", "several"}) {
		t.Errorf("the puzzles are of the kinds %v", kinds)
	}
}

// A riddle is a puzzle with what Deduce leaves (? for unknown cells), the empty text if it fails, and all solutions.
type riddle struct {
	p         string
	states    string
	solutions []string
}

var riddlesByHand = []riddle{
	// One cell.
	{"- | -", ".", []string{"."}}, {"1 | 1", "#", []string{"#"}}, {"1 | -", "", nil}, {"- | 1", "", nil},
	// 1 row and 1 column.
	{"1,1 | 1 - 1", "#.#", []string{"#.#"}}, {"2 | - 1 1 -", ".##.", []string{".##."}}, {"5 | 1 1 1 1 1", "#####", []string{"#####"}}, {"1,1,1 | 1 - 1 - 1", "#.#.#", []string{"#.#.#"}}, {"- | - - - - -", ".....", []string{"....."}}, {"1,2 | - 1 - 1 1", ".#.##", []string{".#.##"}},
	{"1 | - -", "", nil}, {"1 | 1 1", "", nil}, {"1,1 | 1 1 -", "", nil}, {"2 | 1 - 1", "", nil}, {"- | - - 1", "", nil}, {"2 | - - 1 - -", "", nil},
	{"1 - 1 | 1,1", "#/./#", []string{"#/./#"}}, {"1 1 - 1 | 2,1", "#/#/./#", []string{"#/#/./#"}}, {"1 1 1 1 1 | 5", "#/#/#/#/#", []string{"#/#/#/#/#"}}, {"- - - - - | -", "././././.", []string{"././././."}}, {"1 - - - 1 | 2", "", nil}, {"1 1 | 1", "", nil},
	// One solution, and all cells are deduced.
	{"2 1 | 2 1", "##/#.", []string{"##/#."}}, {"- 2 - | 1 1 -", ".../##./...", []string{".../##./..."}}, {"3 1 3 | 1,1 3 1,1", "###/.#./###", []string{"###/.#./###"}}, {"5 4 3 2 1 | 5 4 3 2 1", "#####/####./###../##.../#....", []string{"#####/####./###../##.../#...."}},
	{"1,1 5 5 3 1 | 2 4 4 4 2", ".#.#./#####/#####/.###./..#..", []string{".#.#./#####/#####/.###./..#.."}}, {"1,1,1 1,1 1,1,1 1,1 1,1,1 | 1,1,1 1,1 1,1,1 1,1 1,1,1", "#.#.#/.#.#./#.#.#/.#.#./#.#.#", []string{"#.#.#/.#.#./#.#.#/.#.#./#.#.#"}},
	{"5 5 5 5 5 | 5 5 5 5 5", "#####/#####/#####/#####/#####", []string{"#####/#####/#####/#####/#####"}}, {"- - - - - | - - - - -", "...../...../...../...../.....", []string{"...../...../...../...../....."}},
	// One solution that is not deduced: Deduce leaves all cells unknown, or some.
	{"1,1 2 | 1 1 1 1", "????/????", []string{"#..#/.##."}}, {"2 1,1 | 1 1 1 1", "????/????", []string{".##./#..#"}}, {"1 1 1 1 | 1,1 2", "??/??/??/??", []string{"#./.#/.#/#."}}, {"1,1 1,2 2 | 2 1 2 2", "????/#.##/????", []string{"#..#/#.##/.##."}}, {"1 1 1 1 | 2 - 1,1", "?.?/?.?/?.?/?.?", []string{"..#/#../#../..#"}},
	// Several solutions.
	{"1 1 | 1 1", "??/??", []string{".#/#.", "#./.#"}}, {"1 1 | - 1 1", ".??/.??", []string{"..#/.#.", ".#./..#"}}, {"1 - 1 | 1 1", "??/../??", []string{".#/../#.", "#./../.#"}}, {"2 2 | 1 1 1 1", "????/????", []string{"..##/##..", "##../..##"}}, {"1,1 1,1 | 1 1 1 1", "????/????", []string{".#.#/#.#.", "#.#./.#.#"}},
	{"1 1 1 | 1 1 1", "???/???/???", []string{"..#/.#./#..", "..#/#../.#.", ".#./..#/#..", ".#./#../..#", "#../..#/.#.", "#../.#./..#"}}, {"1 2 1 | 1 2 1", "???/?#?/???", []string{"..#/##./.#.", ".#./.##/#..", ".#./##./..#", "#../.##/.#."}}, {"1,1 2 1 | 1 2 1 1", "????/?#?./????", []string{".#.#/.##./#...", ".#.#/##../..#.", "#..#/.##./.#.."}},
	// No solution, though nothing that is deduced of a line says so. In the last three rows and columns have as many black cells.
	{"1 1 | 1 1 1", "???/???", nil}, {"1 1 1 | 1 1", "??/??/??", nil}, {"- 1 1 | 1 1 1", ".../???/???", nil}, {"1 1 | 1 - 1 1", "?.??/?.??", nil},
	{"1 2 - 2 1 | 2 1,1 1,1", "?.?/?#?/.../?#?/?.?", nil}, {"2,1 2,1 1 1 2 | 1 2,1 1 3 1,1", "?#???/?#???/...#./?????/?????", nil}, {"1,1 1,1 1,1 1,1 | 1,1 1,1 1,1 2", "????/????/????/????", nil},
	// Deduce fails, though the runs of each line fit.
	{"- 2 | - 2", "", nil}, {"2 - | 2 -", "", nil}, {"- 1,1 | - 1 1", "", nil}, {"5 5 5 5 5 | 5 5 5 5 4", "", nil}, {"- - - - - | - - 1 - -", "", nil}, {"5 - 5 - 5 | 1,1,1 1,1,1 1,1 1,1,1 1,1,1", "", nil}, {"3 3 3 | 3 1 3", "", nil},
}

func (r riddle) images() [][][]int {
	var list [][][]int
	for _, text := range r.solutions {
		list = append(list, drawn(text))
	}
	return list
}

func TestP8PuzzlesByHand(t *testing.T) {
	for _, r := range riddlesByHand {
		p := asked(r.p)
		kind := checkPuzzle(t, p, r.images())
		states, ok := impl.Deduce(p)
		if ok != (r.states != "") || ok && !same(states, masked(r.states)) {
			t.Errorf("Deduce of %s = %v, %t, want %q", r.p, states, ok, r.states)
		}
		logical := r.states != "" && !strings.Contains(r.states, "?")
		if kind != kindOf(r.states != "", logical, len(r.solutions)) {
			t.Errorf("the kind of %s is %s", r.p, kind)
		}
	}
}

func TestP8AllPuzzlesOfSmallSizes(t *testing.T) {
	t.Parallel()
	kinds := map[string]int{}
	for nRows := 1; nRows <= impl.MaxSide; nRows++ {
		for nCols := 1; nCols <= impl.MaxSide; nCols++ {
			if nRows*nCols > 9 {
				continue
			}
			images := imagesByPuzzle(nRows, nCols)
			eachPuzzle(nRows, nCols, func(p impl.Puzzle) { kinds[checkPuzzle(t, p, images[nameOf(p)])]++ })
		}
	}
	checkKinds(t, kinds)
}

func TestP8PuzzlesOfAllImages(t *testing.T) {
	t.Parallel()
	for nRows := 1; nRows <= impl.MaxSide; nRows++ {
		for nCols := 1; nCols <= impl.MaxSide; nCols++ {
			cells := nRows * nCols
			if cells < 10 || cells > 16 {
				continue
			}
			images := imagesByPuzzle(nRows, nCols)
			// Above 12 cells a part of the puzzles.
			for seed, name := range slices.Sorted(maps.Keys(images)) {
				if cells <= 12 || scattered(seed, 16) == 0 {
					checkPuzzle(t, puzzleByHand(images[name][0]), images[name])
				}
			}
		}
	}
}

func TestP8PuzzlesOfGreaterImages(t *testing.T) {
	t.Parallel()
	for _, size := range [][2]int{{4, 5}, {5, 4}, {5, 5}} {
		count := 1 << (size[0] * size[1])
		for seed := range 400 {
			m := ordered(size[0], size[1], scattered(seed+1000*size[0]+size[1], count))
			p := puzzleByHand(m)
			solutions := imagesOfRows(p)
			if !slices.ContainsFunc(solutions, func(other [][]int) bool { return same(other, m) }) {
				t.Fatalf("the images with the runs of %v are not found by hand", m)
			}
			checkPuzzle(t, p, solutions)
		}
	}
}

// TestP8SpoiltPuzzles gives other runs to one or two lines of the puzzle of an image.
func TestP8SpoiltPuzzles(t *testing.T) {
	t.Parallel()
	kinds := map[string]int{}
	for nRows := 2; nRows <= impl.MaxSide; nRows++ {
		for nCols := 2; nCols <= impl.MaxSide; nCols++ {
			forRows, forCols := runsOfLength(nCols), runsOfLength(nRows)
			for n := range 300 {
				seed := 1000*(nRows+10*nCols) + n
				p := puzzleByHand(ordered(nRows, nCols, scattered(seed, 1<<(nRows*nCols))))
				p.Rows[n%nRows] = forRows[scattered(seed+1, len(forRows))]
				if n%2 == 0 {
					p.Cols[n%nCols] = forCols[scattered(seed+2, len(forCols))]
				}
				kinds[checkPuzzle(t, p, imagesOfRows(p))]++
			}
		}
	}
	checkKinds(t, kinds)
}

func TestP9CountOfSolutions(t *testing.T) {
	for _, c := range []struct {
		p    string
		want int
	}{
		{"1 1 1 1 | 1 1 1 1", 24}, {"1 1 1 1 1 | 1 1 1 1 1", 120}, {"4 4 4 4 | 4 4 4 4", 1}, {"1 1 1 1 1 | 1 1 1 1", 0}, {"1 1 1 1 | 1 1 1 1 1", 0}, {"1 - 1 - 1 | - 1 1 1 -", 6}, {"2 2 2 2 | 2 2 2 2", 2},
	} {
		p := asked(c.p)
		if got, ok := impl.SolvePuzzle(p); !ok || len(got) != c.want {
			t.Errorf("SolvePuzzle of %s has %d images, %t, want %d", c.p, len(got), ok, c.want)
		}
		checkPuzzle(t, p, imagesOfRows(p))
	}
}

func TestP9RunsOfByHand(t *testing.T) {
	for _, c := range []struct{ line, want []int }{
		{nil, nil}, {[]int{}, nil}, {[]int{0}, nil}, {[]int{1}, []int{1}}, {[]int{0, 0, 0, 0, 0}, nil}, {[]int{1, 1, 1, 1, 1}, []int{5}},
		{[]int{1, 0}, []int{1}}, {[]int{0, 1}, []int{1}}, {[]int{1, 1, 0, 1}, []int{2, 1}}, {[]int{1, 0, 1, 1}, []int{1, 2}}, {[]int{0, 1, 1, 0}, []int{2}}, {[]int{1, 0, 1, 0, 1}, []int{1, 1, 1}}, {[]int{0, 1, 0, 1, 0}, []int{1, 1}}, {[]int{1, 0, 0, 0, 1}, []int{1, 1}}, {[]int{1, 1, 0, 1, 1}, []int{2, 2}}, {[]int{1, 0, 1, 1, 1}, []int{1, 3}}, {[]int{1, 1, 1, 0, 1}, []int{3, 1}},
		// Elements other than 1 are white.
		{[]int{2}, nil}, {[]int{-1}, nil}, {[]int{1, 2, 1}, []int{1, 1}}, {[]int{1, -1, 1}, []int{1, 1}}, {[]int{1, 1, 3, 2, 1}, []int{2, 1}}, {[]int{math.MinInt, 1, math.MaxInt}, []int{1}}, {[]int{257, 1<<32 + 1, -255, 1}, []int{1}}, {[]int{-1, -1, -1}, nil}, {[]int{2, 2, 1, 1, 2, 2}, []int{2}},
		// Lines longer than MaxSide.
		{[]int{1, 1, 1, 1, 1, 1}, []int{6}}, {[]int{0, 0, 0, 0, 0, 0}, nil}, {[]int{1, 0, 1, 0, 1, 0, 1, 0}, []int{1, 1, 1, 1}}, {[]int{0, 1, 1, 1, 1, 1, 1, 1, 0, 0, 1, 1}, []int{7, 2}},
	} {
		if got := impl.RunsOf(c.line); !slices.Equal(got, c.want) {
			t.Errorf("RunsOf(%v) = %v, want %v", c.line, got, c.want)
		}
	}
}

func TestP9RunsOfAllLines(t *testing.T) {
	for n := range 12 {
		for _, line := range allLines(n) {
			if got := impl.RunsOf(line); !slices.Equal(got, runsByHand(line)) || total(got) != total(line) {
				t.Fatalf("RunsOf(%v) = %v, want %v", line, got, runsByHand(line))
			}
		}
	}
	for n := range 7 {
		for _, line := range listsOf(n, -1, 2) {
			if got := impl.RunsOf(line); !slices.Equal(got, runsByHand(line)) {
				t.Fatalf("RunsOf(%v) = %v, want %v", line, got, runsByHand(line))
			}
		}
	}
}

func TestP9RunsOfLongLines(t *testing.T) {
	for _, n := range []int{6, 7, 100, 100000} {
		for label, c := range map[string]struct{ line, want []int }{
			"white": {make([]int, n), nil}, "black": {slices.Repeat([]int{1}, n), []int{n}},
			"1 0":   {slices.Repeat([]int{1, 0}, n), slices.Repeat([]int{1}, n)},
			"0 1 1": {slices.Repeat([]int{0, 1, 1}, n), slices.Repeat([]int{2}, n)},
			"1 7 1": {slices.Repeat([]int{1, 7, 1}, n), append(append([]int{1}, slices.Repeat([]int{2}, n-1)...), 1)},
		} {
			if got := impl.RunsOf(c.line); !slices.Equal(got, c.want) {
				t.Errorf("RunsOf of %d times %s has %d runs, want %d", n, label, len(got), len(c.want))
			}
		}
	}
}

func TestP9LinesForByHand(t *testing.T) {
	for _, c := range []struct {
		runs  []int
		cells int
		want  string
	}{
		// No runs.
		{nil, 1, "."}, {[]int{}, 3, "..."}, {nil, 5, "....."},
		// A run as long as the line, and one that is longer.
		{[]int{1}, 1, "#"}, {[]int{5}, 5, "#####"}, {[]int{2}, 1, ""}, {[]int{6}, 5, ""}, {[]int{3}, 2, ""}, {[]int{4}, 5, ".####/####."},
		// Runs that just fit, and that do not.
		{[]int{1, 1}, 3, "#.#"}, {[]int{1, 1}, 2, ""}, {[]int{2, 2}, 5, "##.##"}, {[]int{2, 2}, 4, ""}, {[]int{1, 1, 1}, 5, "#.#.#"}, {[]int{1, 1, 1}, 4, ""}, {[]int{1, 3}, 5, "#.###"}, {[]int{3, 1}, 5, "###.#"}, {[]int{3, 2}, 5, ""}, {[]int{1, 1, 2}, 5, ""}, {[]int{5, 1}, 5, ""}, {[]int{1, 1, 1, 1}, 5, ""},
		// Several lines.
		{[]int{1}, 3, "..#/.#./#.."}, {[]int{1}, 5, "....#/...#./..#../.#.../#...."}, {[]int{2}, 5, "...##/..##./.##../##..."}, {[]int{1, 1}, 4, ".#.#/#..#/#.#."}, {[]int{1, 1}, 5, "..#.#/.#..#/.#.#./#...#/#..#./#.#.."}, {[]int{1, 2}, 5, ".#.##/#..##/#.##."}, {[]int{2, 1}, 5, ".##.#/##..#/##.#."},
		// Runs of 0 and below, which no line has.
		{[]int{0}, 1, ""}, {[]int{0}, 5, ""}, {[]int{0, 0}, 5, ""}, {[]int{1, 0}, 5, ""}, {[]int{0, 1}, 5, ""}, {[]int{1, 0, 1}, 5, ""}, {[]int{-1}, 5, ""}, {[]int{-1, 2}, 5, ""}, {[]int{2, -1}, 5, ""}, {[]int{3, -2, 1}, 5, ""}, {[]int{math.MinInt}, 5, ""}, {[]int{math.MaxInt}, 5, ""},
		// Sums that wrap around to 0 and 1.
		{[]int{math.MinInt, math.MinInt}, 5, ""}, {[]int{math.MaxInt, math.MaxInt, 2}, 5, ""}, {[]int{math.MaxInt, math.MaxInt, 3}, 5, ""}, {[]int{math.MinInt, math.MaxInt, 2}, 5, ""},
		// Lines of 0 and of MaxSide + 1 cells.
		{nil, 0, ""}, {[]int{1}, 0, ""}, {nil, 6, ""}, {[]int{1}, 6, ""}, {[]int{6}, 6, ""}, {nil, -1, ""}, {[]int{2}, 63, ""}, {[]int{2}, 64, ""}, {nil, 65, ""},
	} {
		var want [][]int
		if c.want != "" {
			want = drawn(c.want)
			if !same(want, linesByHand(c.runs, c.cells)) {
				t.Errorf("linesByHand(%v, %d) = %v", c.runs, c.cells, linesByHand(c.runs, c.cells))
			}
		}
		if got := impl.LinesFor(c.runs, c.cells); !same(got, want) {
			t.Errorf("LinesFor(%v, %d) = %v, want %v", c.runs, c.cells, got, want)
		}
	}
}

func TestP9LinesForAllRuns(t *testing.T) {
	t.Parallel()
	for cells := 1; cells <= impl.MaxSide; cells++ {
		lines := map[string][][]int{}
		for _, line := range allLines(cells) {
			name := fmt.Sprint(runsByHand(line))
			lines[name] = append(lines[name], line)
		}
		found := 0
		for _, runs := range smallRuns() {
			got := impl.LinesFor(runs, cells)
			if want := lines[fmt.Sprint(runs)]; !same(got, want) || !slices.IsSortedFunc(got, slices.Compare[[]int]) {
				t.Fatalf("LinesFor(%v, %d) = %v, want %v", runs, cells, got, want)
			}
			for _, line := range got {
				if len(line) != cells || !slices.Equal(impl.RunsOf(line), runs) || total(line) != total(runs) {
					t.Fatalf("LinesFor(%v, %d) = %v, but RunsOf(%v) = %v", runs, cells, got, line, impl.RunsOf(line))
				}
			}
			found += len(got)
		}
		if found != 1<<cells {
			t.Errorf("LinesFor has found %d lines of %d cells", found, cells)
		}
	}
}

func TestP9LinesForFarNumbers(t *testing.T) {
	for _, n := range farInts {
		for _, runs := range [][]int{nil, {0}, {1}, {2, 2}, {5}, {n}} {
			if got := impl.LinesFor(runs, n); len(got) != 0 {
				t.Errorf("LinesFor(%v, %d) = %v", runs, n, got)
			}
		}
		for cells := range impl.MaxSide + 2 {
			for _, runs := range [][]int{{n}, {n, 1}, {1, n}, {n, n}, {1, n, 1}, {n, 1 - n}, {n, -n}} {
				if got := impl.LinesFor(runs, cells); len(got) != 0 {
					t.Errorf("LinesFor(%v, %d) = %v", runs, cells, got)
				}
			}
		}
	}
	for _, n := range []int{0, 1, 5, -1, math.MaxInt} {
		if got := impl.LinesFor(slices.Repeat([]int{n}, 100000), impl.MaxSide); len(got) != 0 {
			t.Errorf("LinesFor of 100000 runs of %d = %v", n, got)
		}
	}
}

func TestP9SolveLineByHand(t *testing.T) {
	for _, c := range []struct {
		runs  []int
		state string
		want  string
	}{
		// All cells unknown.
		{nil, "?", "."}, {[]int{1}, "?", "#"}, {nil, "?????", "....."}, {[]int{5}, "?????", "#####"}, {[]int{3}, "????", "?##?"}, {[]int{4}, "?????", "?###?"}, {[]int{3}, "?????", "??#??"}, {[]int{2}, "?????", "?????"}, {[]int{2}, "???", "?#?"}, {[]int{1, 1}, "???", "#.#"}, {[]int{1, 1}, "????", "????"}, {[]int{1, 2}, "?????", "???#?"}, {[]int{2, 2}, "?????", "##.##"}, {[]int{1, 1, 1}, "?????", "#.#.#"}, {[]int{1}, "?????", "?????"},
		// Some cells known.
		{[]int{1}, "#????", "#...."}, {[]int{1}, "??#??", "..#.."}, {[]int{1}, ".????", ".????"}, {[]int{1}, "....?", "....#"}, {[]int{2}, "#????", "##..."}, {[]int{2}, "?#???", "?#?.."}, {[]int{2}, "??#??", ".?#?."}, {[]int{2}, "??.??", "??.??"}, {[]int{2}, "?.???", "..?#?"}, {[]int{3}, "#????", "###.."}, {[]int{3}, "????.", "?##?."}, {[]int{1, 1}, "?#???", ".#.??"}, {[]int{1, 1}, "?.???", "?.???"}, {[]int{1, 1}, "..???", "..#.#"}, {[]int{1, 2}, "#????", "#.?#?"}, {[]int{1, 2}, "????.", "#.##."}, {[]int{2, 1}, "??.??", "##.??"},
		{[]int{1, 1}, "#???#", "#...#"}, {[]int{2}, "#?", "##"}, {nil, "?.?", "..."}, {[]int{1, 1, 1}, "?????", "#.#.#"}, {[]int{1, 1, 1}, "#.?.#", "#.#.#"},
		// All cells known.
		{nil, ".", "."}, {[]int{1}, "#", "#"}, {[]int{1, 2}, "#.##.", "#.##."}, {[]int{5}, "#####", "#####"}, {nil, ".....", "....."},
		// No line agrees.
		{nil, "#", ""}, {[]int{1}, ".", ""}, {[]int{1}, "##", ""}, {[]int{1}, "##???", ""}, {[]int{1}, "#???#", ""}, {[]int{2}, "#.???", ""}, {[]int{2}, "?.?.?", ""}, {[]int{5}, "????.", ""}, {[]int{1, 2}, "##???", ""}, {[]int{1, 2}, "..???", ""}, {[]int{2, 1}, "#.##.", ""}, {nil, "???#?", ""}, {[]int{3}, "??.??", ""},
		// No line has these runs.
		{[]int{2}, "?", ""}, {[]int{6}, "?????", ""}, {[]int{1, 1}, "??", ""}, {[]int{3, 2}, "?????", ""}, {[]int{0}, "?????", ""}, {[]int{-1}, "?????", ""}, {[]int{1, 0}, "?????", ""}, {[]int{0, 2}, ".##..", ""}, {[]int{0}, "....", ""}, {[]int{math.MinInt}, "?????", ""}, {[]int{math.MaxInt}, "?????", ""}, {[]int{math.MaxInt, math.MaxInt, 3}, "?????", ""}, {[]int{math.MinInt, math.MinInt}, ".....", ""},
	} {
		got, ok := impl.SolveLine(c.runs, masked(c.state)[0])
		if ok != (c.want != "") || ok && !slices.Equal(got, masked(c.want)[0]) || !ok && len(got) > 0 {
			t.Errorf("SolveLine(%v, %s) = %v, %t, want %q", c.runs, c.state, got, ok, c.want)
		}
	}
}

func TestP9SolveLineOfAllStates(t *testing.T) {
	t.Parallel()
	for cells := 1; cells <= impl.MaxSide; cells++ {
		// Beside all runs that fit, those that do not with each state of 3 cells, and with some of the greater ones.
		lists := slices.Concat(runsOfLength(cells), smallRuns())
		for i, runs := range lists {
			lines := linesByHand(runs, cells)
			for seed, state := range listsOf(cells, -1, 1) {
				if len(lines) == 0 && cells > 3 && (i+seed)%41 > 0 {
					continue
				}
				checkSolved(t, runs, state, lines)
			}
		}
	}
}

// checkSolved checks SolveLine for a valid state, with all lines that have the runs.
func checkSolved(t *testing.T, runs, state []int, lines [][]int) {
	t.Helper()
	want, some := solvedByHand(lines, state)
	got, ok := impl.SolveLine(runs, state)
	if ok != some || ok && !slices.Equal(got, want) || !ok && len(got) > 0 {
		t.Fatalf("SolveLine(%v, %v) = %v, %t, want %v, %t", runs, state, got, ok, want, some)
	}
	if !ok {
		return
	}
	if !meets([][]int{got}, [][]int{state}) {
		t.Fatalf("SolveLine(%v, %v) = %v has other known cells", runs, state, got)
	}
	if again, ok := impl.SolveLine(runs, got); !ok || !slices.Equal(again, got) {
		t.Fatalf("SolveLine(%v, %v) = %v, but of this it is %v, %t", runs, state, got, again, ok)
	}
}

func TestP9SolveLineOfInvalidStates(t *testing.T) {
	fail := func(runs, state []int) {
		t.Helper()
		if got, ok := impl.SolveLine(runs, state); len(got) != 0 || ok {
			t.Errorf("SolveLine(%v, %v) = %v, %t", runs, state, got, ok)
		}
	}
	for _, runs := range [][]int{nil, {}, {0}, {1}, {2}, {5}, {6}, {1, 1}, {-1}, {math.MinInt}, {math.MaxInt}} {
		fail(runs, nil)
		fail(runs, []int{})
		for _, n := range []int{6, 7, 31, 32, 63, 64, 65, 100000} {
			for cell := -1; cell <= 1; cell++ {
				fail(runs, slices.Repeat([]int{cell}, n))
			}
		}
		for cells := 1; cells <= impl.MaxSide; cells++ {
			for i := range cells {
				for _, n := range append([]int{2, 3}, farInts...) {
					if n == -1 {
						continue
					}
					for cell := -1; cell <= 1; cell++ {
						state := slices.Repeat([]int{cell}, cells)
						state[i] = n
						fail(runs, state)
					}
				}
			}
		}
	}
}

func TestP9PuzzleOfImages(t *testing.T) {
	t.Parallel()
	check := func(m [][]int) {
		p, ok := impl.PuzzleOf(m)
		if !ok || !samePuzzle(p, puzzleByHand(m)) || !impl.PuzzleOk(p) {
			t.Fatalf("PuzzleOf(%v) = %v, %t, want %v; PuzzleOk = %t", m, p, ok, puzzleByHand(m), impl.PuzzleOk(p))
		}
		for y, sum := range impl.RowSums(m) {
			if total(p.Rows[y]) != sum || !slices.Equal(impl.RunsOf(m[y]), p.Rows[y]) {
				t.Fatalf("PuzzleOf(%v) = %v, but the row %d has the sum %d", m, p, y, sum)
			}
		}
		for x, sum := range impl.ColSums(m) {
			if total(p.Cols[x]) != sum {
				t.Fatalf("PuzzleOf(%v) = %v, but the column %d has the sum %d", m, p, x, sum)
			}
		}
		if q, ok := impl.PuzzleOf(impl.TransposeOf(m)); !ok || !samePuzzle(q, impl.Puzzle{Rows: p.Cols, Cols: p.Rows}) {
			t.Fatalf("PuzzleOf(%v) = %v, but that of the transposed image is %v, %t", m, p, q, ok)
		}
	}
	for nRows := 1; nRows <= impl.MaxSide; nRows++ {
		for nCols := 1; nCols <= impl.MaxSide; nCols++ {
			count := 1 << (nRows * nCols)
			// Above 12 cells about 4000 images of a size.
			for n := 0; n < count; n += max(1, count/4000) {
				check(ordered(nRows, nCols, n))
			}
			check(ordered(nRows, nCols, count-1))
		}
	}
}

func TestP9PuzzleOfInvalidImages(t *testing.T) {
	bad := invalidImages()
	for y := range impl.MaxSide {
		for x := range impl.MaxSide {
			for _, cell := range append([]int{2}, farInts...) {
				m := numbered(impl.MaxSide, impl.MaxSide, (1<<25-1)*(y%2))
				m[y][x] = cell
				bad[fmt.Sprintf("the cell %d at (%d, %d)", cell, y, x)] = m
			}
		}
	}
	for label, m := range bad {
		if p, ok := impl.PuzzleOf(m); len(p.Rows) != 0 || len(p.Cols) != 0 || ok {
			t.Errorf("PuzzleOf = %v, %t: %s", p, ok, label)
		}
		if impl.IsHConvex(m) || impl.IsVConvex(m) {
			t.Errorf("IsHConvex or IsVConvex is true: %s", label)
		}
	}
}

func TestP9PuzzleOkOfSizes(t *testing.T) {
	for nRows := range impl.MaxSide + 3 {
		for nCols := range impl.MaxSide + 3 {
			want := nRows >= 1 && nRows <= impl.MaxSide && nCols >= 1 && nCols <= impl.MaxSide
			p := impl.Puzzle{Rows: make([][]int, nRows), Cols: make([][]int, nCols)}
			if got := impl.PuzzleOk(p); got != want {
				t.Errorf("PuzzleOk of %d rows and %d columns without runs is %t", nRows, nCols, got)
			}
			if want {
				checkPuzzle(t, p, [][][]int{numbered(nRows, nCols, 0)})
			} else {
				checkNoPuzzle(t, "size", p)
			}
			full := impl.Puzzle{Rows: slices.Repeat([][]int{{nCols}}, nRows), Cols: slices.Repeat([][]int{{nRows}}, nCols)}
			if got := impl.PuzzleOk(full); got != want {
				t.Errorf("PuzzleOk of %d full rows and %d full columns is %t", nRows, nCols, got)
			}
			if want {
				checkPuzzle(t, full, [][][]int{numbered(nRows, nCols, 1<<25-1)})
			} else {
				checkNoPuzzle(t, "size", full)
			}
		}
	}
}

// TestP9PuzzleOkOfRuns puts lists of runs, one at a time, into each row and column of all sizes.
func TestP9PuzzleOkOfRuns(t *testing.T) {
	t.Parallel()
	for _, runs := range smallRuns() {
		for nRows := 1; nRows <= impl.MaxSide; nRows++ {
			for nCols := 1; nCols <= impl.MaxSide; nCols++ {
				fitsRow, fitsCol := fitsByHand(runs, nCols), fitsByHand(runs, nRows)
				for y := range nRows {
					p := impl.Puzzle{Rows: make([][]int, nRows), Cols: make([][]int, nCols)}
					p.Rows[y] = runs
					if got := impl.PuzzleOk(p); got != fitsRow {
						t.Fatalf("PuzzleOk(%v) = %t", p, got)
					}
				}
				for x := range nCols {
					p := impl.Puzzle{Rows: make([][]int, nRows), Cols: make([][]int, nCols)}
					p.Cols[x] = runs
					if got := impl.PuzzleOk(p); got != fitsCol {
						t.Fatalf("PuzzleOk(%v) = %t", p, got)
					}
				}
			}
		}
	}
}

// fitsByHand puts the runs one after the other, with one white cell behind each.
func fitsByHand(runs []int, cells int) bool {
	next := 0
	for _, n := range runs {
		if n < 1 || n > cells {
			return false
		}
		next += n + 1
	}
	return next <= cells+1
}

func TestP9RunsFitExactlyIfALineHasThem(t *testing.T) {
	t.Parallel()
	for _, runs := range smallRuns() {
		for cells := 1; cells <= impl.MaxSide; cells++ {
			p := impl.Puzzle{Rows: [][]int{runs}, Cols: make([][]int, cells)}
			some := len(impl.LinesFor(runs, cells)) > 0
			if impl.PuzzleOk(p) != some || fitsByHand(runs, cells) != some {
				t.Fatalf("PuzzleOk(%v) = %t, LinesFor = %v", p, impl.PuzzleOk(p), impl.LinesFor(runs, cells))
			}
			if _, ok := impl.SolveLine(runs, slices.Repeat([]int{-1}, cells)); ok != some {
				t.Fatalf("SolveLine of %v and %d unknown cells is %t", runs, cells, ok)
			}
		}
	}
}

// checkNoPuzzle checks that nothing is found out about a puzzle that is not valid.
func checkNoPuzzle(t *testing.T, label string, p impl.Puzzle) {
	t.Helper()
	if impl.PuzzleOk(p) {
		t.Errorf("PuzzleOk is true: %s", label)
	}
	if got, ok := impl.Deduce(p); len(got) != 0 || ok {
		t.Errorf("Deduce = %v, %t: %s", got, ok, label)
	}
	if got, ok := impl.SolvePuzzle(p); len(got) != 0 || ok {
		t.Errorf("SolvePuzzle = %v, %t: %s", got, ok, label)
	}
	if impl.IsLogical(p) {
		t.Errorf("IsLogical is true: %s", label)
	}
}

// invalidPuzzles returns puzzles that are not valid, each for one reason.
func invalidPuzzles() map[string]impl.Puzzle {
	bad := map[string]impl.Puzzle{
		"nil": {}, "empty": {Rows: [][]int{}, Cols: [][]int{}}, "nil rows": {Cols: [][]int{{}}}, "nil columns": {Rows: [][]int{{}}}, "empty rows": {Rows: [][]int{}, Cols: [][]int{{}, {}}}, "empty columns": {Rows: [][]int{{}, {}}, Cols: [][]int{}},
		"6 rows": asked("1 - - - - - | 1"), "6 columns": asked("1 | 1 - - - - -"), "6 both": asked("- - - - - - | - - - - - -"), "a run of 6 columns": asked("6 | 1 1 1 1 1 1"), "a run of 6 rows": asked("1 1 1 1 1 1 | 6"), "1000 rows": {Rows: make([][]int, 1000), Cols: make([][]int, 1)}, "1000 columns": {Rows: make([][]int, 1), Cols: make([][]int, 1000)},
		"a run longer than the row": asked("2 | 1"), "a run longer than the column": asked("1 | 2"), "runs longer than the row": asked("1,1 - | 1 1"), "runs longer than the column": asked("1 1 | 1,1 -"), "2 and 2 in 4 columns": asked("2,2 | 1 1 1 1"), "2 and 2 in 4 rows": asked("1 1 1 1 | 2,2"), "3 and 2": asked("3,2 - | 1 1 1 1 1"), "4 runs": asked("1,1,1,1 | 1 1 1 1 -"),
		"wraparound to 0": {Rows: [][]int{{math.MinInt, math.MinInt}}, Cols: [][]int{{}, {}, {}, {}}}, "wraparound to 1": {Rows: [][]int{{math.MaxInt, math.MaxInt, 3}}, Cols: [][]int{{1}, {}, {}, {}, {}}}, "wraparound in a column": {Rows: [][]int{{1}, {}, {}, {}, {}}, Cols: [][]int{{math.MaxInt, math.MaxInt, 3}}},
		"a negative run that makes others fit": asked("3,-3,3 | 1 1 1"), "0 between runs": asked("1,0,1 | 1 - 1"), "0 for a white row": asked("0 | - - -"), "0 for a white column": asked("- - - | 0"), "100000 runs": {Rows: [][]int{slices.Repeat([]int{1}, 100000)}, Cols: make([][]int, 5)}, "100000 runs of 0": {Rows: make([][]int, 5), Cols: [][]int{slices.Repeat([]int{0}, 100000)}},
	}
	for _, m := range []string{"#", "#.#/.#.", "#####/####./###../##.../#....", "...../..#../...../...../....."} {
		for _, n := range append([]int{0}, farInts...) {
			p := puzzleByHand(drawn(m))
			for y := range p.Rows {
				q := impl.Puzzle{Rows: copied(p.Rows), Cols: copied(p.Cols)}
				q.Rows[y] = append(q.Rows[y], n)
				bad[fmt.Sprintf("%s with one more run of %d in the row %d", m, n, y)] = q
			}
			for x := range p.Cols {
				q := impl.Puzzle{Rows: copied(p.Rows), Cols: copied(p.Cols)}
				q.Cols[x] = []int{n}
				bad[fmt.Sprintf("%s with the run %d in the column %d", m, n, x)] = q
			}
		}
	}
	return bad
}

func TestP9InvalidPuzzles(t *testing.T) {
	for label, p := range invalidPuzzles() {
		checkNoPuzzle(t, label, p)
		checkNoPuzzle(t, label+", exchanged", impl.Puzzle{Rows: p.Cols, Cols: p.Rows})
	}
}

func atMostOneRun(list [][]int) bool {
	return !slices.ContainsFunc(list, func(runs []int) bool { return len(runs) > 1 })
}

func TestP5RowsOfConvexImagesHaveAtMostOneRun(t *testing.T) {
	t.Parallel()
	check := func(m [][]int) {
		p, ok := impl.PuzzleOf(m)
		h, v := atMostOneRun(p.Rows), atMostOneRun(p.Cols)
		if !ok || impl.IsHConvex(m) != h || impl.IsVConvex(m) != v || impl.IsConvex(m) != (h && v) {
			t.Fatalf("IsHConvex, IsVConvex and IsConvex of %v are %t, %t and %t, but PuzzleOf = %v, %t", m, impl.IsHConvex(m), impl.IsVConvex(m), impl.IsConvex(m), p, ok)
		}
		for y, row := range m {
			if _, length, ok := impl.IntervalOf(row); ok != (len(p.Rows[y]) < 2) || ok && length != total(p.Rows[y]) {
				t.Fatalf("IntervalOf(%v) = %d, %t, but the runs are %v", row, length, ok, p.Rows[y])
			}
		}
	}
	for nRows := 1; nRows <= impl.MaxSide; nRows++ {
		for nCols := 1; nCols <= impl.MaxSide; nCols++ {
			cells := nRows * nCols
			// Of the sizes above 16 cells a part of the images, and all that are convex polyominoes.
			for n := 0; n < 1<<cells; n += max(1, 1<<cells/65536) {
				check(ordered(nRows, nCols, n))
			}
			if cells > 16 {
				for _, m := range convexOfSize(nRows, nCols) {
					check(m)
				}
			}
		}
	}
}

// callRuns calls all functions of the chapter.
func callRuns(p impl.Puzzle, m [][]int, line []int) {
	impl.RunsOf(line)
	impl.PuzzleOf(m)
	impl.PuzzleOk(p)
	for _, runs := range slices.Concat(p.Rows, p.Cols, [][]int{line}) {
		for cells := range impl.MaxSide + 2 {
			impl.LinesFor(runs, cells)
		}
		impl.SolveLine(runs, line)
	}
	impl.Deduce(p)
	impl.SolvePuzzle(p)
	impl.IsLogical(p)
}

func TestP9RunsArgumentsStay(t *testing.T) {
	check := func(p impl.Puzzle, m [][]int, line []int) {
		t.Helper()
		rows, wholeRows := roomy(p.Rows)
		cols, wholeCols := roomy(p.Cols)
		a, wholeM := roomy(m)
		b, wholeLine := withRoom(line)
		whole := func() [][]int {
			return slices.Concat(memory(wholeRows), memory(wholeCols), memory(wholeM), [][]int{wholeLine})
		}
		before := copied(whole())
		callRuns(impl.Puzzle{Rows: rows, Cols: cols}, a, b)
		if !same(whole(), before) {
			t.Errorf("the arguments %v, %v and %v or the room behind them have become %v", p, m, line, whole())
		}
	}
	p, m, line := asked("1,1 2 | 1 1 1 1"), numbered(2, 3, 0x2b), []int{-1, 1, -1}
	for _, r := range riddlesByHand {
		check(asked(r.p), m, line)
	}
	for _, p := range invalidPuzzles() {
		check(p, m, line)
	}
	for _, m := range slices.AppendSeq([][][]int{{{1}}, {{0, 1, 1}}, numbered(5, 5, 0x1234567), numbered(4, 3, 0xb5d)}, maps.Values(invalidImages())) {
		check(p, m, line)
	}
	for _, line := range slices.Concat(listsOf(3, -1, 1), [][]int{nil, {1}, {0, 1, -1, 1, 0}, {-1, -1, -1, -1, -1}, {1, 1, 1, 1, 1}, {2, 1, -2}, {1, 0, 1, 0, 1, 0, 1}}) {
		check(p, m, line)
	}
}

// checkPuzzleNew overwrites what is returned for a puzzle, and checks that it is the same again.
func checkPuzzleNew(t *testing.T, p impl.Puzzle, want [][][]int) {
	t.Helper()
	rows, wholeRows := roomy(p.Rows)
	cols, wholeCols := roomy(p.Cols)
	whole := append(wholeRows, wholeCols...)
	before := copied(memory(whole))
	p = impl.Puzzle{Rows: rows, Cols: cols}
	for range 3 {
		checkPuzzle(t, p, want)
		states, _ := impl.Deduce(p)
		checkRowsApart(t, "Deduce", states)
		list, _ := impl.SolvePuzzle(p)
		checkRowsApart(t, "SolvePuzzle", slices.Concat(list...))
		checkImagesApart(t, "SolvePuzzle", list)
		clear(list[:cap(list)])
	}
	if !same(memory(whole), before) {
		t.Errorf("a result for %v is memory of it", p)
	}
}

func TestP9PuzzleResultsAreNew(t *testing.T) {
	for _, r := range riddlesByHand {
		checkPuzzleNew(t, asked(r.p), r.images())
		for _, m := range r.images() {
			a, whole := roomy(m)
			before := copied(memory(whole))
			for range 3 {
				p, ok := impl.PuzzleOf(a)
				if !ok || !samePuzzle(p, asked(r.p)) {
					t.Fatalf("PuzzleOf(%v) = %v, %t, want %s", a, p, ok, r.p)
				}
				checkRowsApart(t, "PuzzleOf", slices.Concat(p.Rows, p.Cols))
				checkImagesApart(t, "PuzzleOf", [][][]int{p.Rows, p.Cols})
			}
			if !same(memory(whole), before) {
				t.Errorf("PuzzleOf returns memory of its argument %v", m)
			}
		}
	}
}

func TestP9LineResultsAreNew(t *testing.T) {
	for cells := 1; cells <= impl.MaxSide; cells++ {
		for _, list := range runsOfLength(cells) {
			lines := linesByHand(list, cells)
			runs, wholeRuns := withRoom(list)
			runsBefore := slices.Clone(wholeRuns)
			for range 3 {
				got := impl.LinesFor(runs, cells)
				if !same(got, lines) {
					t.Fatalf("LinesFor(%v, %d) = %v, want %v", runs, cells, got, lines)
				}
				checkRowsApart(t, "LinesFor", got)
			}
			for _, known := range append(lines, slices.Repeat([]int{-1}, cells)) {
				state, whole := withRoom(known)
				before := slices.Clone(whole)
				for range 3 {
					checkSolved(t, runs, state, lines)
					solved, _ := impl.SolveLine(runs, state)
					checkRowsApart(t, "SolveLine", [][]int{solved, impl.RunsOf(state)})
				}
				if !slices.Equal(whole, before) {
					t.Errorf("SolveLine or RunsOf returns memory of the state %v", known)
				}
			}
			if !slices.Equal(wholeRuns, runsBefore) {
				t.Errorf("LinesFor or SolveLine returns memory of the runs %v", list)
			}
		}
	}
}

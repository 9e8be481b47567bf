package tests

import (
	"math"
	"math/bits"
	"slices"
	"testing"

	"loop.example/g00860/impl"
)

// colSums are the column sums of an image, with zeros behind them.
type colSums [impl.MaxSide]int

// colSumsFor finds the column sums of all images with these row sums by trying all choices of black cells, row by row.
func colSumsFor(rows []int, cols int) map[colSums]bool {
	found := map[colSums]bool{{}: true}
	for _, sum := range rows {
		next := map[colSums]bool{}
		for chosen := range uint(1) << cols {
			if bits.OnesCount(chosen) != sum {
				continue
			}
			for sums := range found {
				for x := range cols {
					sums[x] += int(chosen >> x & 1)
				}
				next[sums] = true
			}
		}
		found = next
	}
	return found
}

// colSumsOf returns a list as a key of colSumsFor.
func colSumsOf(list []int) colSums {
	var sums colSums
	copy(sums[:], list)
	return sums
}

// descending returns the lists of listsOf whose elements do not ascend.
func descending(n, least, most int) [][]int {
	return slices.DeleteFunc(listsOf(n, least, most), func(list []int) bool {
		for i := 1; i < len(list); i++ {
			if list[i-1] < list[i] {
				return true
			}
		}
		return false
	})
}

// eachSums calls check for sums of all sizes whose totals agree; of the greatest size, only for row sums in descending order and in the other one.
func eachSums(check func(rows, cols []int, exists bool)) {
	for nRows := 1; nRows <= impl.MaxSide; nRows++ {
		for nCols := 1; nCols <= impl.MaxSide; nCols++ {
			lists := listsOf(nRows, 0, nCols)
			if nRows == impl.MaxSide && nCols == impl.MaxSide {
				lists = descending(nRows, 0, nCols)
				for _, rows := range slices.Clone(lists) {
					rows = slices.Clone(rows)
					slices.Reverse(rows)
					lists = append(lists, rows)
				}
			}
			byTotal := map[int][][]int{}
			for _, cols := range listsOf(nCols, 0, nRows) {
				byTotal[total(cols)] = append(byTotal[total(cols)], cols)
			}
			for _, rows := range lists {
				found := colSumsFor(rows, nCols)
				for _, cols := range byTotal[total(rows)] {
					check(rows, cols, found[colSumsOf(cols)])
				}
			}
		}
	}
}

// mostInAny is the greatest sum of k of the elements, over all choices of them.
func mostInAny(list []int, k int) int {
	most := 0
	for chosen := range uint(1) << len(list) {
		if bits.OnesCount(chosen) != k {
			continue
		}
		sum := 0
		for i, n := range list {
			sum += n * int(chosen>>i&1)
		}
		most = max(most, sum)
	}
	return most
}

// worstBySums is the least k for which some k columns have more black cells than the rows can have in them; 0 if there is none.
func worstBySums(rows, cols []int) int {
	for k := 1; k <= len(cols); k++ {
		room := 0
		for _, n := range rows {
			room += min(n, k)
		}
		if mostInAny(cols, k) > room {
			return k
		}
	}
	return 0
}

// invalidSums returns rows and columns that SumsOk does not accept, each for one reason.
func invalidSums() map[string][2][]int {
	bad := map[string][2][]int{
		"nil": {nil, nil}, "empty": {{}, {}}, "nil rows": {nil, {0}}, "nil columns": {{0}, nil}, "empty rows": {{}, {0, 0}}, "empty columns": {{0, 0}, {}},
		"more in rows": {{2, 1}, {1, 1}}, "more in columns": {{1, 0}, {1, 1}}, "rows only": {{1}, {0}}, "columns only": {{0}, {1}}, "one row": {{2}, {1}},
		"row -1": {{-1, 1}, {0, 0}}, "row above": {{3, 0}, {2, 1}}, "column -1": {{0, 0}, {-1, 1}}, "column above": {{2, 1}, {3, 0}},
		"all -1": {{-1, -1}, {-1, -1}}, "one cell of 2": {{2}, {2}}, "one cell of -1": {{-1}, {-1}},
		"MaxSide + 1 rows": {make([]int, impl.MaxSide+1), {0}}, "MaxSide + 1 columns": {{0}, make([]int, impl.MaxSide+1)},
		"MaxSide + 1 black rows": {{1, 1, 1, 1, 1, 1}, {6}}, "MaxSide + 1 black columns": {{6}, {1, 1, 1, 1, 1, 1}}, "MaxSide + 1 both": {make([]int, impl.MaxSide+1), make([]int, impl.MaxSide+1)},
		"1000 both": {make([]int, 1000), make([]int, 1000)}, "wraparound to 0": {{math.MinInt, math.MinInt}, {0, 0}}, "wraparound to 1": {{math.MaxInt, math.MaxInt, 3}, {1, 0, 0}},
	}
	for _, n := range farInts {
		label := impl.FormatInt(n)
		bad["row "+label] = [2][]int{{0, n}, {0, 0}}
		bad["column "+label] = [2][]int{{0, 0}, {n, 0}}
		bad["row and column "+label] = [2][]int{{n, 0}, {0, n}}
		bad["one row and column "+label] = [2][]int{{n}, {n}}
		bad["all "+label] = [2][]int{{n, n, n, n, n}, {n, n, n, n, n}}
		bad["cancelled "+label] = [2][]int{{n, -n}, {0, 0}}
	}
	return bad
}

func TestP9ConjugateOf(t *testing.T) {
	for _, c := range []struct {
		list []int
		n    int
		want []int
	}{
		{[]int{3, 1}, 3, []int{2, 1, 1}}, {[]int{1, 3}, 3, []int{2, 1, 1}}, {[]int{2, 2, 1}, 4, []int{3, 2, 0, 0}},
		{[]int{5, 4, 3, 2, 1}, 5, []int{5, 4, 3, 2, 1}}, {[]int{1, 2, 3, 4, 5}, 5, []int{5, 4, 3, 2, 1}}, {[]int{5, 0, 0, 2, 2}, 5, []int{3, 3, 1, 1, 1}},
		{nil, 1, []int{0}}, {nil, 2, []int{0, 0}}, {[]int{}, 5, []int{0, 0, 0, 0, 0}},
		{[]int{0}, 1, []int{0}}, {[]int{1}, 1, []int{1}}, {[]int{1, 0, 1, 1, 1}, 1, []int{4}}, {[]int{0}, 5, []int{0, 0, 0, 0, 0}}, {[]int{5}, 5, []int{1, 1, 1, 1, 1}},
		{[]int{0, 0, 0, 0, 0}, 5, []int{0, 0, 0, 0, 0}}, {[]int{5, 5, 5, 5, 5}, 5, []int{5, 5, 5, 5, 5}}, {[]int{0, 0, 0, 0, 0}, 1, []int{0}}, {[]int{1, 1, 1, 1, 1}, 1, []int{5}},
		{[]int{4}, 3, nil}, {[]int{-1}, 3, nil}, {[]int{3, -1}, 3, nil}, {[]int{6, 5, 5, 5, 5}, 5, nil}, {[]int{2}, 1, nil},
		{[]int{0, 0, 0, 0, 0, 0}, 5, nil}, {[]int{1, 1, 1, 1, 1, 1}, 1, nil}, {make([]int, 1000), 5, nil},
		{nil, 0, nil}, {nil, -1, nil}, {nil, 6, nil}, {[]int{0}, 0, nil}, {[]int{-1}, -1, nil}, {[]int{1}, 6, nil}, {[]int{}, 0, nil},
	} {
		if got := impl.ConjugateOf(c.list, c.n); !slices.Equal(got, c.want) {
			t.Errorf("ConjugateOf(%v, %d) = %v, want %v", c.list, c.n, got, c.want)
		}
	}
}

func TestP9ConjugateOfAllLists(t *testing.T) {
	for n := 1; n <= impl.MaxSide; n++ {
		for size := range impl.MaxSide + 1 {
			for _, list := range listsOf(size, -1, n+1) {
				var want []int
				if size == 0 || slices.Min(list) >= 0 && slices.Max(list) <= n {
					for k := 1; k <= n; k++ {
						want = append(want, len(slices.DeleteFunc(slices.Clone(list), func(element int) bool { return element < k })))
					}
				}
				if got := impl.ConjugateOf(list, n); !slices.Equal(got, want) {
					t.Fatalf("ConjugateOf(%v, %d) = %v, want %v", list, n, got, want)
				}
			}
		}
		for _, list := range listsOf(impl.MaxSide+1, 0, min(n, 2)) {
			if got := impl.ConjugateOf(list, n); len(got) != 0 {
				t.Fatalf("ConjugateOf(%v, %d) = %v", list, n, got)
			}
		}
	}
}

func TestP9ConjugateOfFarNumbers(t *testing.T) {
	for _, far := range farInts {
		for _, list := range [][]int{nil, {0}, {1, 1}, {far}, {far, far}} {
			if got := impl.ConjugateOf(list, far); len(got) != 0 {
				t.Errorf("ConjugateOf(%v, %d) = %v", list, far, got)
			}
		}
		for n := 1; n <= impl.MaxSide; n++ {
			for _, list := range [][]int{{far}, {far, 0}, {0, far}, {1, 0, far, 1, 1}, {1, 1, 1, 1, far}} {
				if got := impl.ConjugateOf(list, n); len(got) != 0 {
					t.Errorf("ConjugateOf(%v, %d) = %v", list, n, got)
				}
			}
		}
	}
}

func TestP2ConjugateTwiceIsSortedDown(t *testing.T) {
	for n := 1; n <= impl.MaxSide; n++ {
		for size := 1; size <= impl.MaxSide; size++ {
			for _, list := range listsOf(size, 0, n) {
				conjugate := impl.ConjugateOf(list, n)
				if total(conjugate) != total(list) || len(conjugate) != n {
					t.Fatalf("ConjugateOf(%v, %d) = %v", list, n, conjugate)
				}
				if got := impl.ConjugateOf(conjugate, size); !slices.Equal(got, impl.SortedDown(list)) {
					t.Fatalf("ConjugateOf(%v, %d) = %v, from %v", conjugate, size, got, list)
				}
			}
		}
	}
}

func TestP9SortedDown(t *testing.T) {
	for _, c := range []struct{ list, want []int }{
		{nil, nil}, {[]int{}, nil}, {[]int{0}, []int{0}}, {[]int{-7}, []int{-7}}, {[]int{1, 3, 2}, []int{3, 2, 1}},
		{[]int{3, 2, 1}, []int{3, 2, 1}}, {[]int{1, 2, 3}, []int{3, 2, 1}}, {[]int{5, 4, 3, 2, 1}, []int{5, 4, 3, 2, 1}}, {[]int{1, 2, 3, 4, 5}, []int{5, 4, 3, 2, 1}},
		{[]int{2, 2, 2}, []int{2, 2, 2}}, {[]int{1, 2, 1, 2, 1}, []int{2, 2, 1, 1, 1}}, {[]int{-1, 0, -2, 1, -1}, []int{1, 0, -1, -1, -2}}, {[]int{-3, -2, -1}, []int{-1, -2, -3}},
		{[]int{math.MinInt, math.MaxInt}, []int{math.MaxInt, math.MinInt}}, {[]int{0, math.MinInt, -1, math.MaxInt, 1}, []int{math.MaxInt, 1, 0, -1, math.MinInt}},
		{[]int{math.MaxInt, -2, math.MinInt, math.MaxInt}, []int{math.MaxInt, math.MaxInt, -2, math.MinInt}}, {[]int{7, 6, 5, 4, 3, 2, 1, 0}, []int{7, 6, 5, 4, 3, 2, 1, 0}}, {[]int{0, 1, 2, 3, 4, 5, 6, 7}, []int{7, 6, 5, 4, 3, 2, 1, 0}},
	} {
		if got := impl.SortedDown(c.list); !slices.Equal(got, c.want) {
			t.Errorf("SortedDown(%v) = %v, want %v", c.list, got, c.want)
		}
	}
}

// sortedByHand returns the elements in descending order: each is put in before the first lesser one.
func sortedByHand(list []int) []int {
	var sorted []int
	for _, n := range list {
		at := 0
		for at < len(sorted) && sorted[at] >= n {
			at++
		}
		sorted = slices.Insert(sorted, at, n)
	}
	return sorted
}

func TestP9SortedDownManyLists(t *testing.T) {
	lists := [][]int{farInts, append(slices.Clone(farInts), farInts...)}
	for size := range impl.MaxSide + 2 {
		lists = append(lists, listsOf(size, -2, 2)...)
	}
	for _, size := range []int{12, 13, 100, 1000} {
		list := make([]int, size)
		for i := range list {
			list[i] = i*i*7919%501 - 250
		}
		lists = append(lists, list)
	}
	for _, list := range lists {
		if got, want := impl.SortedDown(list), sortedByHand(list); !slices.Equal(got, want) {
			t.Errorf("SortedDown(%v) = %v, want %v", list, got, want)
		}
	}
}

func TestP9ExistsWorstColumnsAndSlackOf(t *testing.T) {
	for _, c := range []struct {
		rows, cols []int
		worst      int
	}{
		{[]int{0}, []int{0}, 0}, {[]int{1}, []int{1}, 0}, {[]int{2, 1}, []int{1, 1, 1}, 0}, {[]int{1, 2}, []int{2, 1, 0}, 0}, {[]int{2, 2}, []int{2, 1, 1}, 0},
		{[]int{3, 0}, []int{2, 1, 0}, 1}, {[]int{0, 3}, []int{0, 1, 2}, 1}, {[]int{2, 0}, []int{2, 0}, 1}, {[]int{2, 0}, []int{0, 2}, 1},
		{[]int{3, 3, 0}, []int{2, 2, 2}, 0}, {[]int{3, 3, 0}, []int{3, 2, 1}, 1}, {[]int{3, 1, 1}, []int{3, 2, 0}, 2}, {[]int{3, 1, 1}, []int{0, 2, 3}, 2},
		{[]int{4, 4, 2, 2}, []int{4, 4, 4, 0}, 3}, {[]int{5, 5, 5, 2, 2}, []int{5, 5, 4, 4, 1}, 3}, {[]int{5, 5, 3, 3, 3}, []int{5, 5, 5, 4, 0}, 4}, {[]int{3, 5, 3, 5, 3}, []int{4, 0, 5, 5, 5}, 4},
		{[]int{5, 5, 5, 5, 1}, []int{5, 5, 5, 5, 1}, 2}, {[]int{5, 1, 1, 1, 1}, []int{2, 2, 2, 2, 1}, 0}, {[]int{5, 1, 1, 1, 1}, []int{5, 1, 1, 1, 1}, 0}, {[]int{5, 1, 1, 1, 1}, []int{3, 3, 1, 1, 1}, 0}, {[]int{5, 5, 0, 0, 0}, []int{3, 3, 2, 1, 1}, 1},
		// Sums that are all 0 and all the greatest ones.
		{[]int{0, 0, 0, 0, 0}, []int{0, 0, 0, 0, 0}, 0}, {[]int{5, 5, 5, 5, 5}, []int{5, 5, 5, 5, 5}, 0}, {[]int{0, 0}, []int{0, 0, 0}, 0}, {[]int{3, 3}, []int{2, 2, 2}, 0},
		// 1 row or 1 column.
		{[]int{3}, []int{1, 0, 1, 1, 0}, 0}, {[]int{5}, []int{1, 1, 1, 1, 1}, 0}, {[]int{0}, []int{0, 0, 0, 0, 0}, 0}, {[]int{1, 0, 1, 1, 0}, []int{3}, 0}, {[]int{0, 0, 0, 0, 0}, []int{0}, 0}, {[]int{1, 1, 1, 1, 1}, []int{5}, 0},
		// Equal column sums.
		{[]int{2, 2, 2, 2, 2}, []int{2, 2, 2, 2, 2}, 0}, {[]int{1, 3}, []int{1, 1, 1, 1}, 0}, {[]int{4, 4, 0}, []int{2, 2, 2, 2}, 0}, {[]int{5, 0, 0, 0, 0}, []int{1, 1, 1, 1, 1}, 0},
	} {
		exists, slack := c.worst == 0, -1
		if exists {
			slack = 0
		}
		if got := impl.Exists(c.rows, c.cols); got != exists {
			t.Errorf("Exists(%v, %v) = %t", c.rows, c.cols, got)
		}
		if got := impl.WorstColumns(c.rows, c.cols); got != c.worst {
			t.Errorf("WorstColumns(%v, %v) = %d, want %d", c.rows, c.cols, got, c.worst)
		}
		if got := impl.SlackOf(c.rows, c.cols); got != slack {
			t.Errorf("SlackOf(%v, %v) = %d, want %d", c.rows, c.cols, got, slack)
		}
	}
}

func TestP2ExistsExactlyIfThereIsAnImage(t *testing.T) {
	eachSums(func(rows, cols []int, exists bool) {
		if got := impl.Exists(rows, cols); got != exists {
			t.Errorf("Exists(%v, %v) = %t", rows, cols, got)
		}
		if back := impl.Exists(cols, rows); back != exists {
			t.Errorf("Exists(%v, %v) = %t", cols, rows, back)
		}
	})
}

func TestP2SumsOfImagesExist(t *testing.T) {
	for _, m := range manyImages() {
		rows, cols := rowsAndCols(m)
		if !impl.Exists(rows, cols) || impl.WorstColumns(rows, cols) != 0 || impl.SlackOf(rows, cols) != 0 {
			t.Errorf("the sums %v and %v of %v: Exists %t, WorstColumns %d, SlackOf %d", rows, cols, m, impl.Exists(rows, cols), impl.WorstColumns(rows, cols), impl.SlackOf(rows, cols))
		}
	}
}

func TestP2WorstColumnsAndSlackOfAllSums(t *testing.T) {
	eachSums(func(rows, cols []int, exists bool) {
		worst := worstBySums(rows, cols)
		if got := impl.WorstColumns(rows, cols); got != worst || (worst == 0) != exists {
			t.Errorf("WorstColumns(%v, %v) = %d, want %d, and an image exists: %t", rows, cols, got, worst, exists)
		}
		slack := -1
		if exists {
			slack = 0
		}
		if got := impl.SlackOf(rows, cols); got != slack {
			t.Errorf("SlackOf(%v, %v) = %d, want %d", rows, cols, got, slack)
		}
	})
}

func TestP9ExistenceOfInvalidSums(t *testing.T) {
	for label, c := range invalidSums() {
		if impl.Exists(c[0], c[1]) {
			t.Errorf("Exists is true: %s", label)
		}
		if got := impl.WorstColumns(c[0], c[1]); got != 0 {
			t.Errorf("WorstColumns = %d: %s", got, label)
		}
		if got := impl.SlackOf(c[0], c[1]); got != -1 {
			t.Errorf("SlackOf = %d: %s", got, label)
		}
	}
}

func TestP9ExistenceOfSmallLists(t *testing.T) {
	for nRows := range 4 {
		for nCols := range 4 {
			for _, rows := range listsOf(nRows, -1, nCols+1) {
				// Row sums that no image has would count as those of other column sums.
				valid := nRows > 0 && nCols > 0 && slices.Min(rows) >= 0 && slices.Max(rows) <= nCols
				found := colSumsFor(rows, nCols)
				for _, cols := range listsOf(nCols, -1, nRows+1) {
					exists := valid && found[colSumsOf(cols)]
					worst := 0
					if valid && total(rows) == total(cols) && slices.Min(cols) >= 0 && slices.Max(cols) <= nRows {
						worst = worstBySums(rows, cols)
					}
					if got, gotWorst := impl.Exists(rows, cols), impl.WorstColumns(rows, cols); got != exists || gotWorst != worst {
						t.Fatalf("Exists(%v, %v) = %t, WorstColumns %d, want %t, %d", rows, cols, got, gotWorst, exists, worst)
					}
					if slack := impl.SlackOf(rows, cols); (slack == 0) != exists || slack != 0 && slack != -1 {
						t.Fatalf("SlackOf(%v, %v) = %d", rows, cols, slack)
					}
				}
			}
		}
	}
}

func TestP9MostIn(t *testing.T) {
	for _, c := range []struct {
		rows          []int
		k, cols, want int
	}{
		{[]int{3, 0}, 1, 3, 1}, {[]int{3, 2}, 2, 3, 4}, {[]int{3, 2}, 0, 3, 0}, {[]int{3, 2}, 1, 3, 2}, {[]int{3, 2}, 3, 3, 5}, {[]int{2, 4, 1}, 3, 4, 6}, {[]int{1, 2, 4}, 3, 4, 6},
		{[]int{0}, 0, 1, 0}, {[]int{0}, 1, 1, 0}, {[]int{1}, 0, 1, 0}, {[]int{1}, 1, 1, 1}, {[]int{5}, 3, 5, 3}, {[]int{5}, 5, 5, 5}, {[]int{1, 0, 1, 1, 1}, 1, 1, 4},
		{[]int{5, 5, 5, 5, 5}, 0, 5, 0}, {[]int{5, 5, 5, 5, 5}, 4, 5, 20}, {[]int{5, 5, 5, 5, 5}, 5, 5, 25}, {[]int{0, 0, 0, 0, 0}, 5, 5, 0}, {[]int{1, 2, 3, 4, 5}, 3, 5, 12}, {[]int{5, 4, 3, 2, 1}, 5, 5, 15},
		// ConjugateOf does not ask for a row.
		{nil, 0, 1, 0}, {nil, 1, 3, 0}, {[]int{}, 5, 5, 0}, {nil, 6, 5, -1}, {nil, -1, 5, -1}, {nil, 0, 0, -1}, {nil, 0, 6, -1},
		{[]int{3}, 4, 3, -1}, {[]int{3}, -1, 3, -1}, {[]int{1}, 2, 1, -1}, {[]int{5}, 6, 5, -1}, {[]int{4}, 1, 3, -1}, {[]int{-1}, 1, 3, -1}, {[]int{4}, 0, 3, -1}, {[]int{-1, 2}, 0, 3, -1},
		{[]int{0}, 0, 0, -1}, {[]int{0}, 0, -1, -1}, {[]int{1}, 1, 6, -1}, {[]int{0, 0, 0, 0, 0, 0}, 0, 5, -1}, {[]int{1, 1, 1, 1, 1, 1}, 1, 1, -1}, {make([]int, 1000), 1, 2, -1},
	} {
		if got := impl.MostIn(c.rows, c.k, c.cols); got != c.want {
			t.Errorf("MostIn(%v, %d, %d) = %d, want %d", c.rows, c.k, c.cols, got, c.want)
		}
	}
}

func TestP9MostInAllLists(t *testing.T) {
	for cols := 1; cols <= impl.MaxSide; cols++ {
		for size := range impl.MaxSide + 1 {
			for _, rows := range listsOf(size, -1, cols+1) {
				valid := size == 0 || slices.Min(rows) >= 0 && slices.Max(rows) <= cols
				for k := -1; k <= cols+1; k++ {
					want := -1
					if valid && k >= 0 && k <= cols {
						want = 0
						for _, n := range rows {
							want += min(n, k)
						}
					}
					if got := impl.MostIn(rows, k, cols); got != want {
						t.Fatalf("MostIn(%v, %d, %d) = %d, want %d", rows, k, cols, got, want)
					}
				}
			}
		}
	}
}

func TestP9MostInFarNumbers(t *testing.T) {
	for _, far := range farInts {
		for _, c := range []struct {
			rows    []int
			k, cols int
		}{
			{[]int{1, 0}, far, 5}, {nil, far, 5}, {[]int{5, 5, 5, 5, 5}, far, 5}, {[]int{1, 0}, 1, far}, {[]int{1, 0}, far, far}, {nil, far, far}, {nil, 0, far},
			{[]int{far}, 1, 5}, {[]int{far}, 0, 5}, {[]int{1, far, 1}, 5, 5}, {[]int{far, far}, far, far}, {[]int{far, -far}, 1, 5},
		} {
			if got := impl.MostIn(c.rows, c.k, c.cols); got != -1 {
				t.Errorf("MostIn(%v, %d, %d) = %d", c.rows, c.k, c.cols, got)
			}
		}
	}
}

func TestP2MostInIsReachedByAnImage(t *testing.T) {
	for size := 1; size <= 4; size++ {
		for cols := 1; cols <= 4; cols++ {
			for _, rows := range listsOf(size, 0, cols) {
				found := colSumsFor(rows, cols)
				for k := range cols + 1 {
					want := 0
					for sums := range found {
						want = max(want, mostInAny(sums[:cols], k))
					}
					if got := impl.MostIn(rows, k, cols); got != want {
						t.Fatalf("MostIn(%v, %d, %d) = %d, but images have up to %d", rows, k, cols, got, want)
					}
				}
			}
		}
	}
}

// withRoom returns an equal list with spare elements behind it, and all of its memory.
func withRoom(list []int) ([]int, []int) {
	whole := append(slices.Clone(list), 7, -8, 9)
	return whole[:len(list)], whole
}

func TestP9ExistenceArgumentsStay(t *testing.T) {
	for _, c := range [][2][]int{
		{{1, 2}, {2, 1, 0}}, {{2, 1}, {0, 1, 2}}, {{0}, {0}}, {{1, 2, 3, 4, 5}, {1, 2, 3, 4, 5}}, {{0, 3}, {0, 1, 2}}, {{5, 4, 3, 2, 1}, {5, 4, 3, 2, 1}},
		{{2, 2}, {1, 3}}, {{-1, 7}, {3, -2}}, {{}, {}}, {{1, 1, 1, 1, 1, 1}, {3, 3}}, {{math.MinInt, 0, math.MaxInt}, {math.MaxInt, math.MinInt}},
	} {
		rows, wholeRows := withRoom(c[0])
		cols, wholeCols := withRoom(c[1])
		rowsBefore, colsBefore := slices.Clone(wholeRows), slices.Clone(wholeCols)
		for n := -1; n <= impl.MaxSide+1; n++ {
			impl.ConjugateOf(rows, n)
			impl.MostIn(rows, 1, n)
		}
		impl.SortedDown(rows)
		impl.SortedDown(cols)
		impl.Exists(rows, cols)
		impl.WorstColumns(rows, cols)
		impl.SlackOf(rows, cols)
		if !slices.Equal(wholeRows, rowsBefore) || !slices.Equal(wholeCols, colsBefore) {
			t.Errorf("the arguments %v and %v or the room behind them have become %v and %v", c[0], c[1], wholeRows, wholeCols)
		}
	}
}

func TestP9ExistenceResultsAreNew(t *testing.T) {
	for label, listed := range map[string]func(list []int) []int{
		"SortedDown":  impl.SortedDown,
		"ConjugateOf": func(list []int) []int { return impl.ConjugateOf(list, impl.MaxSide) },
	} {
		for _, list := range [][]int{{}, {3}, {0}, {5, 4, 3, 2, 1}, {1, 2, 3, 4, 5}, {2, 2, 2}, {3, 2, 1, 0}} {
			argument, whole := withRoom(list)
			before := slices.Clone(whole)
			first := listed(argument)
			want := slices.Clone(first)
			first = first[:cap(first)]
			for i := range first {
				first[i] = 99
			}
			if !slices.Equal(whole, before) {
				t.Errorf("%s returns memory of its argument %v", label, list)
			}
			if second := listed(argument); !slices.Equal(second, want) {
				t.Errorf("%s(%v) = %v after its first result was overwritten, want %v", label, list, second, want)
			}
		}
	}
}

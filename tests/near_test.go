package tests

import (
	"math"
	"slices"
	"testing"

	"loop.example/g00860/impl"
)

// evenWeight returns the weights of this size that are all n.
func evenWeight(rows, cols, n int) [][]int { return evenMask(rows, cols, n) }

// numberedWeight returns the weights of this size from -most to most that are the digits of n.
func numberedWeight(rows, cols, most, n int) [][]int {
	weight := evenWeight(rows, cols, -most)
	for y := range weight {
		for x := range weight[y] {
			weight[y][x] += n % (2*most + 1)
			n /= 2*most + 1
		}
	}
	return weight
}

// scatteredList returns numbers from -most to most.
func scatteredList(n, most, seed int) []int {
	list := make([]int, n)
	for i := range list {
		list[i] = scattered(seed+61*i, 2*most+1) - most
	}
	return list
}

// scatteredWeight returns weights of this size from -most to most.
func scatteredWeight(rows, cols, most, seed int) [][]int {
	var weight [][]int
	for y := range rows {
		weight = append(weight, scatteredList(cols, most, seed+7919*y))
	}
	return weight
}

// likeness returns weights that are greater for the black cells of m.
func likeness(m [][]int, black, white int) [][]int {
	weight := copied(m)
	for y := range weight {
		for x, cell := range weight[y] {
			weight[y][x] = white + cell*(black-white)
		}
	}
	return weight
}

// weightsOf returns weights of all kinds for images with the sums of group: even ones, great and small ones, such with many and with few different numbers, and those of an image of the group and of any image.
func weightsOf(group [][][]int, seed int) [][][]int {
	rows, cols := len(group[0]), len(group[0][0])
	member, other := group[scattered(seed, len(group))], ordered(rows, cols, scattered(seed+1, 1<<(rows*cols)))
	return [][][]int{
		evenWeight(rows, cols, 0), evenWeight(rows, cols, -100), evenWeight(rows, cols, 100), evenWeight(rows, cols, -1-scattered(seed, 99)),
		scatteredWeight(rows, cols, 100, seed+2), scatteredWeight(rows, cols, 100, seed+3), scatteredWeight(rows, cols, 1, seed+4), scatteredWeight(rows, cols, 2, seed+5), scatteredWeight(rows, cols, 10, seed+6),
		likeness(member, 100, -100), likeness(member, 1, 0), likeness(member, 0, 1), likeness(other, 1, -1), likeness(other, -100, 100), likeness(other, -7, -99),
	}
}

func weightByHand(weight, m [][]int) int {
	sum := 0
	for y, row := range m {
		for x, cell := range row {
			sum += cell * weight[y][x]
		}
	}
	return sum
}

func distanceByHand(a, b [][]int) int {
	n := 0
	for y, row := range a {
		for x := range row {
			n += (a[y][x] + b[y][x]) % 2
		}
	}
	return n
}

func comesFirst(a, b [][]int) bool {
	return slices.Compare(slices.Concat(a...), slices.Concat(b...)) < 0
}

// checkNearest checks that no image of the group, which has all images with its sums, is nearer to the prior, nor as near and less.
func checkNearest(t *testing.T, group [][][]int, prior [][]int) {
	t.Helper()
	rows, cols := rowsAndCols(group[0])
	got, n, ok := impl.NearestImage(rows, cols, prior)
	if !ok || !slices.ContainsFunc(group, func(m [][]int) bool { return same(m, got) }) || n != distanceByHand(got, prior) {
		t.Fatalf("NearestImage(%v, %v, %v) = %v, %d, %t", rows, cols, prior, got, n, ok)
	}
	for _, m := range group {
		if other := distanceByHand(m, prior); other < n || other == n && comesFirst(m, got) {
			t.Fatalf("NearestImage(%v, %v, %v) = %v, %d, but %v differs in %d", rows, cols, prior, got, n, m, other)
		}
	}
}

// checkHeaviest checks that no image of the group, which has all images with its sums, is heavier, nor as heavy and less, and returns the greatest weight.
func checkHeaviest(t *testing.T, group [][][]int, weight [][]int) int {
	t.Helper()
	rows, cols := rowsAndCols(group[0])
	got, n, ok := impl.HeaviestImage(rows, cols, weight)
	if !ok || !slices.ContainsFunc(group, func(m [][]int) bool { return same(m, got) }) || n != weightByHand(weight, got) {
		t.Fatalf("HeaviestImage(%v, %v, %v) = %v, %d, %t", rows, cols, weight, got, n, ok)
	}
	for _, m := range group {
		want := weightByHand(weight, m)
		if want > n || want == n && comesFirst(m, got) {
			t.Fatalf("HeaviestImage(%v, %v, %v) = %v, %d, but %v weighs %d", rows, cols, weight, got, n, m, want)
		}
		if other, ok := impl.WeightOf(weight, m); !ok || other != want {
			t.Fatalf("WeightOf(%v, %v) = %d, %t, want %d", weight, m, other, ok, want)
		}
	}
	return n
}

// A pathSearch follows all paths that come to no row or column twice; the columns are numbered behind the rows.
type pathSearch struct {
	weight, m [][]int
	from      int
	on        []bool
	least     []int
	negative  bool
}

// step returns the length of the step from one line to another one, if there is one.
func (s *pathSearch) step(from, to int) (int, bool) {
	rows := len(s.m)
	switch {
	case from < rows && to >= rows && s.m[from][to-rows] == 1:
		return s.weight[from][to-rows], true
	case from >= rows && to < rows && s.m[to][from-rows] == 0:
		return -s.weight[to][from-rows], true
	}
	return 0, false
}

func (s *pathSearch) follow(line, length int) {
	s.least[line] = min(s.least[line], length)
	s.on[line] = true
	for next := range s.on {
		more, ok := s.step(line, next)
		if ok && next == s.from && length+more < 0 {
			s.negative = true
		}
		if ok && !s.on[next] {
			s.follow(next, length+more)
		}
	}
	s.on[line] = false
}

// pricesByPaths returns the prices of the document by following all paths and cycles, and false if a cycle is negative.
func pricesByPaths(weight, m [][]int) ([]int, []int, bool) {
	lines := len(m) + len(m[0])
	s := &pathSearch{weight: weight, m: m, on: make([]bool, lines), least: make([]int, lines)}
	for s.from = range lines {
		s.follow(s.from, 0)
	}
	if s.negative {
		return nil, nil, false
	}
	for y := range m {
		s.least[y] = -s.least[y]
	}
	return s.least[:len(m)], s.least[len(m):], true
}

// pricesByRounds returns the same by the lengths between all pairs of lines.
func pricesByRounds(weight, m [][]int) ([]int, []int, bool) {
	const far = math.MaxInt / 4
	lines := len(m) + len(m[0])
	s := &pathSearch{weight: weight, m: m}
	var lengths [][]int
	for from := range lines {
		lengths = append(lengths, slices.Repeat([]int{far}, lines))
		for to := range lines {
			if n, ok := s.step(from, to); ok {
				lengths[from][to] = n
			}
		}
		lengths[from][from] = 0
	}
	for over := range lines {
		for from := range lines {
			for to := range lines {
				if first, second := lengths[from][over], lengths[over][to]; first != far && second != far {
					lengths[from][to] = min(lengths[from][to], first+second)
				}
			}
		}
	}
	least := make([]int, lines)
	for from := range lines {
		if lengths[from][from] < 0 {
			return nil, nil, false
		}
		for to := range lines {
			least[to] = min(least[to], lengths[from][to])
		}
	}
	for y := range m {
		least[y] = -least[y]
	}
	return least[:len(m)], least[len(m):], true
}

// checkPrices checks what is found for an image, if heaviest says whether no image with its sums is heavier, and the prices are found by hand as well.
func checkPrices(t *testing.T, weight, m [][]int, heaviest bool, byHand func(weight, m [][]int) ([]int, []int, bool)) {
	t.Helper()
	a, b, ok := impl.FindPrices(weight, m)
	if ok != heaviest {
		t.Fatalf("FindPrices(%v, %v) = %v, %v, %t, but it is the heaviest image: %t", weight, m, a, b, ok, heaviest)
	}
	if impl.PricesOk(weight, m, a, b) != ok || !ok && len(a)+len(b) > 0 {
		t.Fatalf("FindPrices(%v, %v) = %v, %v, %t, PricesOk %t", weight, m, a, b, ok, !ok)
	}
	wantA, wantB, want := byHand(weight, m)
	if ok != want || !slices.Equal(a, wantA) || !slices.Equal(b, wantB) {
		t.Fatalf("FindPrices(%v, %v) = %v, %v, %t, want %v, %v, %t", weight, m, a, b, ok, wantA, wantB, want)
	}
}

// pricesHold says what PricesOk is for lists of the right lengths, which have no far numbers.
func pricesHold(weight, m [][]int, a, b []int) bool {
	for y, row := range m {
		for x, cell := range row {
			// 1 for black cells and -1 for white ones.
			if sign := 2*cell - 1; sign*(weight[y][x]-a[y]-b[x]) < 0 {
				return false
			}
		}
	}
	return true
}

func TestP4AllWeightsOfSmallSizes(t *testing.T) {
	t.Parallel()
	eachGroup(1, 6, func(group [][][]int) {
		rows, cols := len(group[0]), len(group[0][0])
		count := 1
		for range rows * cols {
			count *= 3
		}
		for n := range count {
			weight := numberedWeight(rows, cols, 1, n)
			greatest := checkHeaviest(t, group, weight)
			for _, m := range group {
				checkPrices(t, weight, m, weightByHand(weight, m) == greatest, pricesByPaths)
			}
		}
	})
}

func TestP4WeightsOfAllGroups(t *testing.T) {
	t.Parallel()
	seed := 0
	eachGroup(1, 16, func(group [][][]int) {
		seed++
		weights := weightsOf(group, 100*seed)
		// Some of them for each group, so that all kinds come in turn.
		for k := seed % 5; k < len(weights); k += 5 {
			if len(group[0])*len(group[0][0]) > 12 && k%3 != seed%3 {
				continue
			}
			greatest := checkHeaviest(t, group, weights[k])
			for i := seed % (1 + len(group)/4); i < len(group); i += 1 + len(group)/4 {
				checkPrices(t, weights[k], group[i], weightByHand(weights[k], group[i]) == greatest, pricesByRounds)
			}
			best, _, _ := impl.HeaviestImage(impl.RowSums(group[0]), impl.ColSums(group[0]), weights[k])
			checkPrices(t, weights[k], best, true, pricesByRounds)
		}
	})
}

func TestP4WeightsOfGreaterImages(t *testing.T) {
	t.Parallel()
	for i, group := range greaterGroups() {
		for k, weight := range weightsOf(group, 1000*i) {
			if (i+k)%3 != 0 {
				continue
			}
			greatest := checkHeaviest(t, group, weight)
			paths := 0
			for j := k; j < len(group); j += 1 + len(group)/60 {
				checkPrices(t, weight, group[j], weightByHand(weight, group[j]) == greatest, pricesByRounds)
			}
			for _, m := range group {
				if weightByHand(weight, m) == greatest && paths < 2 {
					checkPrices(t, weight, m, true, pricesByPaths)
					paths++
				}
			}
		}
	}
}

func TestP4NoImageIsHeavierWherePricesAreOk(t *testing.T) {
	t.Parallel()
	lists := listsOf(2, -1, 1)
	for _, group := range imagesBySums(2, 2) {
		for n := range 81 {
			weight := numberedWeight(2, 2, 1, n)
			for _, m := range group {
				heaviest := !slices.ContainsFunc(group, func(other [][]int) bool { return weightByHand(weight, other) > weightByHand(weight, m) })
				for _, a := range lists {
					for _, b := range lists {
						got := impl.PricesOk(weight, m, a, b)
						if got != pricesHold(weight, m, a, b) || got && !heaviest {
							t.Fatalf("PricesOk(%v, %v, %v, %v) = %t, and it is the heaviest image: %t", weight, m, a, b, got, heaviest)
						}
					}
				}
			}
		}
	}
}

// pricedWeight returns weights with which the prices are ok, and the difference is 0 in about half of the cells; the prices may have no numbers beyond 20.
func pricedWeight(m [][]int, a, b []int, seed int) [][]int {
	weight := copied(m)
	for y := range weight {
		for x, cell := range weight[y] {
			more := scattered(seed+23*y+x, 2) * scattered(seed+29*y+5*x, 60)
			weight[y][x] = a[y] + b[x] + (2*cell-1)*more
		}
	}
	return weight
}

func TestP4PricesProveTheHeaviestImages(t *testing.T) {
	t.Parallel()
	for seed, m := range manyImages() {
		a, b := scatteredList(len(m), 20, 3*seed), scatteredList(len(m[0]), 20, 3*seed+1)
		weight := pricedWeight(m, a, b, seed)
		rows, cols := rowsAndCols(m)
		if !impl.PricesOk(weight, m, a, b) {
			t.Fatalf("PricesOk(%v, %v, %v, %v) is false", weight, m, a, b)
		}
		if best, n, ok := impl.HeaviestImage(rows, cols, weight); !ok || n != weightByHand(weight, m) || comesFirst(m, best) {
			t.Fatalf("HeaviestImage(%v, %v, %v) = %v, %d, %t, but prices prove %v", rows, cols, weight, best, n, ok, m)
		}
		checkPrices(t, weight, m, true, pricesByRounds)
		checkBrokenPrices(t, weight, m, a, b)
	}
}

// checkBrokenPrices changes one price or one weight by 1 each time.
func checkBrokenPrices(t *testing.T, weight, m [][]int, a, b []int) {
	t.Helper()
	check := func() {
		t.Helper()
		if got := impl.PricesOk(weight, m, a, b); got != pricesHold(weight, m, a, b) {
			t.Fatalf("PricesOk(%v, %v, %v, %v) = %t", weight, m, a, b, got)
		}
	}
	for _, list := range append(slices.Clone(weight), a, b) {
		for i := range list {
			list[i]++
			check()
			list[i] -= 2
			check()
			list[i]++
		}
	}
}

func TestP4HeaviestImagesMeetTheMaskOfTheirPrices(t *testing.T) {
	t.Parallel()
	// A black cell whose weight is greater than its prices is black in all of the heaviest images, a white one whose weight is less white: of the others the least image is the one that is returned.
	for seed, group := range greaterGroups() {
		rows, cols := rowsAndCols(group[0])
		weight := scatteredWeight(len(rows), len(cols), 1+seed%3, seed)
		best, _, _ := impl.HeaviestImage(rows, cols, weight)
		a, b, ok := impl.FindPrices(weight, best)
		if !ok {
			t.Fatalf("FindPrices(%v, %v) fails", weight, best)
		}
		mask := evenMask(len(rows), len(cols), -1)
		for y, row := range best {
			for x, cell := range row {
				if weight[y][x] != a[y]+b[x] {
					mask[y][x] = cell
				}
			}
		}
		if got, ok := impl.MaskedImage(mask, rows, cols); !ok || !same(got, best) {
			t.Fatalf("HeaviestImage(%v, %v, %v) = %v, but of the images that prices allow %v is the least", rows, cols, weight, best, got)
		}
	}
}

func TestP9NearestImage(t *testing.T) {
	for _, c := range []struct {
		rows, cols  []int
		prior, want string
		n           int
	}{
		{[]int{1, 1}, []int{1, 1}, "##/..", ".#/#.", 2}, {[]int{1, 1}, []int{1, 1}, "#./..", "#./.#", 1}, {[]int{1, 1}, []int{1, 1}, ".#/##", ".#/#.", 1}, {[]int{1, 1}, []int{1, 1}, "##/.#", "#./.#", 1},
		{[]int{1, 2}, []int{1, 1, 1}, "#../#..", "..#/##.", 3}, {[]int{1, 2}, []int{1, 1, 1}, "###/###", "..#/##.", 3}, {[]int{1, 2}, []int{1, 1, 1}, "#../###", "#../.##", 1}, {[]int{3, 1, 1}, []int{1, 2, 2}, ".../##./..#", "###/.#./..#", 4},
		// The prior has the sums.
		{[]int{1, 1}, []int{1, 1}, "#./.#", "#./.#", 0}, {[]int{1, 1}, []int{1, 1}, ".#/#.", ".#/#.", 0}, {[]int{0}, []int{0}, ".", ".", 0}, {[]int{1}, []int{1}, "#", "#", 0}, {[]int{1, 2}, []int{1, 1, 1}, "#../.##", "#../.##", 0}, {[]int{2, 2, 2, 2, 2}, []int{2, 2, 2, 2, 2}, "##.../##.../..##./..#.#/...##", "##.../##.../..##./..#.#/...##", 0},
		// White in all cells, or black: all images are equally near.
		{[]int{1, 1}, []int{1, 1}, "../..", ".#/#.", 2}, {[]int{1, 1}, []int{1, 1}, "##/##", ".#/#.", 2}, {[]int{1, 1, 1}, []int{1, 1, 1}, ".../.../...", "..#/.#./#..", 3}, {[]int{1, 1, 1}, []int{1, 1, 1}, "###/###/###", "..#/.#./#..", 6}, {[]int{2, 2, 2, 2}, []int{2, 2, 2, 2}, "..../..../..../....", "..##/..##/##../##..", 8},
		{[]int{2, 2, 2, 2, 2}, []int{2, 2, 2, 2, 2}, "...../...../...../...../.....", "...##/...##/.##../#.#../##...", 10}, {[]int{2, 2, 2, 2, 2}, []int{2, 2, 2, 2, 2}, "#####/#####/#####/#####/#####", "...##/...##/.##../#.#../##...", 15}, {[]int{0}, []int{0}, "#", ".", 1}, {[]int{1}, []int{1}, ".", "#", 1},
		// Several are equally near.
		{[]int{1, 1, 1}, []int{1, 1, 1}, "##./##./...", ".#./#../..#", 3}, {[]int{1, 1, 1}, []int{1, 1, 1}, ".../.#./...", "..#/.#./#..", 2}, {[]int{1, 1, 1}, []int{1, 1, 1}, "#../#../#..", "..#/.#./#..", 4}, {[]int{2, 2}, []int{1, 1, 1, 1}, "#.../....", "#..#/.##.", 3}, {[]int{1, 1, 1, 1, 1}, []int{1, 1, 1, 1, 1}, "#####/...../...../...../.....", "....#/...#./..#../.#.../#....", 8},
		// 1 row or 1 column, sums 0, full rows and columns: there is one image.
		{[]int{2}, []int{1, 0, 0, 1, 0}, "#####", "#..#.", 3}, {[]int{2}, []int{1, 0, 0, 1, 0}, ".##..", "#..#.", 4}, {[]int{1, 0, 0, 1, 0}, []int{2}, "./././#/#", "#/././#/.", 2}, {[]int{5}, []int{1, 1, 1, 1, 1}, ".....", "#####", 5}, {[]int{0, 0, 0, 0, 0}, []int{0}, "#/#/#/#/#", "././././.", 5},
		{[]int{0, 0}, []int{0, 0, 0}, "#.#/.#.", ".../...", 3}, {[]int{3, 3}, []int{2, 2, 2}, "#.#/.#.", "###/###", 3}, {[]int{5, 5, 5, 5, 5}, []int{5, 5, 5, 5, 5}, "...../...../...../...../.....", "#####/#####/#####/#####/#####", 25}, {[]int{0, 0, 0, 0, 0}, []int{0, 0, 0, 0, 0}, "#####/#####/#####/#####/#####", "...../...../...../...../.....", 25},
		{[]int{5, 1, 0, 1, 0}, []int{1, 1, 2, 2, 1}, "...../..##./#####/..##./.....", "#####/...#./...../..#../.....", 12}, {[]int{5, 4, 3, 2, 1}, []int{5, 4, 3, 2, 1}, "....#/...##/..###/.####/#####", "#####/####./###../##.../#....", 20},
	} {
		got, n, ok := impl.NearestImage(c.rows, c.cols, drawn(c.prior))
		if !ok || impl.FormatImage(got) != c.want || n != c.n {
			t.Errorf("NearestImage(%v, %v, %s) = %s, %d, %t, want %s, %d", c.rows, c.cols, c.prior, impl.FormatImage(got), n, ok, c.want, c.n)
		}
	}
}

func TestP9NearestToAllPriorsOfSmallSizes(t *testing.T) {
	t.Parallel()
	eachGroup(1, 9, func(group [][][]int) {
		rows, cols := len(group[0]), len(group[0][0])
		for n := range 1 << (rows * cols) {
			checkNearest(t, group, ordered(rows, cols, n))
		}
	})
}

func TestP9NearestImagesOfAllGroups(t *testing.T) {
	t.Parallel()
	seed := 0
	eachGroup(10, 16, func(group [][][]int) {
		seed++
		rows, cols := len(group[0]), len(group[0][0])
		checkNearest(t, group, ordered(rows, cols, scattered(seed, 1<<(rows*cols))))
		if seed%5 == 0 {
			checkNearest(t, group, evenMask(rows, cols, seed%2))
			checkNearest(t, group, group[scattered(seed, len(group))])
		}
	})
}

func TestP9NearestImagesOfGreaterImages(t *testing.T) {
	t.Parallel()
	for i, group := range greaterGroups() {
		rows, cols := len(group[0]), len(group[0][0])
		member := group[scattered(i, len(group))]
		priors := [][][]int{evenMask(rows, cols, 0), evenMask(rows, cols, 1), member, spoilt(member, i), spoilt(spoilt(member, i+1), i+2), impl.InvertOf(member)}
		for k := range 4 {
			priors = append(priors, ordered(rows, cols, scattered(10*i+k, 1<<(rows*cols))))
		}
		for _, prior := range priors {
			checkNearest(t, group, prior)
		}
	}
}

func TestP9NearestIsHeaviestWithTheWeightsOfThePrior(t *testing.T) {
	for i, prior := range manyImages() {
		rows, cols := rowsAndCols(ordered(len(prior), len(prior[0]), scattered(i, 1<<(len(prior)*len(prior[0])))))
		near, n, ok := impl.NearestImage(rows, cols, prior)
		heavy, sum, fine := impl.HeaviestImage(rows, cols, likeness(prior, 1, -1))
		if !ok || !fine || !same(near, heavy) || n != impl.CountBlack(prior)-sum || n != impl.DistanceOf(near, prior) {
			t.Fatalf("NearestImage(%v, %v, %v) = %v, %d, %t, but HeaviestImage %v, %d, %t", rows, cols, prior, near, n, ok, heavy, sum, fine)
		}
	}
}

func TestP9HeaviestImage(t *testing.T) {
	for _, c := range []struct {
		rows, cols []int
		weight     [][]int
		want       string
		n          int
	}{
		{[]int{1, 1}, []int{1, 1}, [][]int{{1, 5}, {2, 1}}, ".#/#.", 7}, {[]int{1, 1}, []int{1, 1}, [][]int{{4, 5}, {2, 4}}, "#./.#", 8}, {[]int{1, 1}, []int{1, 1}, [][]int{{-1, -5}, {-2, -1}}, "#./.#", -2}, {[]int{1, 2}, []int{1, 1, 1}, [][]int{{3, 1, 2}, {0, 5, 0}}, "#../.##", 8},
		{[]int{1, 1, 1}, []int{1, 1, 1}, [][]int{{7, 5, 9}, {8, 2, 4}, {6, 3, 7}}, "..#/#../.#.", 20}, {[]int{1, 1, 1}, []int{1, 1, 1}, [][]int{{9, 8, 7}, {8, 6, 1}, {7, 1, 1}}, "..#/.#./#..", 20}, {[]int{2, 2, 2}, []int{2, 2, 2}, [][]int{{9, 8, 1}, {8, 6, 9}, {7, 1, 9}}, "##./.##/#.#", 48},
		// Several are equally heavy.
		{[]int{1, 1}, []int{1, 1}, [][]int{{3, 5}, {2, 4}}, ".#/#.", 7}, {[]int{1, 1}, []int{1, 1}, [][]int{{-3, 5}, {2, 10}}, ".#/#.", 7}, {[]int{1, 1, 1}, []int{1, 1, 1}, [][]int{{1, 1, 0}, {1, 1, 0}, {0, 0, 1}}, ".#./#../..#", 3}, {[]int{1, 1, 1}, []int{1, 1, 1}, [][]int{{0, 0, 0}, {0, 7, 0}, {0, 0, 0}}, "..#/.#./#..", 7}, {[]int{2, 2, 2, 2}, []int{2, 2, 2, 2}, [][]int{{1, 0, 0, 0}, {0, 0, 0, 0}, {0, 0, 0, 0}, {0, 0, 0, 0}}, "#..#/..##/.##./##..", 1},
		// 0 in all cells, negative in all, -100 and 100.
		{[]int{1, 1}, []int{1, 1}, [][]int{{0, 0}, {0, 0}}, ".#/#.", 0}, {[]int{2, 2, 2, 2, 2}, []int{2, 2, 2, 2, 2}, evenWeight(5, 5, 0), "...##/...##/.##../#.#../##...", 0}, {[]int{2, 2, 2, 2, 2}, []int{2, 2, 2, 2, 2}, evenWeight(5, 5, -100), "...##/...##/.##../#.#../##...", -1000}, {[]int{2, 2, 2, 2, 2}, []int{2, 2, 2, 2, 2}, evenWeight(5, 5, 100), "...##/...##/.##../#.#../##...", 1000},
		{[]int{1, 1, 1}, []int{1, 1, 1}, [][]int{{-1, -9, -9}, {-9, -9, -1}, {-9, -1, -9}}, "#../..#/.#.", -3}, {[]int{1, 1}, []int{1, 1}, [][]int{{-100, -99}, {-99, -100}}, ".#/#.", -198}, {[]int{1, 1}, []int{1, 1}, [][]int{{100, 100}, {100, 100}}, ".#/#.", 200}, {[]int{1, 1}, []int{1, 1}, [][]int{{100, -100}, {-100, 100}}, "#./.#", 200}, {[]int{1, 1}, []int{1, 1}, [][]int{{100, -100}, {100, 100}}, "#./.#", 200},
		{[]int{1, 1, 1, 1, 1}, []int{1, 1, 1, 1, 1}, likeness(drawn("..#../#..../....#/.#.../...#."), 100, -100), "..#../#..../....#/.#.../...#.", 500}, {[]int{4, 4, 4, 4, 4}, []int{4, 4, 4, 4, 4}, likeness(drawn("..#../#..../....#/.#.../...#."), -100, 100), "##.##/.####/####./#.###/###.#", 2000},
		// 1 row or 1 column, sums 0, full rows and columns: there is one image.
		{[]int{0}, []int{0}, [][]int{{100}}, ".", 0}, {[]int{1}, []int{1}, [][]int{{-100}}, "#", -100}, {[]int{2}, []int{1, 0, 0, 1, 0}, [][]int{{-5, 100, 100, 2, 100}}, "#..#.", -3}, {[]int{1, 0, 0, 1, 0}, []int{2}, [][]int{{-5}, {100}, {100}, {2}, {100}}, "#/././#/.", -3}, {[]int{5}, []int{1, 1, 1, 1, 1}, [][]int{{1, 2, 3, 4, -100}}, "#####", -90}, {[]int{0, 0, 0, 0, 0}, []int{0}, evenWeight(5, 1, 100), "././././.", 0},
		{[]int{0, 0}, []int{0, 0, 0}, evenWeight(2, 3, 9), ".../...", 0}, {[]int{3, 3}, []int{2, 2, 2}, [][]int{{1, 2, 3}, {-40, -50, -60}}, "###/###", -144}, {[]int{5, 5, 5, 5, 5}, []int{5, 5, 5, 5, 5}, evenWeight(5, 5, 100), "#####/#####/#####/#####/#####", 2500}, {[]int{5, 5, 5, 5, 5}, []int{5, 5, 5, 5, 5}, evenWeight(5, 5, -100), "#####/#####/#####/#####/#####", -2500}, {[]int{0, 0, 0, 0, 0}, []int{0, 0, 0, 0, 0}, evenWeight(5, 5, -100), "...../...../...../...../.....", 0},
		{[]int{5, 1, 0, 1, 0}, []int{1, 1, 2, 2, 1}, [][]int{{0, 0, 0, 0, 0}, {90, 90, 5, 4, 90}, {90, 90, 90, 90, 90}, {90, 90, 3, 3, 90}, {0, 0, 0, 0, 0}}, "#####/..#../...../...#./.....", 8},
	} {
		got, n, ok := impl.HeaviestImage(c.rows, c.cols, c.weight)
		if !ok || impl.FormatImage(got) != c.want || n != c.n {
			t.Errorf("HeaviestImage(%v, %v, %v) = %s, %d, %t, want %s, %d", c.rows, c.cols, c.weight, impl.FormatImage(got), n, ok, c.want, c.n)
		}
	}
}

func TestP9WeightOk(t *testing.T) {
	for rows := range impl.MaxSide + 3 {
		for cols := range impl.MaxSide + 3 {
			for _, n := range []int{-100, -1, 0, 1, 100} {
				want := rows >= 1 && rows <= 5 && cols >= 1 && cols <= 5
				if got := impl.WeightOk(evenWeight(rows, cols, n), rows, cols); got != want {
					t.Errorf("WeightOk of %d for %d rows and %d columns is %t", n, rows, cols, got)
				}
				for _, size := range [][2]int{{rows + 1, cols}, {rows, cols + 1}, {rows - 1, cols}, {rows, cols - 1}, {rows + 1, cols + 1}, {rows - 1, cols - 1}} {
					if impl.WeightOk(evenWeight(rows, cols, n), size[0], size[1]) {
						t.Errorf("WeightOk of %d for %d rows and %d columns is true with the size %v", n, rows, cols, size)
					}
				}
			}
			if rows != cols && impl.WeightOk(evenWeight(rows, cols, 0), cols, rows) {
				t.Errorf("WeightOk for %d rows and %d columns is true with both exchanged", rows, cols)
			}
		}
	}
}

// wrongWeights are no weights.
var wrongWeights = []int{-101, 101, -102, 102, -1000, 1000, 1 << 32, 1<<32 + 1, -1 << 32, math.MinInt, math.MinInt + 1, math.MaxInt - 1, math.MaxInt}

func TestP9WeightOkEveryCell(t *testing.T) {
	for _, size := range [][2]int{{1, 1}, {1, 5}, {5, 1}, {2, 3}, {5, 5}} {
		m := ordered(size[0], size[1], 0x155aa55)
		rows, cols := rowsAndCols(m)
		for y := range size[0] {
			for x := range size[1] {
				for _, n := range []int{-100, -99, 99, 100} {
					weight := scatteredWeight(size[0], size[1], 100, n)
					weight[y][x] = n
					if !impl.WeightOk(weight, size[0], size[1]) {
						t.Errorf("WeightOk(%v, %d, %d) is false", weight, size[0], size[1])
					}
				}
				for _, n := range wrongWeights {
					weight := evenWeight(size[0], size[1], 1)
					weight[y][x] = n
					checkNoWeight(t, "a wrong weight", weight, m, rows, cols)
				}
			}
		}
	}
}

// checkNoWeight checks all functions with something that is no weight for the size of m, which has the sums.
func checkNoWeight(t *testing.T, label string, weight, m [][]int, rows, cols []int) {
	t.Helper()
	if impl.WeightOk(weight, len(rows), len(cols)) {
		t.Errorf("WeightOk(%v, %d, %d) is true: %s", weight, len(rows), len(cols), label)
	}
	if n, ok := impl.WeightOf(weight, m); n != 0 || ok {
		t.Errorf("WeightOf(%v, %v) = %d, %t: %s", weight, m, n, ok, label)
	}
	if got, n, ok := impl.HeaviestImage(rows, cols, weight); len(got) != 0 || n != 0 || ok {
		t.Errorf("HeaviestImage(%v, %v, %v) = %v, %d, %t: %s", rows, cols, weight, got, n, ok, label)
	}
	if a, b, ok := impl.FindPrices(weight, m); len(a)+len(b) != 0 || ok {
		t.Errorf("FindPrices(%v, %v) = %v, %v, %t: %s", weight, m, a, b, ok, label)
	}
	for _, n := range []int{-1000, -1, 0, 1, 1000} {
		for _, a := range [][]int{nil, slices.Repeat([]int{n}, len(m))} {
			if b := slices.Repeat([]int{n}, len(cols)); impl.PricesOk(weight, m, a, b) {
				t.Errorf("PricesOk(%v, %v, %v, %v) is true: %s", weight, m, a, b, label)
			}
		}
	}
}

func TestP9InvalidWeights(t *testing.T) {
	for _, m := range [][][]int{{{0}}, {{1}}, {{1, 0, 1}}, {{1}, {0}, {1}}, drawn("#./.#"), drawn("##./#.."), numbered(5, 5, 0), numbered(5, 5, 1<<25-1), numbered(5, 5, 0x1234567), numbered(3, 5, 0x2345)} {
		rows, cols := rowsAndCols(m)
		for _, n := range []int{0, 1, -100} {
			bad := map[string][][]int{
				"nil": nil, "empty": {}, "empty rows": evenWeight(len(rows), 0, n), "nil rows": make([][]int, len(rows)), "1000 rows": evenWeight(1000, len(cols), n), "1000 columns": evenWeight(len(rows), 1000, n),
				"fewer rows": evenWeight(len(rows)-1, len(cols), n), "more rows": evenWeight(len(rows)+1, len(cols), n), "fewer columns": evenWeight(len(rows), len(cols)-1, n), "more columns": evenWeight(len(rows), len(cols)+1, n),
				"more of both": evenWeight(len(rows)+1, len(cols)+1, n), "another nil row": append(evenWeight(len(rows), len(cols), n), nil),
			}
			for y := range rows {
				for change, row := range map[string][]int{"nil": nil, "empty": {}, "shorter": make([]int, len(cols)-1), "longer": make([]int, len(cols)+1)} {
					weight := evenWeight(len(rows), len(cols), n)
					weight[y] = row
					bad[change+" row "+impl.FormatInt(y)] = weight
				}
			}
			if len(rows) != len(cols) {
				bad["exchanged"] = evenWeight(len(cols), len(rows), n)
			}
			for label, weight := range bad {
				checkNoWeight(t, label, weight, m, rows, cols)
			}
		}
	}
}

func TestP9WeightOkOfFarSizes(t *testing.T) {
	for _, far := range append([]int{0, -5}, farInts...) {
		for _, weight := range [][][]int{nil, {}, {{}}, {nil}, {{0}}, evenWeight(5, 5, 0), evenWeight(6, 6, 0), evenWeight(6, 5, 0), evenWeight(5, 6, 0)} {
			for _, size := range [][2]int{{far, 1}, {1, far}, {far, far}, {5, far}, {far, 5}, {far, 0}, {0, far}} {
				if impl.WeightOk(weight, size[0], size[1]) {
					t.Errorf("WeightOk(%v, %d, %d) is true", weight, size[0], size[1])
				}
			}
		}
	}
}

func TestP9WeightOf(t *testing.T) {
	for _, c := range []struct {
		weight [][]int
		m      string
		want   int
	}{
		{[][]int{{1, 5}, {2, 1}}, "#./.#", 2}, {[][]int{{1, 5}, {2, 1}}, ".#/#.", 7}, {[][]int{{1, 5}, {2, 1}}, "##/##", 9}, {[][]int{{1, 5}, {2, 1}}, "../..", 0}, {[][]int{{-7}}, "#", -7}, {[][]int{{-7}}, ".", 0}, {[][]int{{1, 2, 4, 8, 16}}, "#.#.#", 21}, {[][]int{{1}, {2}, {4}, {8}, {16}}, "./#/#/./#", 22},
		{[][]int{{100, -100, 3}, {-4, 5, -6}}, "##./#.#", -10}, {[][]int{{100, -100, 3}, {-4, 5, -6}}, "..#/.#.", 8}, {evenWeight(5, 5, 100), "#####/#####/#####/#####/#####", 2500}, {evenWeight(5, 5, -100), "#####/#####/#####/#####/#####", -2500}, {evenWeight(5, 5, -100), "...../...../...../...../.....", 0}, {evenWeight(5, 5, -100), "...../...../..#../...../.....", -100},
	} {
		if got, ok := impl.WeightOf(c.weight, drawn(c.m)); !ok || got != c.want {
			t.Errorf("WeightOf(%v, %s) = %d, %t, want %d", c.weight, c.m, got, ok, c.want)
		}
	}
	for i, m := range manyImages() {
		weight := scatteredWeight(len(m), len(m[0]), 100, i)
		if got, ok := impl.WeightOf(weight, m); !ok || got != weightByHand(weight, m) {
			t.Errorf("WeightOf(%v, %v) = %d, %t", weight, m, got, ok)
		}
	}
}

func TestP9PricesOkOfOneCell(t *testing.T) {
	for _, w := range []int{-100, -1, 0, 1, 7, 100} {
		for _, a := range []int{-1000, -57, -1, 0, 1, 60, 999, 1000} {
			for rest := -2; rest <= 2; rest++ {
				b := w - a - rest
				fine := b >= -1000 && b <= 1000
				if got := impl.PricesOk([][]int{{w}}, [][]int{{1}}, []int{a}, []int{b}); got != (fine && rest >= 0) {
					t.Errorf("PricesOk for a black cell with the weight %d and the prices %d and %d is %t", w, a, b, got)
				}
				if got := impl.PricesOk([][]int{{w}}, [][]int{{0}}, []int{a}, []int{b}); got != (fine && rest <= 0) {
					t.Errorf("PricesOk for a white cell with the weight %d and the prices %d and %d is %t", w, a, b, got)
				}
			}
		}
	}
}

func TestP9PricesOk(t *testing.T) {
	for _, c := range []struct {
		weight [][]int
		m      string
		a, b   []int
		want   bool
	}{
		{[][]int{{1, 5}, {2, 1}}, ".#/#.", []int{0, 0}, []int{1, 1}, true}, {[][]int{{1, 5}, {2, 1}}, ".#/#.", []int{4, 0}, []int{1, 1}, true}, {[][]int{{1, 5}, {2, 1}}, ".#/#.", []int{5, 0}, []int{1, 1}, false}, {[][]int{{1, 5}, {2, 1}}, "#./.#", []int{0, 0}, []int{1, 1}, false}, {[][]int{{1, 5}, {2, 1}}, ".#/#.", []int{-1, 0}, []int{1, 1}, false}, {[][]int{{1, 5}, {2, 1}}, ".#/#.", []int{1000, 997}, []int{-995, -995}, true},
		{[][]int{{1, 5}, {2, 1}}, ".#/#.", []int{1000, 996}, []int{-995, -995}, true}, {[][]int{{1, 5}, {2, 1}}, ".#/#.", []int{1000, 995}, []int{-995, -995}, false}, {[][]int{{1, 5}, {2, 1}}, ".#/#.", []int{-1000, -1000}, []int{1000, 1000}, false}, {[][]int{{1, 5}, {2, 1}}, ".#/#.", []int{-996, -998}, []int{1000, 1000}, true}, {[][]int{{1, 5}, {2, 1}}, ".#/#.", []int{-997, -998}, []int{1001, 1001}, false},
		{evenWeight(2, 3, 4), "##./#.#", []int{4, 4}, []int{0, 0, 0}, true}, {evenWeight(2, 3, 4), "##./#.#", []int{4, 4}, []int{0, 0, 1}, false}, {evenWeight(2, 3, 4), "##./#.#", []int{4, 4}, []int{0, 1, 0}, false}, {evenWeight(2, 3, 4), "##./#.#", []int{3, 4}, []int{0, 0, 1}, false}, {evenWeight(2, 3, 4), "##./#.#", []int{4, 4}, []int{-1, 0, 0}, true}, {evenWeight(2, 3, 4), "##./#.#", []int{4, 4}, []int{0, 0, -1}, false},
		{evenWeight(2, 3, 4), "###/###", []int{0, 0}, []int{0, 0, 0}, true}, {evenWeight(2, 3, 4), "###/###", []int{-1000, -1000}, []int{-1000, -1000, -1000}, true}, {evenWeight(2, 3, 4), "###/###", []int{0, 0}, []int{0, 0, 5}, false}, {evenWeight(2, 3, 4), ".../...", []int{0, 0}, []int{0, 0, 0}, false}, {evenWeight(2, 3, 4), ".../...", []int{1000, 1000}, []int{1000, 1000, 1000}, true}, {evenWeight(2, 3, 4), ".../...", []int{4, 4}, []int{0, 0, 0}, true}, {evenWeight(2, 3, 4), ".../...", []int{4, 3}, []int{1, 1, 0}, false},
		{evenWeight(5, 5, -100), "#####/#####/#####/#####/#####", evenWeight(1, 5, -50)[0], evenWeight(1, 5, -50)[0], true}, {evenWeight(5, 5, 100), "...../...../...../...../.....", evenWeight(1, 5, 50)[0], evenWeight(1, 5, 50)[0], true}, {evenWeight(5, 5, 100), "...../...../...../...../....#", evenWeight(1, 5, 50)[0], evenWeight(1, 5, 50)[0], true}, {evenWeight(5, 5, 100), "...../...../...../...../....#", evenWeight(1, 5, 51)[0], evenWeight(1, 5, 50)[0], false},
	} {
		if got := impl.PricesOk(c.weight, drawn(c.m), c.a, c.b); got != c.want {
			t.Errorf("PricesOk(%v, %s, %v, %v) = %t", c.weight, c.m, c.a, c.b, got)
		}
	}
}

func TestP9PricesOkOfInvalidPrices(t *testing.T) {
	for _, c := range []struct {
		m      string
		weight int
	}{{"#", 100}, {".", -100}, {"###/###", 100}, {".../...", -100}, {"#.#.#", 0}, {"#/./#/./#", 0}, {"#####/#####/#####/#####/#####", 100}, {"...../...../...../...../.....", -100}, {"##.../#.#../.##../...#./....#", 0}} {
		m := drawn(c.m)
		rows, cols := len(m), len(m[0])
		weight := evenWeight(rows, cols, c.weight)
		a, b := make([]int, rows), make([]int, cols)
		if !impl.PricesOk(weight, m, a, b) {
			t.Errorf("PricesOk of zeros for %s is false", c.m)
		}
		for _, other := range [][]int{nil, {}, make([]int, rows-1), make([]int, rows+1), make([]int, 1000)} {
			if impl.PricesOk(weight, m, other, b) {
				t.Errorf("PricesOk for %s with %d row prices is true", c.m, len(other))
			}
		}
		for _, other := range [][]int{nil, {}, make([]int, cols-1), make([]int, cols+1), make([]int, 1000)} {
			if impl.PricesOk(weight, m, a, other) {
				t.Errorf("PricesOk for %s with %d column prices is true", c.m, len(other))
			}
		}
		if impl.PricesOk(weight, m, nil, nil) || rows != cols && impl.PricesOk(weight, m, b, a) {
			t.Errorf("PricesOk for %s without prices, or with both exchanged, is true", c.m)
		}
		checkFarPrices(t, weight, m, c.weight)
	}
}

// checkFarPrices puts each far number into each place. The differences would be right for it where all cells are black or all white, and by wraparound.
func checkFarPrices(t *testing.T, weight, m [][]int, sign int) {
	t.Helper()
	for _, far := range []int{-1001, 1001, -1002, 1002, -1 << 32, 1 << 32, math.MinInt, math.MinInt + 1, math.MinInt + 100, math.MaxInt - 100, math.MaxInt - 1, math.MaxInt} {
		for i := range len(m) + len(m[0]) {
			list := make([]int, len(m)+len(m[0]))
			list[i] = far
			if a, b := list[:len(m)], list[len(m):]; impl.PricesOk(weight, m, a, b) {
				t.Errorf("PricesOk(%v, %v, %v, %v) is true", weight, m, a, b)
			}
		}
		for _, other := range []int{far, -far, -1 - far, 0} {
			if a, b := slices.Repeat([]int{far}, len(m)), slices.Repeat([]int{other}, len(m[0])); impl.PricesOk(weight, m, a, b) {
				t.Errorf("PricesOk(%v, %v, %v, %v) is true", weight, m, a, b)
			}
			if a, b := slices.Repeat([]int{other}, len(m)), slices.Repeat([]int{far}, len(m[0])); impl.PricesOk(weight, m, a, b) {
				t.Errorf("PricesOk(%v, %v, %v, %v) is true", weight, m, a, b)
			}
		}
	}
	// The last prices that are not too far, for all black and all white cells.
	for _, near := range []int{-1000, -999, 999, 1000} {
		if a, b := slices.Repeat([]int{near}, len(m)), slices.Repeat([]int{near}, len(m[0])); sign != 0 && impl.PricesOk(weight, m, a, b) != (sign*near < 0) {
			t.Errorf("PricesOk(%v, %v, %v, %v) is %t", weight, m, a, b, sign*near >= 0)
		}
	}
}

// A priced has an image and its weights, and the prices that are found for it: none if the boolean is false.
type priced struct {
	weight [][]int
	m      string
	a, b   []int
	ok     bool
}

// pricedImages returns images whose prices are computed by hand.
func pricedImages() []priced {
	full, empty := "#####/#####/#####/#####/#####", "...../...../...../...../....."
	zeros := make([]int, 5)
	return []priced{
		// The heaviest image, and another one.
		{[][]int{{1, 5}, {2, 1}}, ".#/#.", []int{1, 1}, []int{0, 0}, true}, {[][]int{{1, 5}, {2, 1}}, "#./.#", nil, nil, false}, {[][]int{{-1, -5}, {-2, -1}}, "#./.#", []int{0, 0}, []int{-1, -1}, true}, {[][]int{{-1, -5}, {-2, -1}}, ".#/#.", nil, nil, false},
		{[][]int{{3, 1, 2}, {0, 5, 0}}, "#../.##", []int{2, 0}, []int{0, 0, 0}, true}, {[][]int{{3, 1, 2}, {0, 5, 0}}, ".#./#.#", nil, nil, false}, {[][]int{{3, 1, 2}, {0, 5, 0}}, "..#/##.", nil, nil, false},
		// Equally heavy ones, the least of them first.
		{[][]int{{3, 5}, {2, 4}}, ".#/#.", []int{5, 4}, []int{-2, 0}, true}, {[][]int{{3, 5}, {2, 4}}, "#./.#", []int{5, 4}, []int{-2, 0}, true}, {[][]int{{0, 0}, {0, 0}}, ".#/#.", []int{0, 0}, []int{0, 0}, true}, {[][]int{{0, 0}, {0, 0}}, "#./.#", []int{0, 0}, []int{0, 0}, true},
		{[][]int{{0, 0, 0}, {0, 7, 0}, {0, 0, 0}}, "..#/.#./#..", []int{0, 0, 0}, []int{0, 0, 0}, true}, {[][]int{{0, 0, 0}, {0, 7, 0}, {0, 0, 0}}, "#../.#./..#", []int{0, 0, 0}, []int{0, 0, 0}, true}, {[][]int{{0, 0, 0}, {0, 7, 0}, {0, 0, 0}}, "#../..#/.#.", nil, nil, false},
		// Only a cycle through all rows and columns is negative, and it is not.
		{[][]int{{0, 1, -50}, {-50, 0, 0}, {0, -50, 0}}, "#../.#./..#", nil, nil, false}, {[][]int{{0, 0, -50}, {-50, 0, 0}, {0, -50, 0}}, "#../.#./..#", []int{0, 0, 0}, []int{0, 0, 0}, true}, {[][]int{{0, -1, -50}, {-50, 0, 0}, {0, -50, 0}}, "#../.#./..#", []int{0, 0, 0}, []int{0, 0, 0}, true},
		// One cell.
		{[][]int{{7}}, "#", []int{0}, []int{0}, true}, {[][]int{{-7}}, "#", []int{0}, []int{-7}, true}, {[][]int{{7}}, ".", []int{7}, []int{0}, true}, {[][]int{{-7}}, ".", []int{0}, []int{0}, true}, {[][]int{{0}}, "#", []int{0}, []int{0}, true}, {[][]int{{-100}}, "#", []int{0}, []int{-100}, true}, {[][]int{{100}}, ".", []int{100}, []int{0}, true},
		// 1 row or 1 column: from a white cell to a black one.
		{[][]int{{3, -4, 5}}, "#.#", []int{0}, []int{0, 0, 0}, true}, {[][]int{{3, 4, -5}}, "#.#", []int{4}, []int{-1, 0, -9}, true}, {[][]int{{3}, {4}, {-5}}, "#/./#", []int{0, 9, 0}, []int{-5}, true},
		// No black cell, and no white one.
		{[][]int{{5, 6, -7}, {-1, -2, -3}}, ".../...", []int{6, 0}, []int{0, 0, 0}, true}, {[][]int{{5, 6, -7}, {-1, -2, -3}}, "###/###", []int{0, 0}, []int{-1, -2, -7}, true},
		{evenWeight(5, 5, 100), empty, slices.Repeat([]int{100}, 5), zeros, true}, {evenWeight(5, 5, -100), empty, zeros, zeros, true}, {evenWeight(5, 5, 100), full, zeros, zeros, true}, {evenWeight(5, 5, -100), full, zeros, slices.Repeat([]int{-100}, 5), true}, {evenWeight(5, 5, 0), full, zeros, zeros, true}, {evenWeight(5, 5, 0), empty, zeros, zeros, true},
		// Paths through all rows and columns, with nine steps of the length -100: to the last row, to the last column, and to the first row.
		{[][]int{{100, -100, 0, 0, 0}, {0, 100, -100, 0, 0}, {0, 0, 100, -100, 0}, {0, 0, 0, 100, -100}, {0, 0, 0, 0, 100}}, ".####/..###/...##/....#/.....", []int{100, 300, 500, 700, 900}, []int{0, -200, -400, -600, -800}, true},
		{[][]int{{-100, 0, 0, 0, 0}, {100, -100, 0, 0, 0}, {0, 100, -100, 0, 0}, {0, 0, 100, -100, 0}, {0, 0, 0, 100, -100}}, "#####/.####/..###/...##/....#", []int{0, 200, 400, 600, 800}, []int{-100, -300, -500, -700, -900}, true},
		{[][]int{{100, 0, 0, 0, 0}, {-100, 100, 0, 0, 0}, {0, -100, 100, 0, 0}, {0, 0, -100, 100, 0}, {0, 0, 0, -100, 100}}, "...../#..../##.../###../####.", []int{900, 700, 500, 300, 100}, []int{-800, -600, -400, -200, 0}, true},
	}
}

func TestP9FindPrices(t *testing.T) {
	for _, c := range pricedImages() {
		a, b, ok := impl.FindPrices(c.weight, drawn(c.m))
		if ok != c.ok || !slices.Equal(a, c.a) || !slices.Equal(b, c.b) {
			t.Errorf("FindPrices(%v, %s) = %v, %v, %t, want %v, %v, %t", c.weight, c.m, a, b, ok, c.a, c.b, c.ok)
		}
		if impl.PricesOk(c.weight, drawn(c.m), a, b) != ok {
			t.Errorf("PricesOk(%v, %s, %v, %v) is %t", c.weight, c.m, a, b, !ok)
		}
	}
}

func TestP9FindPricesOfAllImagesWithEqualSums(t *testing.T) {
	// 90 images, of which one is the heaviest, or all are.
	group := groupOf(drawn("##../##../..##/..##"))
	for _, m := range group {
		for _, other := range group {
			if _, _, ok := impl.FindPrices(likeness(m, 1, 0), other); ok != same(m, other) {
				t.Errorf("FindPrices with greater weights for %v of %v: %t", m, other, ok)
			}
		}
		if a, b, ok := impl.FindPrices(evenWeight(4, 4, 100), m); !ok || !slices.Equal(a, []int{100, 100, 100, 100}) || !slices.Equal(b, []int{0, 0, 0, 0}) {
			t.Errorf("FindPrices with even weights of %v = %v, %v, %t", m, a, b, ok)
		}
	}
}

// checkNoNearest checks that there is no result for these sums, whatever the prior and the weights.
func checkNoNearest(t *testing.T, label string, rows, cols []int) {
	t.Helper()
	for _, size := range [][2]int{{len(rows), len(cols)}, {1, 1}, {2, 2}, {2, 3}, {5, 5}} {
		for n := range 2 {
			if got, n, ok := impl.NearestImage(rows, cols, evenMask(size[0], size[1], n)); len(got) != 0 || n != 0 || ok {
				t.Errorf("NearestImage(%v, %v, ..) = %v, %d, %t: %s", rows, cols, got, n, ok, label)
			}
			if got, n, ok := impl.HeaviestImage(rows, cols, evenWeight(size[0], size[1], n)); len(got) != 0 || n != 0 || ok {
				t.Errorf("HeaviestImage(%v, %v, ..) = %v, %d, %t: %s", rows, cols, got, n, ok, label)
			}
		}
	}
	if got, n, ok := impl.NearestImage(rows, cols, nil); len(got) != 0 || n != 0 || ok {
		t.Errorf("NearestImage(%v, %v, nil) = %v, %d, %t: %s", rows, cols, got, n, ok, label)
	}
	if got, n, ok := impl.HeaviestImage(rows, cols, nil); len(got) != 0 || n != 0 || ok {
		t.Errorf("HeaviestImage(%v, %v, nil) = %v, %d, %t: %s", rows, cols, got, n, ok, label)
	}
}

func TestP9NearestImagesOfInvalidSums(t *testing.T) {
	for label, c := range invalidSums() {
		checkNoNearest(t, label, c[0], c[1])
	}
	for _, rows := range listsOf(2, -1, 3) {
		for _, cols := range listsOf(2, -1, 3) {
			want := slices.Min(rows) >= 0 && slices.Max(rows) <= 2 && slices.Min(cols) >= 0 && slices.Max(cols) <= 2 && total(rows) == total(cols) && len(imagesByRows(rows, colSumsOf(cols), 2)) > 0
			if !want {
				checkNoNearest(t, "sums", rows, cols)
				continue
			}
			_, _, near := impl.NearestImage(rows, cols, evenMask(2, 2, 0))
			if _, _, heavy := impl.HeaviestImage(rows, cols, evenWeight(2, 2, 0)); !near || !heavy {
				t.Errorf("NearestImage or HeaviestImage for %v and %v fails", rows, cols)
			}
		}
	}
}

func TestP9NearestImagesOfSumsWithoutAnImage(t *testing.T) {
	t.Parallel()
	eachSums(func(rows, cols []int, exists bool) {
		if exists {
			return
		}
		if got, n, ok := impl.NearestImage(rows, cols, evenMask(len(rows), len(cols), 1)); len(got) != 0 || n != 0 || ok {
			t.Fatalf("NearestImage(%v, %v, ..) = %v, %d, %t", rows, cols, got, n, ok)
		}
		if got, n, ok := impl.HeaviestImage(rows, cols, evenWeight(len(rows), len(cols), 1)); len(got) != 0 || n != 0 || ok {
			t.Fatalf("HeaviestImage(%v, %v, ..) = %v, %d, %t", rows, cols, got, n, ok)
		}
	})
}

func TestP9InvalidPriors(t *testing.T) {
	check := func(label string, rows, cols []int, prior [][]int) {
		t.Helper()
		if got, n, ok := impl.NearestImage(rows, cols, prior); len(got) != 0 || n != 0 || ok {
			t.Errorf("NearestImage(%v, %v, %v) = %v, %d, %t: %s", rows, cols, prior, got, n, ok, label)
		}
	}
	for label, prior := range invalidImages() {
		for _, c := range [][2][]int{{{1, 1}, {1, 1}}, {{0}, {0}}, {{1}, {1}}, {{0, 0, 0}, {0}}, {{1, 1, 1}, {1, 1, 1}}, {{2, 2, 2, 2, 2}, {2, 2, 2, 2, 2}}} {
			check(label, c[0], c[1], prior)
		}
		if len(prior) > 0 && len(prior[0]) > 0 {
			check(label, make([]int, len(prior)), make([]int, len(prior[0])), prior)
		}
	}
	for _, size := range [][2]int{{1, 1}, {1, 5}, {5, 1}, {2, 3}, {5, 5}} {
		rows, cols := rowsAndCols(ordered(size[0], size[1], 0x155aa55))
		for otherRows := range impl.MaxSide + 2 {
			for otherCols := range impl.MaxSide + 2 {
				if otherRows != size[0] || otherCols != size[1] {
					check("another size", rows, cols, numbered(otherRows, otherCols, 5))
				}
			}
		}
		for y := range size[0] {
			for x := range size[1] {
				for _, cell := range append([]int{2}, farInts...) {
					prior := numbered(size[0], size[1], 0x155aa55)
					prior[y][x] = cell
					check("a wrong cell", rows, cols, prior)
				}
			}
			for change, row := range map[string][]int{"nil": nil, "empty": {}, "shorter": make([]int, size[1]-1), "longer": make([]int, size[1]+1)} {
				prior := numbered(size[0], size[1], 0x155aa55)
				prior[y] = row
				check(change+" row", rows, cols, prior)
			}
		}
	}
}

func TestP9WeightsOfInvalidImages(t *testing.T) {
	for label, m := range invalidImages() {
		weights := [][][]int{nil, {}, {{0}}, evenWeight(2, 2, 0), evenWeight(5, 5, 1), likeness(m, 0, 0)}
		if len(m) > 0 {
			weights = append(weights, evenWeight(len(m), len(m[0]), 1))
		}
		for _, weight := range weights {
			if n, ok := impl.WeightOf(weight, m); n != 0 || ok {
				t.Errorf("WeightOf(%v, ..) = %d, %t: %s", weight, n, ok, label)
			}
			if a, b, ok := impl.FindPrices(weight, m); len(a)+len(b) != 0 || ok {
				t.Errorf("FindPrices(%v, ..) = %v, %v, %t: %s", weight, a, b, ok, label)
			}
			for cols := range 3 {
				if impl.PricesOk(weight, m, make([]int, len(m)), make([]int, cols)) {
					t.Errorf("PricesOk(%v, ..) is true: %s", weight, label)
				}
			}
			if len(m) > 0 && impl.PricesOk(weight, m, make([]int, len(m)), make([]int, len(m[0]))) {
				t.Errorf("PricesOk(%v, ..) is true: %s", weight, label)
			}
		}
	}
}

func TestP9WeightsOfImagesOfOtherSizes(t *testing.T) {
	for _, size := range [][2]int{{1, 1}, {1, 5}, {5, 1}, {2, 3}, {5, 5}} {
		m := numbered(size[0], size[1], 0x155aa55)
		rows, cols := rowsAndCols(m)
		for otherRows := range impl.MaxSide + 2 {
			for otherCols := range impl.MaxSide + 2 {
				if otherRows != size[0] || otherCols != size[1] {
					checkNoWeight(t, "another size", evenWeight(otherRows, otherCols, 0), m, rows, cols)
				}
			}
		}
	}
}

func TestP9NearestArgumentsStay(t *testing.T) {
	for _, c := range []struct {
		rows, cols []int
		m, weight  [][]int
		a, b       []int
	}{
		{[]int{1, 1}, []int{1, 1}, drawn(".#/#."), [][]int{{1, 5}, {2, 1}}, []int{0, 0}, []int{1, 1}}, {[]int{1, 1}, []int{1, 1}, drawn("#./.#"), [][]int{{1, 5}, {2, 1}}, []int{0, 0}, []int{1, 1}}, {[]int{0}, []int{0}, drawn("."), [][]int{{7}}, []int{7}, []int{0}}, {[]int{1}, []int{1}, drawn("#"), [][]int{{-100}}, []int{-100}, []int{0}},
		{[]int{2, 2, 2, 2, 2}, []int{2, 2, 2, 2, 2}, numbered(5, 5, 0x1234567), scatteredWeight(5, 5, 100, 1), scatteredList(5, 1000, 2), scatteredList(5, 1000, 3)}, {[]int{2}, []int{1, 0, 0, 1, 0}, drawn("#..#."), scatteredWeight(1, 5, 9, 4), []int{0}, []int{1, 2, 3, 4, 5}}, {[]int{1, 0, 0, 1, 0}, []int{2}, drawn("#/././#/."), scatteredWeight(5, 1, 9, 4), []int{1, 2, 3, 4, 5}, []int{0}},
		{[]int{4, 3, 2, 1, 0}, []int{4, 3, 2, 1, 0}, drawn("####./###../##.../#..../....."), scatteredWeight(5, 5, 100, 5), []int{1000, 1001, -1000, -1001, 0}, []int{math.MinInt, math.MaxInt, 0, 0, 0}}, {[]int{3, 0}, []int{2, 1, 0}, drawn("##./#.."), scatteredWeight(2, 3, 100, 6), []int{0}, []int{0, 0, 0, 0}},
		{[]int{1, 1}, []int{1, 1}, [][]int{{1, 2}, {0, 1}}, [][]int{{1, 5}, {2, 101}}, nil, nil}, {[]int{1, 1}, []int{1, 1}, [][]int{{1, 0}, {1}}, [][]int{{1, 5}, {2}}, []int{}, []int{}}, {[]int{}, []int{}, [][]int{}, [][]int{}, []int{}, []int{}}, {[]int{1, 1, 1, 1, 1, 1}, []int{1, 1, 1, 1, 1, 1}, numbered(6, 6, 5), evenWeight(6, 6, 1), make([]int, 6), make([]int, 6)},
	} {
		m, wholeImage := roomy(c.m)
		weight, wholeWeight := roomy(c.weight)
		imageBefore, weightBefore := copied(memory(wholeImage)), copied(memory(wholeWeight))
		var wholes, wants [][]int
		var lists [4][]int
		for i, list := range [][]int{c.rows, c.cols, c.a, c.b} {
			argument, wholeList := withRoom(list)
			lists[i] = argument
			wholes = append(wholes, wholeList)
			wants = append(wants, slices.Clone(wholeList))
		}
		impl.NearestImage(lists[0], lists[1], m)
		impl.WeightOk(weight, len(c.rows), len(c.cols))
		impl.WeightOf(weight, m)
		impl.HeaviestImage(lists[0], lists[1], weight)
		impl.PricesOk(weight, m, lists[2], lists[3])
		impl.FindPrices(weight, m)
		if !same(memory(wholeImage), imageBefore) || !same(memory(wholeWeight), weightBefore) || !same(wholes, wants) {
			t.Errorf("the arguments %v or the room behind them have become %v, %v, %v", c, memory(wholeImage), memory(wholeWeight), wholes)
		}
	}
}

func TestP9NearestImagesAreNew(t *testing.T) {
	for i, m := range [][][]int{{{0}}, {{1}}, drawn("#./.#"), drawn(".#/#."), drawn("#..#."), drawn("#/././#/."), numbered(5, 5, 0), numbered(5, 5, 1<<25-1), numbered(5, 5, 0x1234567), drawn("##.../##.../..##./..#.#/...##"), drawn("##./#.."), drawn("...../#..../##.../###../####.")} {
		sumsRows, sumsCols := rowsAndCols(m)
		rows, wholeRows := withRoom(sumsRows)
		cols, wholeCols := withRoom(sumsCols)
		rowsBefore, colsBefore := slices.Clone(wholeRows), slices.Clone(wholeCols)
		for label, find := range map[string]func(second [][]int) ([][]int, bool){
			"NearestImage": func(second [][]int) ([][]int, bool) {
				got, _, ok := impl.NearestImage(rows, cols, second)
				return got, ok
			},
			"HeaviestImage": func(second [][]int) ([][]int, bool) {
				got, _, ok := impl.HeaviestImage(rows, cols, second)
				return got, ok
			},
		} {
			// The prior itself is the nearest image, and as weights it makes itself the heaviest one.
			second, whole := roomy(m)
			secondBefore := copied(memory(whole))
			first, ok := find(second)
			if !ok || !same(first, m) {
				t.Errorf("%s(%v, %v, %v) = %v, %t", label, rows, cols, m, first, ok)
				continue
			}
			checkRowsApart(t, label, first)
			if !same(memory(whole), secondBefore) || !slices.Equal(wholeRows, rowsBefore) || !slices.Equal(wholeCols, colsBefore) {
				t.Errorf("%s(%v, %v, %v) returns memory of its arguments", label, rowsBefore, colsBefore, m)
			}
			if again, ok := find(second); !ok || !same(again, m) {
				t.Errorf("%s(%v, %v, %v) = %v, %t after its first result was overwritten", label, rows, cols, m, again, ok)
			}
		}
		checkPricesNew(t, m, scatteredWeight(len(m), len(m[0]), 100, i))
		checkPricesNew(t, m, likeness(m, 1, -1))
	}
}

// checkPricesNew expects nothing of images that are not the heaviest.
func checkPricesNew(t *testing.T, m, weight [][]int) {
	t.Helper()
	image, wholeImage := roomy(m)
	numbers, wholeWeight := roomy(weight)
	imageBefore, weightBefore := copied(memory(wholeImage)), copied(memory(wholeWeight))
	a, b, ok := impl.FindPrices(numbers, image)
	wantA, wantB := slices.Clone(a), slices.Clone(b)
	if ok {
		checkRowsApart(t, "FindPrices", [][]int{a, b})
	}
	if !same(memory(wholeImage), imageBefore) || !same(memory(wholeWeight), weightBefore) {
		t.Errorf("FindPrices(%v, %v) returns memory of its arguments", weight, m)
	}
	if a, b, again := impl.FindPrices(numbers, image); again != ok || !slices.Equal(a, wantA) || !slices.Equal(b, wantB) {
		t.Errorf("FindPrices(%v, %v) = %v, %v, %t after its first result was overwritten, want %v, %v", weight, m, a, b, again, wantA, wantB)
	}
}

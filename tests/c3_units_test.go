package tests

import (
	"cmp"
	"math"
	"slices"
	"testing"

	"loop.example/salesbybids/impl"
)

// allUnits are all numbers of units.
var allUnits = upTo(impl.MaxUnits)

// wrongUnits are numbers outside of 0..MaxUnits.
var wrongUnits = []int{-1, impl.MaxUnits + 1, impl.MaxBid, math.MinInt, math.MaxInt}

// wrongRows are lists that are no row of demands: too long, with a number out of range, or with one greater than the one ahead of it.
func wrongRows() [][]int {
	wrong := [][]int{{9, 8, 7, 6, 5, 4}, make([]int, impl.MaxUnits+1), make([]int, 1000)}
	for _, x := range []int{-1, impl.MaxBid + 1, math.MinInt, math.MaxInt} {
		wrong = append(wrong, []int{x}, []int{x, 0}, []int{x, x}, []int{30, x}, []int{30, 20, x}, []int{9, 8, 7, 6, x})
	}
	return append(wrong, []int{0, 1}, []int{1, 2}, []int{29, 30}, []int{5, 5, 6}, []int{5, 4, 5}, []int{5, 0, 1}, []int{9, 8, 7, 6, 7}, []int{1, 9, 8, 7, 6})
}

// wrongDemands are rows that are no demands.
func wrongDemands() [][][]int {
	wrong := [][][]int{nil, {}, {{1}, {1}, {1}, {1}, {1}}, {nil, nil, nil, nil, nil}, make([][]int, 1000)}
	for _, r := range wrongRows() {
		wrong = append(wrong, [][]int{r}, [][]int{r, {3}}, [][]int{{3}, r}, [][]int{nil, {3}, {9, 2}, r})
	}
	return wrong
}

// fallingRows are all rows of at most n of the numbers, which are told from the greatest one on.
func fallingRows(n int, numbers ...int) [][]int {
	var all [][]int
	for length := range n + 1 {
		for _, r := range listsOf(length, numbers...) {
			if slices.IsSortedFunc(r, func(a, b int) int { return cmp.Compare(b, a) }) {
				all = append(all, r)
			}
		}
	}
	return all
}

// crowdsOf are all demands of n bidders with some of the rows.
func crowdsOf(n int, rows [][]int) [][][]int {
	var all [][][]int
	for _, places := range listsOf(n, upTo(len(rows)-1)...) {
		var crowd [][]int
		for _, p := range places {
			crowd = append(crowd, slices.Clone(rows[p]))
		}
		all = append(all, crowd)
	}
	return all
}

// fewDemands are demands of one up to four bidders: all of some short rows, with none, with numbers that are the same, and with both ends of the range.
func fewDemands() [][][]int {
	all := crowdsOf(1, fallingRows(impl.MaxUnits, 30, 7, 0))
	all = append(all, crowdsOf(2, fallingRows(2, 30, 7, 6, 0))...)
	all = append(all, crowdsOf(3, [][]int{nil, {0}, {7}, {7, 7}, {30, 6}, {8, 7, 0}})...)
	return append(all, crowdsOf(4, [][]int{nil, {7}, {9, 7, 7}})...)
}

// someDemands are the fewDemands, and longer ones.
func someDemands() [][][]int {
	return append(fewDemands(), [][][]int{
		{{9, 5}, {8, 7, 2}, {6}},
		{{30, 30, 30, 30, 30}, {30, 30, 30, 30, 30}, {30, 30, 30, 30, 30}, {30, 30, 30, 30, 30}},
		{{0, 0, 0, 0, 0}, {0, 0, 0, 0, 0}, {0, 0, 0, 0, 0}, {0, 0, 0, 0, 0}},
		{{1, 1, 1, 1, 1}, {30, 24, 13, 2, 0}, {30, 13, 13, 13, 1}, nil},
		{{20, 10, 5, 2, 1}, {19, 11, 6, 3, 0}, {18, 12, 7, 4, 2}, {17, 13, 8, 5, 3}},
		{{5, 4, 3, 2, 1}, {30}, {29}, {28}},
		{nil, nil, nil, {3, 2}},
		{{4, 4, 4}, {4, 4}, {4}, {4, 4, 4, 4}},
	}...)
}

// bySizes are all numbers of the rows, the greatest one first.
func bySizes(rows [][]int) []int {
	all := slices.Concat(rows...)
	slices.SortFunc(all, func(a, b int) int { return cmp.Compare(b, a) })
	return all
}

// others are the rows without that of the bidder i.
func others(rows [][]int, i int) [][]int {
	return slices.Delete(slices.Clone(rows), i, i+1)
}

// withRow returns a copy of the rows with another one at a place.
func withRow(rows [][]int, i int, r []int) [][]int {
	c := slices.Clone(rows)
	c[i] = r
	return c
}

// sum returns the sum of the numbers.
func sum(numbers []int) int {
	s := 0
	for _, x := range numbers {
		s += x
	}
	return s
}

// rowWorth is what so many units are worth by a row, 0 for each one behind it.
func rowWorth(r []int, units int) int {
	s := 0
	for u := range units {
		if u < len(r) {
			s += r[u]
		}
	}
	return s
}

// wantAward is what the document says of AwardUnits: all numbers in the order in which they are served, each with its bidder.
func wantAward(rows [][]int, k int) []int {
	type unit struct{ number, bidder int }
	var all []unit
	for i, r := range rows {
		for _, x := range r {
			all = append(all, unit{x, i})
		}
	}
	slices.SortStableFunc(all, func(a, b unit) int {
		return cmp.Or(cmp.Compare(b.number, a.number), cmp.Compare(a.bidder, b.bidder))
	})
	has := make([]int, len(rows))
	for _, u := range all[:min(k, len(all))] {
		has[u.bidder]++
	}
	return has
}

// wantWorth is what the document says of WorthOf, found by trying all ways to give the units away, 0 without bidders.
func wantWorth(rows [][]int, k int) int {
	if len(rows) == 0 {
		return 0
	}
	most := 0
	for units := range k + 1 {
		most = max(most, rowWorth(rows[0], units)+wantWorth(rows[1:], k-units))
	}
	return most
}

// wantPivots is what the document says of PivotUnits.
func wantPivots(rows [][]int, k int) []int {
	has, pays := wantAward(rows, k), make([]int, len(rows))
	for i := range rows {
		pays[i] = wantWorth(others(rows, i), k)
		for j, r := range rows {
			if j != i {
				pays[i] -= rowWorth(r, has[j])
			}
		}
	}
	return pays
}

// wantPushed is what the document says of PushedUnits: so many numbers of the others, one by one, that are behind those that are left.
func wantPushed(rows [][]int, k int) []int {
	has, pays := wantAward(rows, k), make([]int, len(rows))
	for i := range rows {
		theirs := bySizes(others(rows, i))
		for u := range has[i] {
			if at := k - has[i] + u; at < len(theirs) {
				pays[i] += theirs[at]
			}
		}
	}
	return pays
}

// wantEach is what the document says of EachUnits.
func wantEach(rows [][]int, k int) []int {
	has, pays := wantAward(rows, k), make([]int, len(rows))
	for i, r := range rows {
		pays[i] = rowWorth(r, has[i])
	}
	return pays
}

// wantGainUnits is what the document says of GainUnits.
func wantGainUnits(rows [][]int, k, i int, told []int) int {
	said := withRow(rows, i, told)
	return rowWorth(rows[i], wantAward(said, k)[i]) - wantPivots(said, k)[i]
}

func TestUnitsLimits(t *testing.T) {
	if impl.MaxUnits != 5 || impl.MaxCrowd != 4 {
		t.Error("limits are not those of the document")
	}
}

func TestValidDemands(t *testing.T) {
	for _, rows := range [][][]int{{nil}, {{}}, {nil, nil, nil, nil}, {{0}}, {{30}}, {{30, 30, 30, 30, 30}}, {{0, 0, 0, 0, 0}}, {{5, 4, 3, 2, 1}, nil, {30, 0}, {7, 7}}} {
		if !impl.ValidDemands(rows) {
			t.Errorf("ValidDemands(%v) = false", rows)
		}
	}
	for _, rows := range someDemands() {
		if !impl.ValidDemands(rows) {
			t.Fatalf("ValidDemands(%v) = false", rows)
		}
	}
	for _, rows := range wrongDemands() {
		if impl.ValidDemands(rows) {
			t.Errorf("ValidDemands(%v) = true", rows)
		}
	}
}

func TestP17DemandsCanBeLeftOut(t *testing.T) {
	for _, rows := range someDemands() {
		for n := len(rows); n >= 1; n-- {
			if !impl.ValidDemands(rows[:n]) {
				t.Fatalf("ValidDemands(%v) = false", rows[:n])
			}
		}
	}
	if impl.ValidDemands([][]int{{3}}[:0]) {
		t.Error("ValidDemands of no bidders = true")
	}
}

func TestAwardUnits(t *testing.T) {
	for _, c := range []struct {
		rows [][]int
		k    int
		has  []int
	}{
		{[][]int{nil}, 0, []int{0}},
		{[][]int{nil}, 5, []int{0}},
		{[][]int{{5, 4}}, 0, []int{0}},
		{[][]int{{5, 4}}, 1, []int{1}},
		{[][]int{{5, 4}}, 5, []int{2}},
		// A number of 0 is a number for one more, too.
		{[][]int{{0}}, 1, []int{1}},
		{[][]int{{0}, {0, 0}}, 2, []int{1, 1}},
		{[][]int{nil, {0, 0}, {3}}, 2, []int{0, 1, 1}},
		// Numbers that are the same: the first bidder, as long as there are numbers.
		{[][]int{{5}, {5}}, 1, []int{1, 0}},
		{[][]int{{5, 5}, {5}}, 2, []int{2, 0}},
		{[][]int{{5, 4}, {5, 5}}, 2, []int{1, 1}},
		{[][]int{{6, 5}, {5, 5}, {5}}, 3, []int{2, 1, 0}},
		{[][]int{{4}, {5}, {5}}, 2, []int{0, 1, 1}},
		{[][]int{nil, {9}, nil, {9, 9}}, 2, []int{0, 1, 0, 1}},
		{[][]int{{5, 4, 3, 2, 1}, {30}, {29}, {28}}, 5, []int{2, 1, 1, 1}},
		{[][]int{{30, 30, 30, 30, 30}, {30}}, 5, []int{5, 0}},
	} {
		if has := impl.AwardUnits(c.rows, c.k); !slices.Equal(has, c.has) {
			t.Errorf("AwardUnits(%v, %d) = %v, want %v", c.rows, c.k, has, c.has)
		}
	}
	for _, rows := range someDemands() {
		for _, k := range allUnits {
			if has := impl.AwardUnits(rows, k); !slices.Equal(has, wantAward(rows, k)) {
				t.Fatalf("AwardUnits(%v, %d) = %v, want %v", rows, k, has, wantAward(rows, k))
			}
		}
	}
}

func TestWorthOf(t *testing.T) {
	for _, c := range []struct {
		rows    [][]int
		k, want int
	}{
		{[][]int{nil}, 5, 0}, {[][]int{{7}}, 0, 0}, {[][]int{{7}}, 1, 7}, {[][]int{{7}}, 5, 7}, {[][]int{{0, 0}}, 2, 0},
		{[][]int{{7, 6}, {6, 6}}, 2, 13}, {[][]int{{7, 1}, nil, {6, 5, 5}}, 4, 23}, {[][]int{{30, 30}, {30, 30, 30}}, 5, 150},
		{[][]int{{5, 4, 3, 2, 1}, {30}, {29}, {28}}, 5, 96},
	} {
		if n := impl.WorthOf(c.rows, c.k); n != c.want {
			t.Errorf("WorthOf(%v, %d) = %d, want %d", c.rows, c.k, n, c.want)
		}
	}
	for _, rows := range someDemands() {
		for _, k := range allUnits {
			if n := impl.WorthOf(rows, k); n != wantWorth(rows, k) {
				t.Fatalf("WorthOf(%v, %d) = %d, want %d", rows, k, n, wantWorth(rows, k))
			}
		}
	}
}

func TestOnePrice(t *testing.T) {
	for _, c := range []struct {
		rows    [][]int
		k, want int
	}{
		{[][]int{nil}, 0, 0}, {[][]int{nil, nil}, 5, 0}, {[][]int{{5}}, 0, 5}, {[][]int{{5}}, 1, 0}, {[][]int{{5}}, 5, 0},
		{[][]int{{5, 4}}, 1, 4}, {[][]int{{5, 4}}, 2, 0}, {[][]int{{4}, {9}}, 0, 9}, {[][]int{{4}, {9}}, 1, 4},
		// Numbers that are the same are counted as often as they are there.
		{[][]int{{7, 7}, {7}, {3}}, 1, 7}, {[][]int{{7, 7}, {7}, {3}}, 2, 7}, {[][]int{{7, 7}, {7}, {3}}, 3, 3}, {[][]int{{30, 30, 30, 30, 30}, {30}}, 5, 30},
	} {
		if n := impl.OnePrice(c.rows, c.k); n != c.want {
			t.Errorf("OnePrice(%v, %d) = %d, want %d", c.rows, c.k, n, c.want)
		}
	}
	for _, rows := range someDemands() {
		numbers := append(bySizes(rows), make([]int, impl.MaxUnits+1)...)
		for _, k := range allUnits {
			if n := impl.OnePrice(rows, k); n != numbers[k] {
				t.Fatalf("OnePrice(%v, %d) = %d, want %d", rows, k, n, numbers[k])
			}
		}
	}
}

func TestPaysForUnits(t *testing.T) {
	for _, c := range []struct {
		rows         [][]int
		k            int
		pushed, each []int
	}{
		{[][]int{nil}, 5, []int{0}, []int{0}},
		{[][]int{{30}}, 0, []int{0}, []int{0}},
		{[][]int{{30, 20}}, 1, []int{0}, []int{30}},
		{[][]int{{5}, {5}}, 1, []int{5, 0}, []int{5, 0}},
		{[][]int{{5}, {5}}, 2, []int{0, 0}, []int{5, 5}},
		{[][]int{{9, 5}, {8, 7, 2}, {6}}, 3, []int{6, 11, 0}, []int{9, 15, 0}},
		// The others have fewer numbers than are pushed out.
		{[][]int{{9, 8, 7}, {6}}, 3, []int{6, 0}, []int{24, 0}},
		{[][]int{{9, 8, 7}, {6}, nil}, 4, []int{0, 0, 0}, []int{24, 6, 0}},
		{[][]int{{9, 8}, {6, 1}, nil}, 3, []int{1, 0, 0}, []int{17, 6, 0}},
		{[][]int{{30, 30, 30, 30, 30}, {29, 28, 27, 26, 25}}, 5, []int{135, 0}, []int{150, 0}},
	} {
		if pays := impl.PivotUnits(c.rows, c.k); !slices.Equal(pays, c.pushed) {
			t.Errorf("PivotUnits(%v, %d) = %v, want %v", c.rows, c.k, pays, c.pushed)
		}
		if pays := impl.PushedUnits(c.rows, c.k); !slices.Equal(pays, c.pushed) {
			t.Errorf("PushedUnits(%v, %d) = %v, want %v", c.rows, c.k, pays, c.pushed)
		}
		if pays := impl.EachUnits(c.rows, c.k); !slices.Equal(pays, c.each) {
			t.Errorf("EachUnits(%v, %d) = %v, want %v", c.rows, c.k, pays, c.each)
		}
	}
	for _, rows := range someDemands() {
		for _, k := range allUnits {
			if pays := impl.PivotUnits(rows, k); !slices.Equal(pays, wantPivots(rows, k)) {
				t.Fatalf("PivotUnits(%v, %d) = %v, want %v", rows, k, pays, wantPivots(rows, k))
			}
			if pays := impl.PushedUnits(rows, k); !slices.Equal(pays, wantPushed(rows, k)) {
				t.Fatalf("PushedUnits(%v, %d) = %v, want %v", rows, k, pays, wantPushed(rows, k))
			}
			if pays := impl.EachUnits(rows, k); !slices.Equal(pays, wantEach(rows, k)) {
				t.Fatalf("EachUnits(%v, %d) = %v, want %v", rows, k, pays, wantEach(rows, k))
			}
		}
	}
}

// eachWrongUnits gives demands and units of which one is not valid.
func eachWrongUnits(refused func(rows [][]int, k int)) {
	for _, rows := range wrongDemands() {
		for _, k := range allUnits {
			refused(rows, k)
		}
	}
	for _, k := range wrongUnits {
		refused([][]int{{9, 5}, {8}}, k)
		refused([][]int{nil}, k)
	}
}

func TestUnitsOthers(t *testing.T) {
	eachWrongUnits(func(rows [][]int, k int) {
		if has := impl.AwardUnits(rows, k); has != nil {
			t.Errorf("AwardUnits(%v, %d) = %v", rows, k, has)
		}
		if n := impl.WorthOf(rows, k); n != -1 {
			t.Errorf("WorthOf(%v, %d) = %d", rows, k, n)
		}
		if n := impl.OnePrice(rows, k); n != -1 {
			t.Errorf("OnePrice(%v, %d) = %d", rows, k, n)
		}
		if pays := impl.PivotUnits(rows, k); pays != nil {
			t.Errorf("PivotUnits(%v, %d) = %v", rows, k, pays)
		}
		if pays := impl.PushedUnits(rows, k); pays != nil {
			t.Errorf("PushedUnits(%v, %d) = %v", rows, k, pays)
		}
		if pays := impl.EachUnits(rows, k); pays != nil {
			t.Errorf("EachUnits(%v, %d) = %v", rows, k, pays)
		}
	})
}

// toldRows are rows that are told in place of others: none, numbers that are the same, some between, and both ends of the range.
var toldRows = [][]int{nil, {0}, {7}, {30}, {7, 7}, {8, 6}, {30, 30, 30, 30, 30}, {0, 0, 0, 0, 0}, {9, 8, 7, 6, 5}}

func TestGainUnits(t *testing.T) {
	list := [][]int{{9, 5}, {8, 7, 2}, {6}}
	for _, c := range []struct {
		rows [][]int
		k, i int
		told []int
		want int
	}{
		{list, 3, 0, []int{9, 5}, 3}, {list, 3, 0, []int{9, 9}, 1}, {list, 3, 0, nil, 0}, {list, 3, 0, []int{6, 0}, 3}, {list, 3, 0, []int{7, 7}, 1},
		{list, 3, 1, []int{8, 7, 2}, 4}, {list, 3, 1, []int{30}, 3}, {list, 3, 2, []int{9}, -1}, {list, 3, 2, []int{6}, 0}, {list, 0, 0, []int{30, 30}, 0},
		// More units than the own row has numbers: nothing for those behind it.
		{[][]int{{9}, {8, 3}}, 2, 0, []int{30, 30}, -2}, {[][]int{nil, {8, 3}}, 2, 0, []int{8}, -3}, {[][]int{{4}}, 5, 0, []int{1, 1, 1, 1, 1}, 4},
		{[][]int{{4}}, 5, 0, nil, 0}, {[][]int{nil}, 5, 0, []int{30}, 0}, {[][]int{{0}}, 1, 0, []int{0}, 0},
	} {
		if g, ok := impl.GainUnits(c.rows, c.k, c.i, c.told); g != c.want || !ok {
			t.Errorf("GainUnits(%v, %d, %d, %v) = %d, %v, want %d", c.rows, c.k, c.i, c.told, g, ok, c.want)
		}
	}
	for _, rows := range someDemands() {
		for _, k := range []int{0, 1, 2, 3, 5} {
			for i := range rows {
				for _, told := range toldRows {
					want := wantGainUnits(rows, k, i, told)
					if g, ok := impl.GainUnits(rows, k, i, told); g != want || !ok {
						t.Fatalf("GainUnits(%v, %d, %d, %v) = %d, %v, want %d", rows, k, i, told, g, ok, want)
					}
				}
			}
		}
	}
}

func TestGainUnitsOthers(t *testing.T) {
	refused := func(rows [][]int, k, i int, told []int) {
		t.Helper()
		if g, ok := impl.GainUnits(rows, k, i, told); g != 0 || ok {
			t.Errorf("GainUnits(%v, %d, %d, %v) = %d, %v", rows, k, i, told, g, ok)
		}
	}
	// The own row is to be valid, too, though another one is told.
	eachWrongUnits(func(rows [][]int, k int) {
		refused(rows, k, 0, []int{3})
		refused(rows, k, len(rows)-1, []int{3})
		refused(rows, k, 0, nil)
	})
	for _, i := range []int{-1, 2, 3, impl.MaxCrowd, math.MinInt, math.MaxInt} {
		refused([][]int{{9, 5}, {8}}, 2, i, []int{3})
		refused([][]int{{9, 5}, {8}}, 2, i, nil)
	}
	for _, told := range wrongRows() {
		for i := range 2 {
			refused([][]int{{9, 5}, {8}}, 2, i, told)
			refused([][]int{{9, 5}, {8}}, 0, i, told)
		}
	}
}

func TestP18TheGreedyWayIsWorthMost(t *testing.T) {
	for _, rows := range someDemands() {
		for _, k := range allUnits {
			has := impl.AwardUnits(rows, k)
			if len(has) != len(rows) || sum(has) != min(k, len(slices.Concat(rows...))) {
				t.Fatalf("AwardUnits(%v, %d) = %v", rows, k, has)
			}
			worth := 0
			for i, r := range rows {
				if has[i] < 0 || has[i] > len(r) {
					t.Fatalf("AwardUnits(%v, %d) = %v", rows, k, has)
				}
				worth += rowWorth(r, has[i])
			}
			if n := impl.WorthOf(rows, k); n != worth {
				t.Fatalf("AwardUnits(%v, %d) = %v is worth %d, but WorthOf is %d", rows, k, has, worth, n)
			}
		}
	}
}

func TestP19OneUnitMoreIsWorthNoMoreThanTheOneAhead(t *testing.T) {
	for _, rows := range someDemands() {
		last := impl.MaxBid
		for k := range impl.MaxUnits {
			adds := impl.WorthOf(rows, k+1) - impl.WorthOf(rows, k)
			if adds < 0 || adds > last || adds != impl.OnePrice(rows, k) {
				t.Fatalf("of %v WorthOf %d units adds %d, the last one %d, and OnePrice is %d", rows, k+1, adds, last, impl.OnePrice(rows, k))
			}
			last = adds
		}
	}
}

func TestP22NothingIsPushedOutIfThereIsEnough(t *testing.T) {
	enough := 0
	for _, rows := range someDemands() {
		for _, k := range allUnits {
			pays := impl.PushedUnits(rows, k)
			if len(pays) != len(rows) || slices.Min(pays) < 0 {
				t.Fatalf("PushedUnits(%v, %d) = %v", rows, k, pays)
			}
			if k < len(slices.Concat(rows...)) {
				continue
			}
			enough++
			if slices.Max(pays) != 0 {
				t.Fatalf("PushedUnits(%v, %d) = %v, but there is enough", rows, k, pays)
			}
		}
	}
	if enough == 0 {
		t.Error("there was never enough")
	}
}

func TestP23TheOwnNumbersAreAll(t *testing.T) {
	for _, rows := range someDemands() {
		for _, k := range allUnits {
			if pays := impl.EachUnits(rows, k); len(pays) != len(rows) || sum(pays) != impl.WorthOf(rows, k) {
				t.Fatalf("EachUnits(%v, %d) = %v, but WorthOf is %d", rows, k, pays, impl.WorthOf(rows, k))
			}
		}
	}
}

func TestP24TruthIsBestForUnits(t *testing.T) {
	told := append(fallingRows(2, 30, 8, 7, 6, 0), toldRows...)
	less := 0
	for _, rows := range someDemands() {
		for _, k := range []int{0, 1, 2, 3, 5} {
			for i, r := range rows {
				own, ok := impl.GainUnits(rows, k, i, r)
				if !ok || own < 0 {
					t.Fatalf("GainUnits(%v, %d, %d, %v) = %d, %v", rows, k, i, r, own, ok)
				}
				for _, other := range told {
					g, ok := impl.GainUnits(rows, k, i, other)
					if !ok || g > own {
						t.Fatalf("GainUnits(%v, %d, %d, %v) = %d, %v, but of the own row %d", rows, k, i, other, g, ok, own)
					}
					if g < own {
						less++
					}
				}
			}
		}
	}
	if less == 0 {
		t.Error("no other row was worse than the own one")
	}
}

func TestP80OneThingIsOneUnit(t *testing.T) {
	for n := 1; n <= impl.MaxCrowd; n++ {
		for _, bids := range listsOf(n, 0, 1, 7, 29, 30) {
			var rows [][]int
			for _, b := range bids {
				rows = append(rows, []int{b})
			}
			at, pays := impl.SaleBy("second", bids, 0)
			if pivots := impl.PivotUnits(rows, 1); len(pivots) != n || !slices.Equal(pivots, pays) {
				t.Fatalf("PivotUnits(%v, 1) = %v, but SaleBy asks %v", rows, pivots, pays)
			}
			if has := impl.AwardUnits(rows, 1); !slices.Equal(has, with(make([]int, n), at, 1)) {
				t.Fatalf("AwardUnits(%v, 1) = %v, but SaleBy gives it to %d", rows, has, at)
			}
		}
	}
}

func TestP84TruthHasWhatIsAdded(t *testing.T) {
	for _, rows := range someDemands() {
		for _, k := range allUnits {
			for i, r := range rows {
				added := impl.WorthOf(rows, k)
				// No bidders are no demands: nothing is worth anything to them.
				if len(rows) > 1 {
					added -= impl.WorthOf(others(rows, i), k)
				}
				if g, ok := impl.GainUnits(rows, k, i, r); g != added || !ok {
					t.Fatalf("GainUnits(%v, %d, %d, %v) = %d, %v, but %d is added", rows, k, i, r, g, ok, added)
				}
			}
		}
	}
}

func TestP85MoreUnitsAreCheaperAndMoreBiddersDearer(t *testing.T) {
	for _, rows := range someDemands() {
		for _, k := range allUnits {
			if price := impl.OnePrice(rows, k); price < 0 || k > 0 && price > impl.OnePrice(rows, k-1) {
				t.Fatalf("OnePrice(%v, %d) = %d, but of one unit fewer %d", rows, k, price, impl.OnePrice(rows, k-1))
			}
			all := impl.PivotUnits(rows, k)
			if len(all) != len(rows) {
				t.Fatalf("PivotUnits(%v, %d) = %v", rows, k, all)
			}
			if fewer := rows[:len(rows)-1]; len(fewer) > 0 && sum(all) < sum(impl.PivotUnits(fewer, k)) {
				t.Fatalf("PivotUnits(%v, %d) = %v, but with one bidder fewer %v", rows, k, all, impl.PivotUnits(fewer, k))
			}
		}
	}
}

func TestP95NoOnePaysLessForWhatIsDearer(t *testing.T) {
	pairs := 0
	for _, rows := range append(someDemands(), crowdsOf(4, [][]int{{3}, {7}, {9}, {8, 2}})...) {
		for _, k := range allUnits {
			has, pays, price := impl.AwardUnits(rows, k), impl.PivotUnits(rows, k), impl.OnePrice(rows, k)
			if len(has) != len(rows) || len(pays) != len(rows) {
				t.Fatalf("of %v, %d AwardUnits is %v, PivotUnits %v", rows, k, has, pays)
			}
			served := 0
			for i, r := range rows {
				if len(r) != 1 || has[i] != 1 {
					continue
				}
				served++
				if pays[i] != price {
					t.Fatalf("PivotUnits(%v, %d) = %v, but OnePrice is %d", rows, k, pays, price)
				}
			}
			if served > 1 && price > 0 {
				pairs++
			}
		}
	}
	if pairs == 0 {
		t.Error("never two bidders paid")
	}
}

// callUnits calls all functions of the chapter.
func callUnits(rows [][]int, k, i int, told []int) {
	impl.ValidDemands(rows)
	impl.AwardUnits(rows, k)
	impl.WorthOf(rows, k)
	impl.OnePrice(rows, k)
	impl.PivotUnits(rows, k)
	impl.PushedUnits(rows, k)
	impl.EachUnits(rows, k)
	impl.GainUnits(rows, k, i, told)
}

func TestUnitsKeepArguments(t *testing.T) {
	for _, rows := range [][][]int{
		{{4}}, {nil, {3, 2}}, {{9, 5}, {8, 7, 2}, {6}}, {{1, 1}, {2, 2}, {3, 3}, {4, 4}}, {{5, 4, 3, 2, 1}, {30}, {29}, {28}},
		nil, {{1}, {1}, {1}, {1}, {1}}, {{9, 8}, {1, 2}}, {{31, 5}, {8}}, {{9, 8, 7, 6, 5, 4}, {7}},
	} {
		for _, told := range [][]int{nil, {8}, {30, 20, 20, 10, 0}, {1, 2}} {
			for _, k := range []int{-1, 0, 1, 3, 5, 6} {
				for i := -1; i <= len(rows); i++ {
					r, s := roomyRows(rows), roomy(told)
					callUnits(r, k, i, s)
					if !roomyRowsAreKept(r, rows) || !roomyIsKept(s, told) {
						t.Fatalf("by %d units, and %v of %d, the rows %v become %v", k, told, i, rows, r)
					}
				}
			}
		}
	}
}

func TestUnitsShareNoMemory(t *testing.T) {
	lists := []struct {
		name string
		of   func(rows [][]int, k int) []int
		want func(rows [][]int, k int) []int
	}{
		{"AwardUnits", impl.AwardUnits, wantAward},
		{"PivotUnits", impl.PivotUnits, wantPivots},
		{"PushedUnits", impl.PushedUnits, wantPushed},
		{"EachUnits", impl.EachUnits, wantEach},
	}
	for _, rows := range [][][]int{{{4}}, {{5, 5}, {5}}, {{9, 5}, {8, 7, 2}, {6}}, {{1, 1}, {2, 2}, {3, 3}, {4, 4}}} {
		for _, k := range []int{0, 1, 3, 5} {
			r := roomyRows(rows)
			for _, one := range lists {
				list := one.of(r, k)
				for _, other := range lists {
					kept := other.of(r, k)
					scribble(list)
					if !roomyRowsAreKept(r, rows) || !slices.Equal(kept, other.want(rows, k)) || !slices.Equal(other.of(r, k), other.want(rows, k)) {
						t.Fatalf("the result of %s of %v, %d shares memory with it, or with that of %s", one.name, rows, k, other.name)
					}
				}
			}
		}
	}
}

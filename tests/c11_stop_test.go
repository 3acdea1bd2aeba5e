package tests

import (
	"math"
	"math/big"
	"slices"
	"sync"
	"testing"

	"loop.example/salesbybids/impl"
)

// wrongDivisors are numbers outside of 1..MaxValues.
var wrongDivisors = append([]int{0}, wrongEdges...)

// wrongStages are rows that are no stages.
func wrongStages() [][][]int {
	wrong := [][][]int{nil, {}, {{1}, {1}, {1}, {1}, {1}}, make([][]int, impl.MaxStages), make([][]int, 1000)}
	for _, w := range wrongWeights() {
		wrong = append(wrong, [][]int{w}, [][]int{w, {1, 2}}, [][]int{{1, 2}, w}, [][]int{{3}, w, {1, 2}}, [][]int{{1}, {2}, {3}, w})
	}
	return wrong
}

// stagesOf are all stages of so many of the weights.
func stagesOf(n int, weights ...[]int) [][][]int {
	var all [][][]int
	for _, list := range listsOf(n, upTo(len(weights)-1)...) {
		var rows [][]int
		for _, i := range list {
			rows = append(rows, weights[i])
		}
		all = append(all, rows)
	}
	return all
}

// someStages are stages of one up to as many as there may be: values of nothing, weights that are the same, both ends, and bent ones.
func someStages() [][][]int {
	all := stagesOf(1, someWeights()...)
	all = append(all, stagesOf(2, []int{1}, []int{6}, []int{1, 1}, []int{6, 1}, []int{1, 6}, []int{1, 1, 1}, []int{3, 2, 1}, []int{1, 1, 1, 3}, []int{1, 3, 2, 3}, []int{1, 1, 1, 1, 1}, []int{6, 6, 6, 6, 6, 6}, []int{6, 1, 1, 1, 1, 6}, []int{2, 1, 6, 1, 3, 5})...)
	all = append(all, stagesOf(3, []int{3}, []int{1, 1}, []int{1, 1, 1}, []int{6, 1, 1, 1}, []int{1, 3, 2, 3}, []int{6, 5, 4, 3, 2, 1})...)
	all = append(all, stagesOf(4, []int{1}, []int{1, 2}, []int{4, 1, 4}, []int{6, 1, 1, 1, 1, 1})...)
	for x := 1; x <= impl.MaxWeight; x++ {
		all = append(all, stagesOf(4, []int{x, x, x, x, x, x})...)
	}
	return append(all, bentStages(), [][]int{{6, 1, 1, 1, 1, 1}, {6, 1, 1, 1, 1, 1}, {6, 1, 1, 1, 1, 1}, {6, 1, 1, 1, 1, 1}}, [][]int{{1, 1}, {1, 1, 1}, {1, 1, 1, 1}, {1, 1, 1, 1, 1}})
}

// bentStages are as many stages as there may be, each with as many values, and other weights.
func bentStages() [][]int {
	return [][]int{{1, 2, 3, 4, 5, 6}, {6, 5, 4, 3, 2, 1}, {1, 6, 1, 6, 1, 6}, {2, 1, 6, 1, 3, 5}}
}

// backwards are the stages the other way round.
func backwards(rows [][]int) [][]int {
	c := slices.Clone(rows)
	slices.Reverse(c)
	return c
}

// greatestOf is the greatest value of all stages.
func greatestOf(rows [][]int) int {
	most := 0
	for _, w := range rows {
		most = max(most, len(w)-1)
	}
	return most
}

// meanOf is the mean of what is had of the values of all stages, all of them gone through.
func meanOf(rows [][]int, had func(values []int) int) *big.Rat {
	sum, all := 0, 0
	var visit func(values []int, ways int)
	visit = func(values []int, ways int) {
		if len(values) == len(rows) {
			sum, all = sum+ways*had(values), all+ways
			return
		}
		for v, x := range rows[len(values)] {
			visit(append(values, v), ways*x)
		}
	}
	visit(make([]int, 0, len(rows)), 1)
	return big.NewRat(int64(sum), int64(all))
}

// wantSeen is what the document says of BestSeen.
func wantSeen(rows [][]int) *big.Rat {
	return meanOf(rows, slices.Max[[]int])
}

// wantStopAt is what the document says of StopAt, the edge being a number.
func wantStopAt(rows [][]int, edge *big.Rat) *big.Rat {
	up, down := int(edge.Num().Int64()), int(edge.Denom().Int64())
	return meanOf(rows, func(values []int) int {
		for _, v := range values {
			if v*down >= up {
				return v
			}
		}
		return 0
	})
}

// halfOf is half of a number.
func halfOf(r *big.Rat) *big.Rat {
	return new(big.Rat).Quo(r, big.NewRat(2, 1))
}

// wantStop is what the document says of BestStop: all lists of edges, one for each stage, are tried, from the first stage on.
func wantStop(rows [][]int) *big.Rat {
	all, most := 1, 0
	for _, w := range rows {
		all *= sum(w)
	}
	var try func(i, left, had int)
	try = func(i, left, had int) {
		if i == len(rows) {
			most = max(most, had)
			return
		}
		// What is had is counted for all ways, those of the stages behind as well.
		behind := 1
		for _, w := range rows[i+1:] {
			behind *= sum(w)
		}
		below, taken := sum(rows[i]), 0
		try(i+1, left*below, had)
		for edge := len(rows[i]) - 1; edge >= 0; edge-- {
			below, taken = below-rows[i][edge], taken+edge*rows[i][edge]
			try(i+1, left*below, had+left*taken*behind)
		}
	}
	try(0, 1, 0)
	return big.NewRat(int64(most), int64(all))
}

// stopMean is the mean of a function of stages as a number, which must be there, in lowest terms.
func stopMean(t *testing.T, name string, of func(rows [][]int) (impl.Frac, bool), rows [][]int) *big.Rat {
	t.Helper()
	f, ok := of(rows)
	if !ok {
		t.Fatalf("%s(%v) is refused", name, rows)
	}
	return ratOf(t, f)
}

// seenMean, stopsMean and halfMean are BestSeen, BestStop and HalfStop as numbers.
func seenMean(t *testing.T, rows [][]int) *big.Rat {
	t.Helper()
	return stopMean(t, "BestSeen", impl.BestSeen, rows)
}

func stopsMean(t *testing.T, rows [][]int) *big.Rat {
	t.Helper()
	return stopMean(t, "BestStop", impl.BestStop, rows)
}

func halfMean(t *testing.T, rows [][]int) *big.Rat {
	t.Helper()
	return stopMean(t, "HalfStop", impl.HalfStop, rows)
}

// edgeMean is StopAt as a number.
func edgeMean(t *testing.T, rows [][]int, up, down int) *big.Rat {
	t.Helper()
	f, ok := impl.StopAt(rows, up, down)
	if !ok {
		t.Fatalf("StopAt(%v, %d, %d) is refused", rows, up, down)
	}
	return ratOf(t, f)
}

// ratBy is the number of a text.
func ratBy(t *testing.T, text string) *big.Rat {
	t.Helper()
	r, ok := new(big.Rat).SetString(text)
	if !ok {
		t.Fatalf("%q is no number", text)
	}
	return r
}

// eachEdge goes through all edges of StopAt.
func eachEdge(visit func(up, down int)) {
	for _, up := range allEdges {
		for _, down := range allEdges[1:] {
			visit(up, down)
		}
	}
}

// ordersOf are all orders of the numbers 0..n-1, the greatest one put at each place of the orders without it.
func ordersOf(n int) [][]int {
	if n == 0 {
		return [][]int{nil}
	}
	var all [][]int
	for _, order := range ordersOf(n - 1) {
		for at := range n {
			all = append(all, slices.Insert(slices.Clone(order), at, n-1))
		}
	}
	return all
}

// wantSkip is what the document says of SkipWins and SkipTried: in how many orders the greatest number is not among the first k, and the greatest one ahead of it is.
func wantSkip(n, k int) int {
	wins := 0
	for _, order := range ordersOf(n) {
		at := slices.Index(order, n-1)
		if at >= k && (at == 0 || slices.Index(order, slices.Max(order[:at])) < k) {
			wins++
		}
	}
	return wins
}

// skips are how many orders win, for each n in 1..MaxOrder and each k in 0..n-1.
var skips = [][]int{1: {1}, 2: {1, 1}, 3: {2, 3, 2}, 4: {6, 11, 10, 6}, 5: {24, 50, 52, 42, 24}, 6: {120, 274, 308, 282, 216, 120}}

// wrongSkips are numbers n and k of which k is not in 0..n-1, or n not in 1..MaxOrder.
func wrongSkips() [][2]int {
	var wrong [][2]int
	for _, n := range wrongOrders {
		for _, k := range []int{-1, 0, 1, 3, n - 1, n, math.MinInt, math.MaxInt} {
			wrong = append(wrong, [2]int{n, k})
		}
	}
	for n := 1; n <= impl.MaxOrder; n++ {
		for _, k := range []int{-1, n, n + 1, -n, math.MinInt, math.MaxInt} {
			wrong = append(wrong, [2]int{n, k})
		}
	}
	return wrong
}

// wrongOrders are numbers outside of 1..MaxOrder.
var wrongOrders = []int{0, -1, impl.MaxOrder + 1, 20, 30, math.MinInt, math.MaxInt}

func TestStopsLimits(t *testing.T) {
	if impl.MaxStages != 4 || impl.MaxOrder != 6 || impl.MaxValues != 6 || impl.MaxWeight != 6 {
		t.Error("limits are not those of the document")
	}
}

func TestValidStages(t *testing.T) {
	for _, rows := range [][][]int{{{1}}, {{6}}, {{1, 2, 3, 4, 5, 6}}, {{1}, {6, 6}}, {{3, 3, 3}, {3, 3, 3}, {3, 3, 3}}, {{1}, {1}, {1}, {1}}, bentStages()} {
		if !impl.ValidStages(rows) {
			t.Errorf("ValidStages(%v) = false", rows)
		}
	}
	for _, rows := range someStages() {
		if !impl.ValidStages(rows) {
			t.Errorf("ValidStages(%v) = false", rows)
		}
	}
	for _, rows := range wrongStages() {
		if impl.ValidStages(rows) {
			t.Errorf("ValidStages(%v) = true", rows)
		}
	}
}

func TestSeenAndStops(t *testing.T) {
	same := []int{1, 1, 1, 1, 1, 1}
	for _, c := range []struct {
		rows             [][]int
		seen, stop, half string
	}{
		// Values of nothing.
		{[][]int{{1}}, "0", "0", "0"}, {[][]int{{6}}, "0", "0", "0"}, {[][]int{{1}, {1}}, "0", "0", "0"}, {[][]int{{6}, {6}, {6}, {6}}, "0", "0", "0"},
		{[][]int{{1}, {1, 1}}, "1/2", "1/2", "1/2"}, {[][]int{{1, 1}, {1}}, "1/2", "1/2", "1/2"}, {[][]int{{1}, {1}, {1}, {1, 2}}, "2/3", "2/3", "2/3"}, {[][]int{{1, 2}, {1}, {1}, {1}}, "2/3", "2/3", "2/3"},
		// One stage: all that is seen may be taken, but half of the best leaves what is less.
		{[][]int{{1, 1}}, "1/2", "1/2", "1/2"}, {[][]int{{6, 1}}, "1/7", "1/7", "1/7"}, {[][]int{{1, 6}}, "6/7", "6/7", "6/7"}, {[][]int{{1, 2, 3}}, "4/3", "4/3", "4/3"}, {[][]int{same}, "5/2", "5/2", "7/3"}, {[][]int{{6, 6, 6, 6, 6, 6}}, "5/2", "5/2", "7/3"},
		// Just half of the best is taken.
		{[][]int{{1, 1, 1, 1, 1}}, "2", "2", "2"}, {[][]int{{1, 1, 1, 1, 1}, {1}}, "2", "2", "2"}, {[][]int{{1}, {1, 1, 1, 3}}, "2", "2", "2"}, {[][]int{{1, 1, 1}, {1, 3, 2, 3}}, "2", "50/27", "43/27"}, {[][]int{{1, 1, 1}, {1, 3, 3, 3}}, "2", "28/15", "8/5"}, {[][]int{{1, 1, 2}, {2, 1, 1, 2}}, "2", "7/4", "13/8"},
		// What is better left comes ahead of what is better taken, and the other way round.
		{[][]int{{1, 1, 1}, {6, 1}}, "22/21", "22/21", "22/21"}, {[][]int{{6, 1}, {1, 1, 1}}, "22/21", "1", "1"}, {[][]int{{1, 2, 3}, {3, 2, 1}}, "3/2", "13/9", "13/9"}, {[][]int{{3, 2, 1}, {1, 2, 3}}, "3/2", "13/9", "4/3"}, {[][]int{{6, 1, 1, 1, 1, 1}, {1, 1, 1, 1, 1, 6}}, "475/121", "459/121", "427/121"}, {[][]int{{1, 6}, {6, 1, 1, 1, 1, 1}}, "141/77", "15/11", "81/77"},
		// As many stages as there may be, with weights that are the same, or not.
		{[][]int{{1, 1}, {1, 1}, {1, 1}, {1, 1}}, "15/16", "15/16", "15/16"}, {[][]int{{1, 1, 1}, {1, 1, 1}, {1, 1, 1}}, "5/3", "14/9", "13/9"}, {[][]int{same, same}, "125/36", "13/4", "28/9"}, {[][]int{same, same, same, same}, "5501/1296", "71/18", "15/4"},
		{[][]int{{1, 1}, {1, 1, 1}, {1, 1, 1, 1}, {1, 1, 1, 1, 1}}, "313/120", "9/4", "21/10"}, {[][]int{{1, 1, 1, 1, 1}, {1, 1, 1, 1}, {1, 1, 1}, {1, 1}}, "313/120", "38/15", "73/30"}, {bentStages(), "247535/55566", "38380/9261", "36394/9261"},
	} {
		if f, ok := impl.BestSeen(c.rows); !ok || !isFrac(f, ratBy(t, c.seen)) {
			t.Errorf("BestSeen(%v) = %v, %v, want %s", c.rows, f, ok, c.seen)
		}
		if f, ok := impl.BestStop(c.rows); !ok || !isFrac(f, ratBy(t, c.stop)) {
			t.Errorf("BestStop(%v) = %v, %v, want %s", c.rows, f, ok, c.stop)
		}
		if f, ok := impl.HalfStop(c.rows); !ok || !isFrac(f, ratBy(t, c.half)) {
			t.Errorf("HalfStop(%v) = %v, %v, want %s", c.rows, f, ok, c.half)
		}
	}
}

func TestStopAt(t *testing.T) {
	die, steps := []int{1, 1, 1}, []int{1, 2, 3}
	for _, c := range []struct {
		rows     [][]int
		up, down int
		want     string
	}{
		// Edges of 0: the first value, whatever it is.
		{[][]int{{1}}, 0, 1, "0"}, {[][]int{{1}, {1, 6}}, 0, 1, "0"}, {[][]int{{1}, {1, 6}}, 0, 6, "0"}, {[][]int{die, die}, 0, 1, "1"}, {[][]int{steps, die}, 0, 6, "4/3"}, {[][]int{die, steps}, 0, 3, "1"},
		// Edges that none reaches, or just the greatest value does.
		{[][]int{{1}}, 1, 6, "0"}, {[][]int{{6}, {6}, {6}, {6}}, 6, 1, "0"}, {[][]int{die, die}, 3, 1, "0"}, {[][]int{die, die}, 5, 2, "0"}, {[][]int{die, die}, 6, 1, "0"}, {[][]int{die, die}, 2, 1, "10/9"}, {[][]int{die, die}, 6, 3, "10/9"}, {bentStages(), 6, 1, "0"}, {[][]int{{1, 1, 1, 1, 1, 1}}, 5, 1, "5/6"}, {[][]int{{1, 1, 1, 1, 1, 1}}, 6, 1, "0"},
		// Edges that are values, and edges between two of them.
		{[][]int{die, die}, 1, 1, "4/3"}, {[][]int{die, die}, 4, 4, "4/3"}, {[][]int{die, die}, 1, 6, "4/3"}, {[][]int{die, die}, 5, 6, "4/3"}, {[][]int{die, die}, 6, 5, "10/9"}, {[][]int{die, die}, 3, 2, "10/9"}, {[][]int{steps}, 1, 1, "4/3"}, {[][]int{steps}, 2, 1, "1"}, {[][]int{steps}, 6, 6, "4/3"},
		// A stage at which none reaches the edge, in front and behind.
		{[][]int{{1, 6}, die}, 2, 1, "2/3"}, {[][]int{die, {1, 6}}, 2, 1, "2/3"}, {[][]int{{6}, die, {1, 1}, {2}}, 1, 1, "7/6"}, {[][]int{{2}, {1, 1}, die, {6}}, 1, 1, "1"}, {[][]int{{1, 1}, {1, 1}, {1, 1}, {1, 1}}, 1, 1, "15/16"},
	} {
		if f, ok := impl.StopAt(c.rows, c.up, c.down); !ok || !isFrac(f, ratBy(t, c.want)) {
			t.Errorf("StopAt(%v, %d, %d) = %v, %v, want %s", c.rows, c.up, c.down, f, ok, c.want)
		}
	}
}

func TestStopsOfAllKinds(t *testing.T) {
	for _, rows := range someStages() {
		seen := wantSeen(rows)
		if f, ok := impl.BestSeen(rows); !ok || !isFrac(f, seen) {
			t.Fatalf("BestSeen(%v) = %v, %v, want %v", rows, f, ok, seen)
		}
		if f, ok := impl.BestStop(rows); !ok || !isFrac(f, wantStop(rows)) {
			t.Fatalf("BestStop(%v) = %v, %v, want %v", rows, f, ok, wantStop(rows))
		}
		if f, ok := impl.HalfStop(rows); !ok || !isFrac(f, wantStopAt(rows, halfOf(seen))) {
			t.Fatalf("HalfStop(%v) = %v, %v, want %v", rows, f, ok, wantStopAt(rows, halfOf(seen)))
		}
		eachEdge(func(up, down int) {
			want := wantStopAt(rows, big.NewRat(int64(up), int64(down)))
			if f, ok := impl.StopAt(rows, up, down); !ok || !isFrac(f, want) {
				t.Fatalf("StopAt(%v, %d, %d) = %v, %v, want %v", rows, up, down, f, ok, want)
			}
		})
	}
}

func TestStopsOthers(t *testing.T) {
	refused := func(rows [][]int, up, down int) {
		t.Helper()
		if f, ok := impl.StopAt(rows, up, down); ok || f != (impl.Frac{}) {
			t.Errorf("StopAt(%v, %d, %d) = %v, %v", rows, up, down, f, ok)
		}
	}
	for _, rows := range wrongStages() {
		if f, ok := impl.BestSeen(rows); ok || f != (impl.Frac{}) {
			t.Errorf("BestSeen(%v) = %v, %v", rows, f, ok)
		}
		if f, ok := impl.BestStop(rows); ok || f != (impl.Frac{}) {
			t.Errorf("BestStop(%v) = %v, %v", rows, f, ok)
		}
		if f, ok := impl.HalfStop(rows); ok || f != (impl.Frac{}) {
			t.Errorf("HalfStop(%v) = %v, %v", rows, f, ok)
		}
		refused(rows, 0, 1)
		refused(rows, 6, 6)
		refused(rows, 1, 0)
	}
	for _, rows := range [][][]int{{{1}}, {{1, 1, 1}, {1, 1, 1}}, bentStages()} {
		for _, up := range wrongEdges {
			refused(rows, up, 1)
			refused(rows, up, 6)
			refused(rows, up, 0)
			refused(rows, up, up)
		}
		for _, down := range wrongDivisors {
			refused(rows, 0, down)
			refused(rows, 1, down)
			refused(rows, 6, down)
		}
	}
}

func TestSkips(t *testing.T) {
	for n, wins := range skips {
		for k, want := range wins {
			if w := wantSkip(n, k); w != want {
				t.Fatalf("of %d numbers, the first %d left, the greatest one is taken %d times, not %d times", n, k, w, want)
			}
			if w := impl.SkipWins(n, k); w != want {
				t.Errorf("SkipWins(%d, %d) = %d, want %d", n, k, w, want)
			}
			if w := impl.SkipTried(n, k); w != want {
				t.Errorf("SkipTried(%d, %d) = %d, want %d", n, k, w, want)
			}
		}
	}
	for n, want := range []int{1: 0, 2: 0, 3: 1, 4: 1, 5: 2, 6: 2} {
		if k := impl.BestSkip(n); n > 0 && k != want {
			t.Errorf("BestSkip(%d) = %d, want %d", n, k, want)
		}
	}
}

func TestSkipsOthers(t *testing.T) {
	for _, c := range wrongSkips() {
		if w := impl.SkipWins(c[0], c[1]); w != -1 {
			t.Errorf("SkipWins(%d, %d) = %d", c[0], c[1], w)
		}
		if w := impl.SkipTried(c[0], c[1]); w != -1 {
			t.Errorf("SkipTried(%d, %d) = %d", c[0], c[1], w)
		}
	}
	for _, n := range wrongOrders {
		if k := impl.BestSkip(n); k != -1 {
			t.Errorf("BestSkip(%d) = %d", n, k)
		}
	}
}

func TestP66StagesCanBeLeftOut(t *testing.T) {
	for _, rows := range someStages() {
		for n := len(rows); n >= 1; n-- {
			if !impl.ValidStages(rows[:n]) {
				t.Errorf("ValidStages(%v) = false", rows[:n])
			}
			for _, one := range []func(rows [][]int) (impl.Frac, bool){impl.BestSeen, impl.BestStop, impl.HalfStop} {
				if _, ok := one(rows[:n]); !ok {
					t.Errorf("the mean of %v is refused", rows[:n])
				}
			}
		}
	}
	if impl.ValidStages([][]int{{3}}[:0]) {
		t.Error("ValidStages of no stages = true")
	}
}

func TestP67AllThatIsSeenIsAtLeastWhatIsTaken(t *testing.T) {
	more, less := 0, 0
	for _, rows := range someStages() {
		seen, stop, most := seenMean(t, rows), stopsMean(t, rows), big.NewRat(int64(greatestOf(rows)), 1)
		if seen.Cmp(stop) < 0 || seen.Cmp(most) > 0 {
			t.Fatalf("BestSeen(%v) is %v, but BestStop %v, and the greatest value %v", rows, seen, stop, most)
		}
		if seen.Cmp(stop) > 0 {
			more++
		}
		if seen.Cmp(most) < 0 {
			less++
		}
	}
	if more == 0 || less == 0 {
		t.Errorf("%d times more was seen than taken, and %d times less than the greatest value", more, less)
	}
}

func TestP68TheBestStopIsAtLeastAnyEdge(t *testing.T) {
	better, longer := 0, 0
	for _, rows := range someStages() {
		stop, half := stopsMean(t, rows), halfMean(t, rows)
		most := half
		eachEdge(func(up, down int) {
			if at := edgeMean(t, rows, up, down); at.Cmp(most) > 0 {
				most = at
			}
		})
		if stop.Cmp(most) < 0 {
			t.Fatalf("BestStop(%v) is %v, but HalfStop is %v, and an edge has %v", rows, stop, half, most)
		}
		if stop.Cmp(most) > 0 {
			better++
		}
		for _, w := range [][]int{{1}, {6, 1}, {1, 6}, {1, 1, 1, 1, 1, 1}, {2, 1, 6, 1, 3, 5}} {
			if len(rows) == impl.MaxStages {
				break
			}
			// One more stage may come behind all others, or ahead of them.
			for _, at := range []int{len(rows), 0} {
				longerRows := slices.Insert(slices.Clone(rows), at, w)
				with := stopsMean(t, longerRows)
				if with.Cmp(stop) < 0 {
					t.Fatalf("BestStop(%v) is %v, but BestStop(%v) %v", longerRows, with, rows, stop)
				}
				if with.Cmp(stop) > 0 {
					longer++
				}
			}
		}
	}
	if better == 0 || longer == 0 {
		t.Errorf("%d times no edge was as good, and %d times one stage more was better", better, longer)
	}
}

func TestP69AnEdgeOfNothingTakesTheFirst(t *testing.T) {
	none, just := 0, 0
	for _, rows := range someStages() {
		first, most := wantSeen(rows[:1]), greatestOf(rows)
		eachEdge(func(up, down int) {
			at := edgeMean(t, rows, up, down)
			if up == 0 && at.Cmp(first) != 0 {
				t.Fatalf("StopAt(%v, 0, %d) is %v, but the mean of the first stage %v", rows, down, at, first)
			}
			if up > most*down {
				none++
				if at.Sign() != 0 {
					t.Fatalf("StopAt(%v, %d, %d) is %v, but no value is so great", rows, up, down, at)
				}
			}
			if up > 0 && up <= most*down {
				just++
				if at.Sign() <= 0 {
					t.Fatalf("StopAt(%v, %d, %d) is %v, but there is a value of %d", rows, up, down, at, most)
				}
			}
		})
	}
	if none == 0 || just == 0 {
		t.Errorf("%d edges were greater than all values, and %d were not", none, just)
	}
}

func TestP70HalfOfTheBestIsSure(t *testing.T) {
	between := 0
	for _, rows := range someStages() {
		seen, half := seenMean(t, rows), halfMean(t, rows)
		if half.Cmp(halfOf(seen)) < 0 {
			t.Fatalf("HalfStop(%v) is %v, but BestSeen %v", rows, half, seen)
		}
		if half.Cmp(seen) < 0 {
			between++
		}
	}
	if between == 0 {
		t.Error("all that was seen was taken")
	}
}

func TestP71CountedOrdersAreTriedOrders(t *testing.T) {
	all := 1
	for n := 1; n <= impl.MaxOrder; n++ {
		all *= n
		for k := range n {
			wins, tried := impl.SkipWins(n, k), impl.SkipTried(n, k)
			if wins != tried || wins > all || wins < 1 {
				t.Errorf("SkipWins(%d, %d) = %d, but SkipTried is %d of %d orders", n, k, wins, tried, all)
			}
		}
	}
}

func TestP72ToLeaveNoneIsToTakeTheFirst(t *testing.T) {
	for n := 1; n <= impl.MaxOrder; n++ {
		begin, end := 0, 0
		for _, order := range ordersOf(n) {
			if order[0] == n-1 {
				begin++
			}
			if order[n-1] == n-1 {
				end++
			}
		}
		if w := impl.SkipTried(n, 0); w != begin {
			t.Errorf("SkipTried(%d, 0) = %d, but %d orders begin with the best one", n, w, begin)
		}
		if w := impl.SkipTried(n, n-1); w != end {
			t.Errorf("SkipTried(%d, %d) = %d, but %d orders end with the best one", n, n-1, w, end)
		}
	}
}

func TestP73TheBestSkipIsBest(t *testing.T) {
	same := 0
	for n := 1; n <= impl.MaxOrder; n++ {
		best := impl.BestSkip(n)
		most := impl.SkipWins(n, best)
		for k := range n {
			wins := impl.SkipWins(n, k)
			if wins > most || k < best && wins == most {
				t.Errorf("BestSkip(%d) = %d, by which %d orders win, but by %d %d", n, best, most, k, wins)
			}
			if k > best && wins == most {
				same++
			}
		}
	}
	if same == 0 {
		t.Error("no greater number was as good as the best one")
	}
}

func TestP91HalfOfTheBestIsSureInAnyOrder(t *testing.T) {
	other := 0
	for _, rows := range someStages() {
		back := backwards(rows)
		seen, turned, half := seenMean(t, rows), seenMean(t, back), halfMean(t, back)
		if turned.Cmp(seen) != 0 || half.Cmp(halfOf(seen)) < 0 {
			t.Fatalf("BestSeen(%v) is %v, but BestSeen(%v) %v, and HalfStop %v", rows, seen, back, turned, half)
		}
		if half.Cmp(halfMean(t, rows)) != 0 {
			other++
		}
	}
	if other == 0 {
		t.Error("the order of the stages was the same to HalfStop")
	}
}

// callStops calls all functions of the chapter that have rows.
func callStops(rows [][]int, up, down int) {
	impl.ValidStages(rows)
	impl.BestSeen(rows)
	impl.BestStop(rows)
	impl.StopAt(rows, up, down)
	impl.HalfStop(rows)
}

func TestStopsKeepArguments(t *testing.T) {
	some := [][][]int{{{4}}, {{6}, {1}}, {{1, 1, 1}, {1, 3, 2, 3}}, {{3, 2, 1}, {1, 2, 3}, {6, 1}}, bentStages(), backwards(bentStages())}
	for _, rows := range append(some, wrongStages()...) {
		for _, up := range []int{-1, 0, 2, 6, 7} {
			for _, down := range []int{0, 1, 5, 7} {
				r := roomyRows(rows)
				callStops(r, up, down)
				if !roomyRowsAreKept(r, rows) {
					t.Fatalf("by %d and %d the rows %v become %v", up, down, rows, r)
				}
			}
		}
	}
}

func TestStopsOfArgumentsInTheSameMemory(t *testing.T) {
	own := roomy([]int{3, 2, 1})
	rows := [][]int{own, own[1:], own, own[:2]}
	apart := [][]int{{3, 2, 1}, {2, 1}, {3, 2, 1}, {3, 2}}
	for range 2 {
		callStops(rows, 1, 1)
		if !roomyIsKept(own, []int{3, 2, 1}) || !sameRows(rows, apart) {
			t.Fatalf("arguments in the same memory become %v and %v", own, rows)
		}
		if seen, stop, half := seenMean(t, rows), stopsMean(t, rows), halfMean(t, rows); seen.Cmp(wantSeen(apart)) != 0 || stop.Cmp(wantStop(apart)) != 0 || half.Cmp(wantStopAt(apart, halfOf(wantSeen(apart)))) != 0 {
			t.Fatalf("of %v BestSeen is %v, BestStop %v, and HalfStop %v", rows, seen, stop, half)
		}
	}
}

func TestStopsShareNoMemory(t *testing.T) {
	for _, rows := range [][][]int{{{4}}, {{1, 1, 1}, {1, 3, 2, 3}}, {{3, 2, 1}, {1, 2, 3}, {6, 1}}, bentStages()} {
		r := roomyRows(rows)
		seen, _ := impl.BestSeen(r)
		stop, _ := impl.BestStop(r)
		at, _ := impl.StopAt(r, 3, 2)
		half, _ := impl.HalfStop(r)
		for _, w := range r {
			scribble(w)
		}
		if !isFrac(seen, wantSeen(rows)) || !isFrac(stop, wantStop(rows)) || !isFrac(at, wantStopAt(rows, big.NewRat(3, 2))) || !isFrac(half, wantStopAt(rows, halfOf(wantSeen(rows)))) {
			t.Fatalf("means of %v are %v, %v, %v and %v after the rows were overwritten", rows, seen, stop, at, half)
		}
		// No state is kept, so that overwritten rows, which are none, leave nothing behind.
		callStops(r, 3, 2)
		if f, ok := impl.BestStop(rows); !ok || f != stop {
			t.Fatalf("BestStop(%v) = %v, %v after other calls, and %v ahead of them", rows, f, ok, stop)
		}
	}
}

func TestStopsRunSideBySide(t *testing.T) {
	rows := bentStages()
	seen, stop, half := big.NewRat(247535, 55566), big.NewRat(38380, 9261), big.NewRat(36394, 9261)
	var all sync.WaitGroup
	for range 20 {
		all.Go(func() {
			for range 20 {
				a, _ := impl.BestSeen(rows)
				b, _ := impl.BestStop(rows)
				c, _ := impl.HalfStop(rows)
				if n := impl.SkipTried(4, 1); !isFrac(a, seen) || !isFrac(b, stop) || !isFrac(c, half) || n != 11 {
					t.Errorf("of %v BestSeen is %v, BestStop %v, HalfStop %v, and SkipTried(4, 1) %d", rows, a, b, c, n)
				}
			}
		})
	}
	all.Wait()
}

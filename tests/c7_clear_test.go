package tests

import (
	"math"
	"slices"
	"testing"

	"loop.example/salesbybids/impl"
)

// wrongTops are numbers up to which no prices are tried.
var wrongTops = []int{-1, impl.MaxTop + 1, impl.MaxPrice, math.MinInt, math.MaxInt}

// endPrices are prices at both ends of their range, and some between.
var endPrices = [][]int{{0, 0, 0}, {40, 0, 0}, {0, 40, 0}, {0, 0, 40}, {40, 40, 40}, {0, 30, 30}, {30, 30, 30}, {39, 0, 1}, {5, 5, 5}, {1, 2, 4}}

// Tables for all things, for b and c together, and for b or both others, by which sets are as good as each other.
var (
	allFor7 = []int{0, 0, 0, 0, 0, 0, 0, 7}
	bcFor7  = []int{0, 0, 0, 0, 0, 0, 7, 7}
	b7orAC7 = []int{0, 0, 7, 7, 0, 7, 7, 7}
)

// splitClears reports whether the bidders want their sets, has[i] that of bidder i and the last one that of none, and what none has is free.
func splitClears(wanted [][]int, has, p []int) bool {
	n := len(wanted)
	for i := range n {
		if !slices.Contains(wanted[i], has[i]) {
			return false
		}
	}
	return sum(aloneIn(has[n], p)) == 0
}

// wantClear is what the document says of IsClear, each thing given to each bidder and to none.
func wantClear(tables [][]int, p []int) bool {
	n := len(tables)
	var wanted [][]int
	for _, t := range tables {
		wanted = append(wanted, wantDemand(t, p))
	}
	for a := range n + 1 {
		for b := range n + 1 {
			for c := range n + 1 {
				has := make([]int, n+1)
				has[a] += 1
				has[b] += 2
				has[c] += 4
				if splitClears(wanted, has, p) {
					return true
				}
			}
		}
	}
	return false
}

// wantLoad is what the document says of LoadAt.
func wantLoad(tables [][]int, p []int) int {
	load := sum(p)
	for _, t := range tables {
		load += wantSurplus(t, p)
	}
	return load
}

// plusEach returns numbers of which those of the things in the set are more by the number.
func plusEach(p []int, set, more int) []int {
	q := slices.Clone(p)
	for i := range q {
		if set&(1<<i) != 0 {
			q[i] += more
		}
	}
	return q
}

// wantClimb is what the document says of ClimbPrices, the sets tried in the order in which they come ahead of each other.
func wantClimb(tables [][]int) ([]int, int) {
	p := []int{0, 0, 0}
	for steps := 0; ; steps++ {
		least, next := wantLoad(tables, p), p
		for _, set := range []int{1, 2, 4, 3, 5, 6, 7} {
			if q := plusEach(p, set, 1); wantLoad(tables, q) < least {
				least, next = wantLoad(tables, q), q
			}
		}
		if slices.Equal(next, p) {
			return p, steps
		}
		p = next
	}
}

// wantMore is what four things are worth, three and one more of that of the set, each one given to each bidder: who has both has no more than of one.
func wantMore(tables [][]int, one int) int {
	most := 0
	for _, owners := range listsOf(4, upTo(len(tables)-1)...) {
		worth := 0
		for i, t := range tables {
			set := 0
			for at, thing := range []int{1, 2, 4, one} {
				if owners[at] == i {
					set |= thing
				}
			}
			worth += t[set]
		}
		most = max(most, worth)
	}
	return most
}

// wantLeast is what the document says of LeastPrices.
func wantLeast(tables [][]int) []int {
	all := wantSplit(tables, 7)
	return []int{wantMore(tables, 1) - all, wantMore(tables, 2) - all, wantMore(tables, 4) - all}
}

// wantMost is what the document says of MostPrices.
func wantMost(tables [][]int) []int {
	all := wantSplit(tables, 7)
	return []int{all - wantSplit(tables, 6), all - wantSplit(tables, 5), all - wantSplit(tables, 3)}
}

// wantClearPrices is what the document says of ClearPrices.
func wantClearPrices(tables [][]int, top int) [][]int {
	var all [][]int
	for a := range top + 1 {
		for b := range top + 1 {
			for c := range top + 1 {
				if wantClear(tables, []int{a, b, c}) {
					all = append(all, []int{a, b, c})
				}
			}
		}
	}
	return all
}

// pricesNear are the least, the most and the climbing prices of the tables, 1 more and 1 less for each thing and for all, as far as these are in the range, and those at its ends.
func pricesNear(tables [][]int) [][]int {
	climb, _ := wantClimb(tables)
	near := slices.Clone(endPrices)
	for _, p := range [][]int{climb, wantLeast(tables), wantMost(tables)} {
		for _, set := range []int{0, 1, 2, 4, 7} {
			for _, more := range []int{1, -1} {
				if q := plusEach(p, set, more); slices.Min(q) >= 0 && slices.Max(q) <= 40 {
					near = append(near, q)
				}
			}
		}
	}
	return near
}

// clearBundles are tables of one up to four bidders, with those who want nothing, those who are the same, and both ends of the range, whose things may be moved or not.
func clearBundles() [][][]int {
	all := crowdsOf(1, append(toldTables(), oddAB, byMany, falling, nearOne))
	all = append(all, crowdsOf(2, append(fewTables(), abFor2, aFor2, oddAB))...)
	all = append(all, crowdsOf(3, [][]int{noughts, abFor10, a6xorB3, b6orC2, allFor30})...)
	return append(all, fewFours()...)
}

// fewFours are tables of four bidders.
func fewFours() [][][]int {
	return [][][]int{
		{noughts, noughts, noughts, noughts}, {each30, each30, each30, each30}, {each5, each5, each5, each5}, {sums7, sums7, sums7, sums7}, {allFor9, allFor9, allFor9, allFor9},
		{a6xorB3, noughts, b6orC2, a6xorB3}, {abFor10, abFor8, aFor10, bFor10}, {each5, byMany, joinedBC, falling}, {noughts, noughts, noughts, aFor2}, {oddAB, oddAC, oddBC, aFor2},
	}
}

// movableCrowds are tables of one up to four bidders whose things may be moved.
func movableCrowds() [][][]int {
	all := append(bundlesOf(fewMovable()), crowdsOf(2, movableTables(tablesWith(0, 1, 2)))...)
	all = append(all, crowdsOf(3, movableTables(tablesWith(0, 1)))...)
	return append(all, crowdsOf(4, fewMovable()[:4])...)
}

// firstTables are those of two bidders who want a or b, and one who wants c.
func firstTables() [][]int {
	return [][]int{{0, 6, 4, 6, 0, 6, 4, 6}, {0, 5, 2, 5, 0, 5, 2, 5}, {0, 0, 0, 0, 3, 3, 3, 3}}
}

func TestIsClearAndLoadAt(t *testing.T) {
	for _, c := range []struct {
		tables [][]int
		p      []int
		want   bool
		load   int
	}{
		{firstTables(), []int{2, 0, 0}, true, 12}, {firstTables(), []int{5, 3, 3}, true, 12}, {firstTables(), []int{4, 2, 1}, true, 12}, {firstTables(), []int{1, 0, 0}, false, 13}, {firstTables(), []int{6, 0, 0}, false, 15}, {firstTables(), []int{2, 0, 4}, false, 13}, {firstTables(), []int{0, 0, 0}, false, 14},
		// Things that none wants are free, or all is not sold.
		{[][]int{noughts}, []int{0, 0, 0}, true, 0}, {[][]int{noughts}, []int{1, 0, 0}, false, 1}, {[][]int{noughts}, []int{0, 0, 1}, false, 1}, {[][]int{noughts}, []int{40, 40, 40}, false, 120}, {[][]int{noughts, noughts, noughts, noughts}, []int{0, 0, 0}, true, 0}, {[][]int{noughts, noughts, noughts, noughts}, []int{0, 1, 0}, false, 1},
		// One bidder, who wants the thing as long as it is worth it.
		{[][]int{aFor10}, []int{0, 0, 0}, true, 10}, {[][]int{aFor10}, []int{10, 0, 0}, true, 10}, {[][]int{aFor10}, []int{11, 0, 0}, false, 11}, {[][]int{aFor10}, []int{5, 1, 0}, false, 11}, {[][]int{aFor10}, []int{5, 0, 40}, false, 50}, {[][]int{aFor10}, []int{40, 0, 0}, false, 40}, {[][]int{aFor10}, []int{40, 40, 40}, false, 120},
		{[][]int{each30}, []int{0, 0, 0}, true, 30}, {[][]int{each30}, []int{30, 30, 30}, false, 90}, {[][]int{each30}, []int{0, 40, 40}, false, 110}, {[][]int{each30}, []int{30, 0, 0}, false, 60},
		// Each one may be served alone, but not all together.
		{[][]int{each30, each30, each30, each30}, []int{0, 0, 0}, false, 120}, {[][]int{each30, each30, each30, each30}, []int{29, 29, 29}, false, 91}, {[][]int{each30, each30, each30, each30}, []int{30, 30, 30}, true, 90}, {[][]int{each30, each30, each30, each30}, []int{31, 30, 30}, false, 91}, {[][]int{each30, each30, each30}, []int{0, 0, 0}, true, 90}, {[][]int{each30, each30, each30}, []int{0, 0, 1}, false, 91},
		// Bidders that are the same.
		{[][]int{a6xorB3, a6xorB3}, []int{3, 0, 0}, true, 9}, {[][]int{a6xorB3, a6xorB3}, []int{6, 3, 0}, true, 9}, {[][]int{a6xorB3, a6xorB3}, []int{4, 1, 0}, true, 9}, {[][]int{a6xorB3, a6xorB3}, []int{2, 0, 0}, false, 10}, {[][]int{a6xorB3, a6xorB3}, []int{6, 3, 1}, false, 10}, {[][]int{a6xorB3, a6xorB3}, []int{4, 2, 0}, false, 10},
		{[][]int{sums7, sums7}, []int{1, 2, 4}, true, 7}, {[][]int{sums7, sums7}, []int{1, 2, 3}, false, 8}, {[][]int{sums7, sums7}, []int{1, 3, 4}, false, 8},
		// Things that belong together, which may be sold, or not, whatever they cost.
		{[][]int{allFor9, allFor9, allFor9}, []int{3, 3, 3}, true, 9}, {[][]int{allFor9, allFor9, allFor9}, []int{9, 0, 0}, true, 9}, {[][]int{allFor9, allFor9, allFor9}, []int{0, 0, 0}, false, 27}, {[][]int{allFor9, allFor9, allFor9}, []int{3, 3, 2}, false, 11}, {[][]int{allFor9, allFor9, allFor9}, []int{3, 3, 4}, false, 10},
		{[][]int{abFor10, abFor8}, []int{4, 4, 0}, true, 10}, {[][]int{abFor10, abFor8}, []int{10, 0, 0}, true, 10}, {[][]int{abFor10, abFor8}, []int{3, 4, 0}, false, 11}, {[][]int{abFor10, abFor8}, []int{4, 4, 1}, false, 11},
		{[][]int{{0, 0, 0, 3, 0, 0, 0, 3}, {0, 2, 2, 2, 0, 2, 2, 2}}, []int{1, 1, 0}, false, 4}, {[][]int{{0, 0, 0, 3, 0, 0, 0, 3}, {0, 2, 2, 2, 0, 2, 2, 2}}, []int{2, 2, 0}, false, 4}, {[][]int{{0, 0, 0, 3, 0, 0, 0, 3}, {0, 2, 2, 2, 0, 2, 2, 2}}, []int{2, 1, 0}, false, 4},
	} {
		if ok := impl.IsClear(c.tables, c.p); ok != c.want {
			t.Errorf("IsClear(%v, %v) = %v", c.tables, c.p, ok)
		}
		if n := impl.LoadAt(c.tables, c.p); n != c.load {
			t.Errorf("LoadAt(%v, %v) = %d, want %d", c.tables, c.p, n, c.load)
		}
	}
	sold := 0
	for _, tables := range clearBundles() {
		for _, p := range pricesNear(tables) {
			want := wantClear(tables, p)
			if ok := impl.IsClear(tables, p); ok != want {
				t.Fatalf("IsClear(%v, %v) = %v", tables, p, ok)
			}
			if n := impl.LoadAt(tables, p); n != wantLoad(tables, p) {
				t.Fatalf("LoadAt(%v, %v) = %d, want %d", tables, p, n, wantLoad(tables, p))
			}
			if want {
				sold++
			}
		}
	}
	if sold == 0 {
		t.Error("at no prices all was sold")
	}
}

func TestIsClearAndLoadAtOthers(t *testing.T) {
	refused := func(tables [][]int, p []int) {
		t.Helper()
		if impl.IsClear(tables, p) {
			t.Errorf("IsClear(%v, %v) = true", tables, p)
		}
		if n := impl.LoadAt(tables, p); n != -1 {
			t.Errorf("LoadAt(%v, %v) = %d", tables, p, n)
		}
	}
	for _, tables := range wrongBundles() {
		for _, p := range endPrices {
			refused(tables, p)
		}
		refused(tables, nil)
	}
	bundles := append(crowdsOf(1, fewTables()), firstTables(), [][]int{noughts, noughts, noughts, noughts}, [][]int{each30, each30, each30, each30})
	for _, p := range wrongPrices() {
		for _, tables := range bundles {
			refused(tables, p)
		}
		for _, tables := range wrongBundles()[:20] {
			refused(tables, p)
		}
	}
}

func TestClimbPricesLeastPricesAndMostPrices(t *testing.T) {
	for _, c := range []struct {
		tables      [][]int
		climb       []int
		steps       int
		least, most []int
	}{
		{firstTables(), []int{2, 0, 0}, 2, []int{2, 0, 0}, []int{5, 3, 3}},
		// Things that none wants, and one bidder.
		{[][]int{noughts}, []int{0, 0, 0}, 0, []int{0, 0, 0}, []int{0, 0, 0}},
		{[][]int{noughts, noughts, noughts, noughts}, []int{0, 0, 0}, 0, []int{0, 0, 0}, []int{0, 0, 0}},
		{[][]int{aFor10}, []int{0, 0, 0}, 0, []int{0, 0, 0}, []int{10, 0, 0}},
		{[][]int{sums7}, []int{0, 0, 0}, 0, []int{0, 0, 0}, []int{1, 2, 4}},
		{[][]int{each30}, []int{0, 0, 0}, 0, []int{0, 0, 0}, []int{0, 0, 0}},
		{[][]int{allFor30}, []int{0, 0, 0}, 0, []int{0, 0, 0}, []int{30, 30, 30}},
		// Bidders that are the same.
		{[][]int{a6xorB3, a6xorB3}, []int{3, 0, 0}, 3, []int{3, 0, 0}, []int{6, 3, 0}},
		{[][]int{a6xorB3, a6xorB3, a6xorB3}, []int{6, 3, 0}, 6, []int{6, 3, 0}, []int{6, 3, 0}},
		{[][]int{sums7, sums7}, []int{1, 2, 4}, 4, []int{1, 2, 4}, []int{1, 2, 4}},
		{[][]int{aFor10, aFor10}, []int{10, 0, 0}, 10, []int{10, 0, 0}, []int{10, 0, 0}},
		{[][]int{each5, each5, each5}, []int{0, 0, 0}, 0, []int{0, 0, 0}, []int{5, 5, 5}},
		{[][]int{each5, each5, each5, each5}, []int{5, 5, 5}, 5, []int{5, 5, 5}, []int{5, 5, 5}},
		{[][]int{each30, each30, each30, each30}, []int{30, 30, 30}, 30, []int{30, 30, 30}, []int{30, 30, 30}},
		// Things that belong together climb together, and one more of one alone is worth nothing.
		{[][]int{allFor9, allFor9, allFor9}, []int{3, 3, 3}, 3, []int{0, 0, 0}, []int{9, 9, 9}},
		{[][]int{abFor10, abFor8}, []int{4, 4, 0}, 4, []int{0, 0, 0}, []int{10, 10, 0}},
		{[][]int{{0, 0, 0, 3, 0, 0, 0, 3}, {0, 2, 2, 2, 0, 2, 2, 2}}, []int{1, 1, 0}, 1, []int{2, 2, 0}, []int{1, 1, 0}},
		// Sets that are as good as each other, of one thing and of two: that with the least sum climbs.
		{[][]int{allFor7, allFor7}, []int{3, 2, 2}, 3, []int{0, 0, 0}, []int{7, 7, 7}},
		{[][]int{allFor7, bcFor7}, []int{0, 4, 3}, 4, []int{0, 0, 0}, []int{0, 7, 7}},
		{[][]int{allFor7, b7orAC7}, []int{3, 3, 0}, 3, []int{0, 7, 0}, []int{0, 0, 0}},
		// Who wants both things together has one more of either one, and the others have the rest.
		{[][]int{abFor10, a6xorB3, b6orC2}, []int{5, 5, 0}, 5, []int{4, 4, 0}, []int{6, 6, 2}},
	} {
		if p, n := impl.ClimbPrices(c.tables); !slices.Equal(p, c.climb) || n != c.steps {
			t.Errorf("ClimbPrices(%v) = %v, %d, want %v, %d", c.tables, p, n, c.climb, c.steps)
		}
		if p := impl.LeastPrices(c.tables); !slices.Equal(p, c.least) {
			t.Errorf("LeastPrices(%v) = %v, want %v", c.tables, p, c.least)
		}
		if p := impl.MostPrices(c.tables); !slices.Equal(p, c.most) {
			t.Errorf("MostPrices(%v) = %v, want %v", c.tables, p, c.most)
		}
	}
	for _, tables := range append(someBundles(), movableCrowds()...) {
		climb, steps := wantClimb(tables)
		if p, n := impl.ClimbPrices(tables); !slices.Equal(p, climb) || n != steps {
			t.Fatalf("ClimbPrices(%v) = %v, %d, want %v, %d", tables, p, n, climb, steps)
		}
		if p := impl.LeastPrices(tables); !slices.Equal(p, wantLeast(tables)) {
			t.Fatalf("LeastPrices(%v) = %v, want %v", tables, p, wantLeast(tables))
		}
		if p := impl.MostPrices(tables); !slices.Equal(p, wantMost(tables)) {
			t.Fatalf("MostPrices(%v) = %v, want %v", tables, p, wantMost(tables))
		}
	}
}

// TestClimbPricesAgain holds that sets that are as good as each other climb in one order, whatever the order of a map is.
func TestClimbPricesAgain(t *testing.T) {
	for _, tables := range [][][]int{{allFor7, allFor7}, {allFor7, bcFor7}, {allFor7, b7orAC7}, {abFor10, a6xorB3, b6orC2}, {allFor9, allFor9, allFor9}, {oddAB, oddAC, oddBC}, {a6xorB3, b6orC2, each5, abFor8}, {sums7, sums7}} {
		climb, steps := wantClimb(tables)
		for range 100 {
			if p, n := impl.ClimbPrices(tables); !slices.Equal(p, climb) || n != steps {
				t.Fatalf("ClimbPrices(%v) = %v, %d, want %v, %d", tables, p, n, climb, steps)
			}
		}
	}
}

func TestClearPrices(t *testing.T) {
	zero := [][]int{{0, 0, 0}}
	for _, c := range []struct {
		tables [][]int
		top    int
		want   [][]int
	}{
		{[][]int{aFor2}, 0, zero}, {[][]int{aFor2}, 1, [][]int{{0, 0, 0}, {1, 0, 0}}}, {[][]int{aFor2}, 5, [][]int{{0, 0, 0}, {1, 0, 0}, {2, 0, 0}}},
		// In the order of the price of a, then of b, and then of c.
		{[][]int{sumTable([]int{1, 1, 1})}, 5, listsOf(3, 0, 1)}, {[][]int{abFor2}, 2, [][]int{{0, 0, 0}, {0, 1, 0}, {0, 2, 0}, {1, 0, 0}, {1, 1, 0}, {2, 0, 0}}},
		// Things that none wants, and bidders that are the same.
		{[][]int{noughts}, 0, zero}, {[][]int{noughts}, 5, zero}, {[][]int{noughts, noughts, noughts, noughts}, 5, zero}, {[][]int{each30}, 5, zero}, {[][]int{each30, each30}, 5, zero},
		{[][]int{each5, each5, each5}, 0, zero}, {[][]int{each5, each5, each5}, 5, [][]int{{0, 0, 0}, {1, 1, 1}, {2, 2, 2}, {3, 3, 3}, {4, 4, 4}, {5, 5, 5}}}, {[][]int{each5, each5, each5, each5}, 5, [][]int{{5, 5, 5}}}, {[][]int{each5, each5, each5, each5}, 4, nil}, {[][]int{each5, each5, each5, each5}, 0, nil},
		{[][]int{each30, each30, each30, each30}, 5, nil}, {[][]int{sums7, sums7}, 5, [][]int{{1, 2, 4}}}, {[][]int{sums7, sums7}, 4, [][]int{{1, 2, 4}}}, {[][]int{sums7, sums7}, 3, nil},
		// Things that belong together, which may clear or not.
		{[][]int{abFor2, {0, 1, 0, 1, 0, 1, 0, 1}}, 5, [][]int{{1, 0, 0}, {1, 1, 0}, {2, 0, 0}}}, {[][]int{{0, 0, 0, 3, 0, 0, 0, 3}, {0, 2, 2, 2, 0, 2, 2, 2}}, 5, nil}, {[][]int{allFor9, allFor9}, 3, [][]int{{3, 3, 3}}},
	} {
		if prices := impl.ClearPrices(c.tables, c.top); !sameRows(prices, c.want) {
			t.Errorf("ClearPrices(%v, %d) = %v, want %v", c.tables, c.top, prices, c.want)
		}
	}
	for at, tables := range clearBundles() {
		for _, top := range []int{0, 1, impl.MaxTop} {
			// All prices up to the greatest top are many, so that some tables only are held against them.
			if top == impl.MaxTop && at%5 != 0 {
				continue
			}
			if prices := impl.ClearPrices(tables, top); !sameRows(prices, wantClearPrices(tables, top)) {
				t.Fatalf("ClearPrices(%v, %d) = %v, want %v", tables, top, prices, wantClearPrices(tables, top))
			}
		}
	}
}

func TestPricesOthers(t *testing.T) {
	for _, tables := range wrongBundles() {
		if p, n := impl.ClimbPrices(tables); p != nil || n != -1 {
			t.Errorf("ClimbPrices(%v) = %v, %d", tables, p, n)
		}
		if p := impl.LeastPrices(tables); p != nil {
			t.Errorf("LeastPrices(%v) = %v", tables, p)
		}
		if p := impl.MostPrices(tables); p != nil {
			t.Errorf("MostPrices(%v) = %v", tables, p)
		}
		for _, top := range append([]int{0, 1, impl.MaxTop}, wrongTops...) {
			if prices := impl.ClearPrices(tables, top); prices != nil {
				t.Errorf("ClearPrices(%v, %d) = %v", tables, top, prices)
			}
		}
	}
	for _, tables := range append(crowdsOf(1, fewTables()), firstTables(), [][]int{noughts, noughts, noughts, noughts}) {
		for _, top := range wrongTops {
			if prices := impl.ClearPrices(tables, top); prices != nil {
				t.Errorf("ClearPrices(%v, %d) = %v", tables, top, prices)
			}
		}
	}
}

func TestP44PricesThatClearAreLeastLoads(t *testing.T) {
	sold, others := 0, 0
	check := func(tables [][]int, p []int) {
		t.Helper()
		clear, load, all := impl.IsClear(tables, p), impl.LoadAt(tables, p), impl.SplitWorth(tables, 7)
		if load < all || clear != (load == all) {
			t.Fatalf("IsClear(%v, %v) = %v and LoadAt is %d, but all things are worth %d", tables, p, clear, load, all)
		}
		if clear {
			sold++
		} else {
			others++
		}
	}
	for _, tables := range append(clearBundles(), movableCrowds()...) {
		for _, p := range append(listsOf(3, 0, 1, 3), endPrices...) {
			check(tables, p)
		}
		check(tables, impl.MostPrices(tables))
		climb, _ := impl.ClimbPrices(tables)
		check(tables, climb)
	}
	if sold == 0 || others == 0 {
		t.Errorf("prices cleared %d times, and %d times not", sold, others)
	}
}

// checkMovableCrowd fails if the things of one of the tables may not be moved.
func checkMovableCrowd(t *testing.T, tables [][]int) {
	t.Helper()
	for _, tab := range tables {
		checkMovable(t, tab)
	}
}

func TestP45LoadsAreAtLeastWhatAllIsWorth(t *testing.T) {
	for _, tables := range clearBundles() {
		_, all := impl.BestSplit(tables)
		for _, p := range append(listsOf(3, 0, 2, 7), endPrices...) {
			if load := impl.LoadAt(tables, p); load < all {
				t.Fatalf("LoadAt(%v, %v) = %d, but BestSplit is worth %d", tables, p, load, all)
			}
		}
	}
	more := 0
	for _, tables := range movableCrowds() {
		checkMovableCrowd(t, tables)
		climb, _ := impl.ClimbPrices(tables)
		_, all := impl.BestSplit(tables)
		least := impl.LoadAt(tables, climb)
		if least != all {
			t.Fatalf("LoadAt(%v, %v) = %d at ClimbPrices, but BestSplit is worth %d", tables, climb, least, all)
		}
		for _, p := range append(listsOf(3, 0, 1, 2), endPrices...) {
			load := impl.LoadAt(tables, p)
			if load < least {
				t.Fatalf("LoadAt(%v, %v) = %d, but %d at ClimbPrices %v", tables, p, load, least, climb)
			}
			if load > least {
				more++
			}
		}
	}
	if more == 0 {
		t.Error("no load was more than the least one")
	}
}

func TestP46ClimbingEndsAtTheLeastPrices(t *testing.T) {
	climbed := 0
	for _, tables := range movableCrowds() {
		checkMovableCrowd(t, tables)
		climb, steps := impl.ClimbPrices(tables)
		least, most := impl.LeastPrices(tables), impl.MostPrices(tables)
		if len(climb) != 3 || !slices.Equal(climb, least) {
			t.Fatalf("ClimbPrices(%v) = %v, %d, but LeastPrices is %v", tables, climb, steps, least)
		}
		if !impl.IsClear(tables, climb) || !impl.IsClear(tables, most) {
			t.Fatalf("IsClear(%v) is %v of ClimbPrices %v, and %v of MostPrices %v", tables, impl.IsClear(tables, climb), climb, impl.IsClear(tables, most), most)
		}
		climbed += steps
	}
	if climbed == 0 {
		t.Error("no prices climbed")
	}
}

func TestP47LeastPricesAreNoMoreThanMostPrices(t *testing.T) {
	for _, tables := range clearBundles() {
		if least := impl.LeastPrices(tables); len(least) != 3 || slices.Min(least) < 0 {
			t.Fatalf("LeastPrices(%v) = %v", tables, least)
		}
	}
	less, cheap, same := 0, 0, 0
	for _, tables := range movableCrowds() {
		checkMovableCrowd(t, tables)
		least, most := impl.LeastPrices(tables), impl.MostPrices(tables)
		for i := range 3 {
			if least[i] < 0 || least[i] > most[i] {
				t.Fatalf("LeastPrices(%v) = %v, and MostPrices is %v", tables, least, most)
			}
			if least[i] < most[i] {
				less++
			}
		}
		sets, _ := impl.BestSplit(tables)
		for i, pays := range impl.PivotPays(tables) {
			asked := sum(aloneIn(sets[i], least))
			if pays > asked {
				t.Fatalf("PivotPays(%v) asks %d of bidder %d, but by LeastPrices %v it is %d", tables, pays, i, least, asked)
			}
			if pays < asked {
				cheap++
			} else if pays > 0 {
				same++
			}
		}
	}
	if less == 0 || cheap == 0 || same == 0 {
		t.Errorf("the least prices were less %d times, pivots paid less %d times, and the same %d times", less, cheap, same)
	}
}

func TestP48MostPricesAreNoMoreThanWhatThingsAreWorthAlone(t *testing.T) {
	for _, tables := range clearBundles() {
		if most := impl.MostPrices(tables); len(most) != 3 || slices.Min(most) < 0 {
			t.Fatalf("MostPrices(%v) = %v", tables, most)
		}
	}
	less, same := 0, 0
	for _, tables := range movableCrowds() {
		checkMovableCrowd(t, tables)
		for i, price := range impl.MostPrices(tables) {
			alone := 0
			for _, tab := range tables {
				alone = max(alone, tab[1<<i])
			}
			if price < 0 || price > alone {
				t.Fatalf("MostPrices(%v) is %d for thing %d, which is worth %d alone", tables, price, i, alone)
			}
			if price < alone {
				less++
			} else if price > 0 {
				same++
			}
		}
	}
	if less == 0 || same == 0 {
		t.Errorf("the most prices were less %d times, and the same %d times", less, same)
	}
}

// bothOf returns what is told of the two numbers at each place.
func bothOf(p, q []int, of func(x, y int) int) []int {
	var both []int
	for i, x := range p {
		both = append(both, of(x, q[i]))
	}
	return both
}

func lesserOf(x, y int) int  { return min(x, y) }
func greaterOf(x, y int) int { return max(x, y) }

// checkLattice fails if of two of the prices the lesser or the greater ones are not among them. It returns of how many two neither one is less than the other.
func checkLattice(t *testing.T, tables, prices [][]int) int {
	t.Helper()
	apart := 0
	has := func(p []int) bool {
		return slices.ContainsFunc(prices, func(q []int) bool { return slices.Equal(p, q) })
	}
	for _, p := range prices {
		for _, q := range prices {
			lesser, greater := bothOf(p, q, lesserOf), bothOf(p, q, greaterOf)
			if !has(lesser) || !has(greater) {
				t.Fatalf("%v and %v are among the prices that clear for %v, but %v is %v, and %v is %v", p, q, tables, lesser, has(lesser), greater, has(greater))
			}
			if !slices.Equal(lesser, p) && !slices.Equal(lesser, q) {
				apart++
			}
		}
	}
	return apart
}

func TestP49PricesThatClearAreALattice(t *testing.T) {
	apart := 0
	for at, tables := range movableCrowds() {
		checkMovableCrowd(t, tables)
		least, most := impl.LeastPrices(tables), impl.MostPrices(tables)
		top := []int{2, 3, 0, 4}[at%4]
		if at%10 == 0 {
			top = impl.MaxTop
		}
		prices := impl.ClearPrices(tables, top)
		for _, p := range prices {
			if !slices.Equal(bothOf(p, least, lesserOf), least) || !slices.Equal(bothOf(p, most, greaterOf), most) {
				t.Fatalf("ClearPrices(%v, %d) has %v, but LeastPrices is %v, and MostPrices %v", tables, top, p, least, most)
			}
		}
		apart += checkLattice(t, tables, prices)
		// Both ends are among them, as far as they are tried.
		for _, end := range [][]int{least, most} {
			has := slices.ContainsFunc(prices, func(p []int) bool { return slices.Equal(p, end) })
			if has != (slices.Max(end) <= top) {
				t.Fatalf("ClearPrices(%v, %d) = %v, where %v is %v", tables, top, prices, end, has)
			}
		}
	}
	if apart == 0 {
		t.Error("there were no two prices of which each one is dearer for some thing")
	}
}

func TestP88LoadsHaveNoHumps(t *testing.T) {
	prices := append(listsOf(3, 0, 1, 4), []int{2, 3, 0}, []int{0, 5, 7}, []int{40, 40, 40}, []int{39, 0, 6})
	less, even := 0, 0
	for at, tables := range movableCrowds() {
		checkMovableCrowd(t, tables)
		loads := map[[3]int]int{}
		loadAt := func(p []int) int {
			if _, ok := loads[[3]int(p)]; !ok {
				loads[[3]int(p)] = impl.LoadAt(tables, p)
			}
			return loads[[3]int(p)]
		}
		for i, p := range prices {
			// Of all two prices just some, others for other tables.
			for j := (i + at) % 3; j < len(prices); j += 3 {
				q := prices[j]
				both := loadAt(p) + loadAt(q)
				ends := loadAt(bothOf(p, q, lesserOf)) + loadAt(bothOf(p, q, greaterOf))
				middle := loadAt(bothOf(p, q, func(x, y int) int { return (x + y + 1) / 2 })) + loadAt(bothOf(p, q, func(x, y int) int { return (x + y) / 2 }))
				if both < ends || both < middle {
					t.Fatalf("LoadAt(%v) at %v and %v is %d together, but %d at the lesser and the greater ones, and %d in the middle", tables, p, q, both, ends, middle)
				}
				if both > ends {
					less++
				}
				if both > middle {
					even++
				}
			}
		}
	}
	if less == 0 || even == 0 {
		t.Errorf("the lesser and the greater prices loaded less %d times, and the middle %d times", less, even)
	}
}

// callClear calls all functions of the chapter.
func callClear(tables [][]int, p []int, top int) {
	impl.IsClear(tables, p)
	impl.LoadAt(tables, p)
	impl.ClimbPrices(tables)
	impl.LeastPrices(tables)
	impl.MostPrices(tables)
	impl.ClearPrices(tables, top)
}

func TestClearKeepsArguments(t *testing.T) {
	prices := [][]int{nil, {0, 0, 0}, {1, 2, 4}, {40, 40, 40}, {1, 2}, {41, 0, 0}, {0, 0, 0, 0}}
	bundles := append(wrongBundles()[:40], crowdsOf(2, fewTables())...)
	for _, tables := range append(append(bundles, fewFours()...), firstTables(), [][]int{noughts}, [][]int{each30}) {
		for at, list := range prices {
			r, p := roomyRows(tables), roomy(list)
			callClear(r, p, at%4-1)
			if !roomyRowsAreKept(r, tables) || !roomyIsKept(p, list) {
				t.Fatalf("the tables %v and the prices %v become %v and %v", tables, list, r, p)
			}
		}
	}
}

func TestClearOfArgumentsInTheSameMemory(t *testing.T) {
	own := slices.Clone(a6xorB3)
	tables := [][]int{own, own}
	// The numbers of the first sets are prices of all things, too.
	prices := own[:3]
	for range 2 {
		callClear(tables, prices, impl.MaxTop)
		if !slices.Equal(own, a6xorB3) || !sameRows(tables, [][]int{own, own}) {
			t.Fatalf("tables and prices in the same memory become %v and %v", tables, prices)
		}
		climb, steps := impl.ClimbPrices(tables)
		if !slices.Equal(climb, []int{3, 0, 0}) || steps != 3 || impl.LoadAt(tables, prices) != wantLoad([][]int{a6xorB3, a6xorB3}, []int{0, 6, 3}) || impl.IsClear(tables, prices) {
			t.Fatalf("ClimbPrices(%v) = %v, %d, and LoadAt and IsClear are %d and %v", tables, climb, steps, impl.LoadAt(tables, prices), impl.IsClear(tables, prices))
		}
	}
}

func TestClearSharesNoMemory(t *testing.T) {
	climb := func(tables [][]int) []int {
		p, _ := impl.ClimbPrices(tables)
		return p
	}
	wantClimbed := func(tables [][]int) []int {
		p, _ := wantClimb(tables)
		return p
	}
	lists := []listMaker{
		{"ClimbPrices", climb, wantClimbed}, {"LeastPrices", impl.LeastPrices, wantLeast}, {"MostPrices", impl.MostPrices, wantMost},
	}
	for _, tables := range append(append(crowdsOf(2, fewTables()), fewFours()...), firstTables(), [][]int{noughts}, [][]int{each30}) {
		checkListsApart(t, lists, tables)
		r := roomyRows(tables)
		prices, want := impl.ClearPrices(r, 2), wantClearPrices(tables, 2)
		checkRowsApart(t, prices)
		if again := impl.ClearPrices(r, 2); !roomyRowsAreKept(r, tables) || !sameRows(again, want) {
			t.Fatalf("the result of ClearPrices(%v, 2) shares memory with it, or with another one", tables)
		}
	}
}

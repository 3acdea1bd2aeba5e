package tests

import (
	"math"
	"math/bits"
	"slices"
	"testing"

	"loop.example/salesbybids/impl"
)

// Tables that are modest, but of which two things are worth too much together, and some whose things may be moved: by how many there are, and joined.
var (
	oddAB    = []int{0, 2, 2, 4, 2, 3, 3, 4}
	oddAC    = []int{0, 2, 2, 3, 2, 4, 3, 4}
	oddBC    = []int{0, 2, 2, 3, 2, 3, 4, 4}
	byMany   = []int{0, 5, 5, 9, 5, 9, 9, 12}
	joinedBC = []int{0, 6, 3, 6, 5, 11, 8, 11}
	joinedAC = []int{0, 6, 4, 6, 3, 9, 7, 9}
	falling  = []int{0, 10, 11, 15, 12, 16, 17, 18}
	nearOne  = []int{0, 24, 25, 27, 26, 28, 29, 30}
	cutSum   = []int{0, 1, 2, 3, 4, 5, 6, 6}
)

// wrongPrices are numbers that are no prices of all things: too few, too many, or out of range.
func wrongPrices() [][]int {
	wrong := [][]int{nil, {}, {0}, {0, 0}, {40, 40}, make([]int, 4), {1, 2, 3, 4}, make([]int, 8), make([]int, 1000)}
	for _, x := range []int{-1, 41, math.MinInt, math.MaxInt} {
		for i := range 3 {
			wrong = append(wrong, with([]int{0, 0, 0}, i, x), with([]int{40, 40, 40}, i, x), with([]int{1, 2, 3}, i, x))
		}
		wrong = append(wrong, []int{x, x, x})
	}
	return wrong
}

// somePrices are prices of noughts, at both ends of the range, the same for all things, and others.
func somePrices() [][]int {
	return append(listsOf(3, 0, 2, 40), []int{1, 1, 1}, []int{7, 7, 7}, []int{30, 30, 30}, []int{39, 39, 39}, []int{1, 2, 4}, []int{6, 3, 1}, []int{10, 10, 10}, []int{15, 15, 0}, []int{3, 0, 1}, []int{0, 29, 31})
}

// raisedPairs are all two of the prices of which the second ones are not less than the first ones, some of these raised or none.
func raisedPairs(numbers ...int) [][2][]int {
	var all [][2][]int
	for _, p := range listsOf(3, numbers...) {
		for _, q := range listsOf(3, numbers...) {
			if q[0] >= p[0] && q[1] >= p[1] && q[2] >= p[2] {
				all = append(all, [2][]int{p, q})
			}
		}
	}
	return all
}

// movableTables are those of the tables whose things may be moved, by a reading of its own.
func movableTables(tables [][]int) [][]int {
	var all [][]int
	for _, t := range tables {
		if wantMoves(t) {
			all = append(all, t)
		}
	}
	return all
}

// smallTables are all tables with numbers up to 2, the tables named here, and tables of sums, of one thing, and for all things.
func smallTables() [][]int {
	return append(tablesWith(0, 1, 2), oddAB, oddAC, oddBC, byMany, joinedBC, joinedAC, falling, nearOne, cutSum, noughts, each30, allFor30, abFor10, a6xorB3, b6orC2, sums7, each5)
}

// leftOf is what is left of a set by a table at prices.
func leftOf(t, p []int, set int) int {
	return t[set] - sum(aloneIn(set, p))
}

// wantSurplus is what the document says of SurplusAt.
func wantSurplus(t, p []int) int {
	most := leftOf(t, p, 0)
	for _, set := range allSets {
		most = max(most, leftOf(t, p, set))
	}
	return most
}

// wantDemand is what the document says of DemandAt.
func wantDemand(t, p []int) []int {
	var sets []int
	for _, set := range allSets {
		if leftOf(t, p, set) == wantSurplus(t, p) {
			sets = append(sets, set)
		}
	}
	return sets
}

// wantMoves is what the document says of SwapsByMoves, each thing taken from the sum of one set and added to that of the other one.
func wantMoves(t []int) bool {
	things := []int{1, 2, 4}
	for _, x := range allSets {
		for _, y := range allSets {
			for _, i := range things {
				if x&i == 0 || y&i != 0 {
					continue
				}
				most := t[x-i] + t[y+i]
				for _, j := range things {
					if y&j != 0 && x&j == 0 {
						most = max(most, t[x-i+j]+t[y+i-j])
					}
				}
				if t[x]+t[y] > most {
					return false
				}
			}
		}
	}
	return true
}

// wantThrees is what the document says of SwapsByThrees, where there are no others beside three things.
func wantThrees(t []int) bool {
	for _, o := range [][3]int{{1, 2, 4}, {2, 1, 4}, {1, 4, 2}, {4, 1, 2}, {2, 4, 1}, {4, 2, 1}} {
		i, j, k := o[0], o[1], o[2]
		if t[i+j]+t[k] > max(t[i+k]+t[j], t[j+k]+t[i]) {
			return false
		}
	}
	return wantModest(t)
}

// wantKeeps is what the document says of KeepsDemand, thing by thing.
func wantKeeps(t, p, q []int) bool {
	for i := range p {
		if q[i] < p[i] {
			return false
		}
	}
	for _, set := range wantDemand(t, p) {
		if !slices.ContainsFunc(wantDemand(t, q), func(other int) bool {
			for i := range p {
				if p[i] == q[i] && set&(1<<i) != 0 && other&(1<<i) == 0 {
					return false
				}
			}
			return true
		}) {
			return false
		}
	}
	return true
}

// wantJoin is what the document says of JoinTables, nil if there is no such table.
func wantJoin(a, b []int) []int {
	joined := tableBy(func(set int) int {
		most := 0
		for _, one := range parts(set) {
			for _, other := range parts(set) {
				if one&other == 0 {
					most = max(most, a[one]+b[other])
				}
			}
		}
		return most
	})
	if slices.Max(joined) > 30 {
		return nil
	}
	return joined
}

func TestInsteadLimits(t *testing.T) {
	if impl.MaxPrice != 40 || impl.Things != 3 || impl.MaxBid != 30 {
		t.Error("limits are not those of the document")
	}
}

func TestSurplusAtAndDemandAt(t *testing.T) {
	for _, c := range []struct {
		table, prices []int
		surplus       int
		demand        []int
	}{
		{a6xorB3, []int{2, 0, 0}, 4, []int{1, 3, 5, 7}}, {a6xorB3, []int{3, 0, 1}, 3, []int{1, 2, 3}}, {a6xorB3, []int{6, 3, 1}, 0, []int{0, 1, 2}}, {a6xorB3, []int{9, 9, 9}, 0, []int{0}}, {a6xorB3, []int{2, 1, 0}, 4, []int{1, 5}},
		// Noughts are all wanted, and none of what is not free.
		{noughts, []int{0, 0, 0}, 0, allSets}, {noughts, []int{1, 0, 0}, 0, []int{0, 2, 4, 6}}, {noughts, []int{0, 0, 40}, 0, []int{0, 1, 2, 3}}, {noughts, []int{1, 1, 1}, 0, []int{0}}, {noughts, []int{40, 40, 40}, 0, []int{0}},
		// Tables of one thing.
		{each30, []int{0, 0, 0}, 30, []int{1, 2, 3, 4, 5, 6, 7}}, {each30, []int{29, 29, 29}, 1, []int{1, 2, 4}}, {each30, []int{30, 30, 30}, 0, []int{0, 1, 2, 4}}, {each30, []int{31, 30, 40}, 0, []int{0, 2}}, {each30, []int{40, 40, 40}, 0, []int{0}}, {each30, []int{40, 40, 0}, 30, []int{4}},
		// Tables of sums.
		{sums7, []int{0, 0, 0}, 7, []int{7}}, {sums7, []int{1, 2, 4}, 0, allSets}, {sums7, []int{2, 2, 2}, 2, []int{4, 6}}, {sums7, []int{1, 1, 40}, 1, []int{2, 3}}, {sums7, []int{40, 40, 40}, 0, []int{0}}, {b6orC2, []int{0, 6, 1}, 1, []int{4, 5, 6, 7}},
		// Things that belong together.
		{allFor30, []int{0, 0, 0}, 30, []int{7}}, {allFor30, []int{10, 10, 10}, 0, []int{0, 7}}, {allFor30, []int{10, 10, 11}, 0, []int{0}}, {allFor30, []int{9, 10, 10}, 1, []int{7}}, {allFor30, []int{30, 0, 0}, 0, []int{0, 2, 4, 6, 7}}, {allFor30, []int{40, 40, 40}, 0, []int{0}},
		{abFor10, []int{4, 4, 0}, 2, []int{3, 7}}, {abFor10, []int{4, 9, 0}, 0, []int{0, 4}}, {abFor10, []int{5, 5, 5}, 0, []int{0, 3}}, {abFor10, []int{0, 0, 40}, 10, []int{3}},
		{byMany, []int{4, 4, 4}, 1, []int{1, 2, 3, 4, 5, 6}}, {byMany, []int{3, 3, 3}, 3, []int{3, 5, 6, 7}},
	} {
		if n := impl.SurplusAt(c.table, c.prices); n != c.surplus {
			t.Errorf("SurplusAt(%v, %v) = %d, want %d", c.table, c.prices, n, c.surplus)
		}
		if sets := impl.DemandAt(c.table, c.prices); !slices.Equal(sets, c.demand) {
			t.Errorf("DemandAt(%v, %v) = %v, want %v", c.table, c.prices, sets, c.demand)
		}
	}
	for _, tab := range someTables() {
		for _, p := range somePrices() {
			if n := impl.SurplusAt(tab, p); n != wantSurplus(tab, p) {
				t.Fatalf("SurplusAt(%v, %v) = %d, want %d", tab, p, n, wantSurplus(tab, p))
			}
			if sets := impl.DemandAt(tab, p); !slices.Equal(sets, wantDemand(tab, p)) {
				t.Fatalf("DemandAt(%v, %v) = %v, want %v", tab, p, sets, wantDemand(tab, p))
			}
		}
	}
}

func TestSurplusAtAndDemandAtOthers(t *testing.T) {
	refused := func(tab, p []int) {
		t.Helper()
		if n := impl.SurplusAt(tab, p); n != -1 {
			t.Errorf("SurplusAt(%v, %v) = %d", tab, p, n)
		}
		if sets := impl.DemandAt(tab, p); sets != nil {
			t.Errorf("DemandAt(%v, %v) = %v", tab, p, sets)
		}
	}
	for _, tab := range wrongTables() {
		refused(tab, []int{0, 0, 0})
		refused(tab, []int{40, 1, 2})
		refused(tab, nil)
	}
	for _, p := range wrongPrices() {
		for _, tab := range fewTables() {
			refused(tab, p)
		}
	}
}

func TestSwapsByMovesAndSwapsByThrees(t *testing.T) {
	for _, c := range []struct {
		tables [][]int
		want   bool
	}{
		{[][]int{noughts, sums7, b6orC2, aFor10, {0, 10, 10, 20, 10, 20, 20, 30}, {0, 0, 30, 30, 0, 0, 30, 30}}, true},
		{[][]int{each5, each30, a6xorB3, {0, 30, 0, 30, 29, 30, 29, 30}}, true},
		{[][]int{byMany, joinedBC, joinedAC, falling, nearOne, cutSum, {0, 5, 5, 10, 5, 10, 10, 10}}, true},
		// Things that belong together: two of them, or one with both others.
		{[][]int{abFor2, abFor10, allFor9, allFor30, {0, 0, 0, 0, 0, 1, 0, 1}, {0, 0, 0, 0, 0, 0, 30, 30}, {0, 5, 5, 9, 5, 9, 9, 14}, {0, 5, 5, 5, 5, 5, 5, 6}, {0, 5, 5, 5, 5, 9, 9, 10}}, false},
		// Modest tables by which two things go together better than each one with the third one.
		{[][]int{oddAB, oddAC, oddBC, {0, 1, 1, 2, 1, 1, 1, 2}, {0, 15, 15, 30, 15, 29, 29, 30}, {0, 15, 15, 29, 15, 30, 29, 30}, {0, 15, 15, 29, 15, 29, 30, 30}}, false},
	} {
		for _, tab := range c.tables {
			if ok := impl.SwapsByMoves(tab); ok != c.want {
				t.Errorf("SwapsByMoves(%v) = %v", tab, ok)
			}
			if ok := impl.SwapsByThrees(tab); ok != c.want {
				t.Errorf("SwapsByThrees(%v) = %v", tab, ok)
			}
		}
	}
	for _, tab := range append(someTables(), smallTables()...) {
		if ok := impl.SwapsByMoves(tab); ok != wantMoves(tab) {
			t.Fatalf("SwapsByMoves(%v) = %v", tab, ok)
		}
		if ok := impl.SwapsByThrees(tab); ok != wantThrees(tab) {
			t.Fatalf("SwapsByThrees(%v) = %v", tab, ok)
		}
	}
	for _, tab := range wrongTables() {
		if impl.SwapsByMoves(tab) || impl.SwapsByThrees(tab) {
			t.Errorf("SwapsByMoves and SwapsByThrees of %v are %v and %v", tab, impl.SwapsByMoves(tab), impl.SwapsByThrees(tab))
		}
	}
}

func TestKeepsDemand(t *testing.T) {
	for _, c := range []struct {
		table, p, q []int
		want        bool
	}{
		{a6xorB3, []int{3, 0, 0}, []int{9, 0, 0}, true}, {abFor10, []int{4, 4, 0}, []int{4, 9, 0}, false}, {abFor10, []int{4, 4, 0}, []int{5, 5, 0}, true}, {abFor10, []int{4, 4, 0}, []int{4, 6, 0}, true}, {abFor10, []int{4, 4, 0}, []int{4, 7, 0}, false}, {abFor10, []int{4, 4, 0}, []int{4, 6, 40}, true},
		// The same prices, at which all that is wanted is wanted still.
		{noughts, []int{0, 0, 0}, []int{0, 0, 0}, true}, {noughts, []int{40, 40, 40}, []int{40, 40, 40}, true}, {allFor30, []int{10, 10, 10}, []int{10, 10, 10}, true}, {allFor30, []int{0, 0, 0}, []int{0, 0, 0}, true}, {oddAB, []int{2, 2, 2}, []int{2, 2, 2}, true},
		// All prices are raised, so that no thing is as dear as it was.
		{allFor30, []int{0, 0, 0}, []int{40, 40, 40}, true}, {noughts, []int{0, 0, 0}, []int{1, 1, 1}, true}, {abFor10, []int{4, 4, 0}, []int{40, 5, 1}, true}, {each30, []int{39, 39, 39}, []int{40, 40, 40}, true},
		// Some prices are raised, up to the end of the range.
		{noughts, []int{0, 0, 0}, []int{40, 0, 0}, true}, {each30, []int{0, 0, 0}, []int{40, 40, 0}, true}, {sums7, []int{0, 0, 0}, []int{40, 0, 40}, true}, {allFor30, []int{10, 10, 9}, []int{10, 10, 10}, true}, {allFor30, []int{10, 10, 10}, []int{10, 10, 11}, false}, {allFor30, []int{0, 0, 0}, []int{30, 0, 0}, true}, {allFor30, []int{0, 0, 1}, []int{30, 0, 1}, false},
		// What belongs to a dearer thing is wanted still where it is free.
		{abFor10, []int{0, 0, 0}, []int{40, 0, 0}, true}, {abFor10, []int{0, 1, 0}, []int{40, 1, 0}, false}, {abFor10, []int{0, 1, 0}, []int{40, 2, 0}, true},
		// Modest tables are not enough.
		{oddAB, []int{1, 1, 0}, []int{2, 1, 0}, true}, {oddAB, []int{0, 2, 1}, []int{2, 2, 1}, false}, {oddAC, []int{0, 1, 2}, []int{2, 1, 2}, false}, {oddBC, []int{1, 0, 2}, []int{1, 2, 2}, false},
		// One price is less, and others are the same or raised.
		{a6xorB3, []int{3, 0, 0}, []int{2, 0, 0}, false}, {noughts, []int{0, 0, 1}, []int{0, 0, 0}, false}, {noughts, []int{1, 1, 1}, []int{2, 0, 2}, false}, {sums7, []int{40, 0, 0}, []int{39, 40, 40}, false}, {each30, []int{40, 40, 40}, []int{0, 0, 0}, false}, {each30, []int{0, 0, 40}, []int{1, 1, 39}, false},
	} {
		if ok := impl.KeepsDemand(c.table, c.p, c.q); ok != c.want {
			t.Errorf("KeepsDemand(%v, %v, %v) = %v", c.table, c.p, c.q, ok)
		}
	}
	for _, tab := range smallTables() {
		for _, p := range listsOf(3, 0, 1, 4) {
			for _, q := range listsOf(3, 0, 1, 2, 4) {
				if ok := impl.KeepsDemand(tab, p, q); ok != wantKeeps(tab, p, q) {
					t.Fatalf("KeepsDemand(%v, %v, %v) = %v", tab, p, q, ok)
				}
			}
		}
	}
}

func TestKeepsDemandOthers(t *testing.T) {
	refused := func(tab, p, q []int) {
		t.Helper()
		if impl.KeepsDemand(tab, p, q) {
			t.Errorf("KeepsDemand(%v, %v, %v) = true", tab, p, q)
		}
	}
	for _, tab := range wrongTables() {
		refused(tab, []int{0, 0, 0}, []int{0, 0, 0})
		refused(tab, []int{1, 2, 3}, []int{40, 2, 3})
		refused(tab, nil, nil)
	}
	for _, p := range wrongPrices() {
		for _, tab := range fewTables() {
			refused(tab, p, p)
			refused(tab, p, []int{0, 0, 0})
			refused(tab, p, []int{40, 40, 40})
			refused(tab, []int{0, 0, 0}, p)
			refused(tab, []int{1, 2, 3}, p)
			refused(tab, []int{40, 40, 40}, p)
		}
	}
}

func TestJoinTables(t *testing.T) {
	for _, c := range []struct{ a, b, want []int }{
		{a6xorB3, a6xorB3, []int{0, 6, 3, 9, 0, 6, 3, 9}}, {a6xorB3, []int{0, 0, 0, 0, 5, 5, 5, 5}, joinedBC},
		// One who wants nothing joins any other one, and is no more.
		{noughts, noughts, noughts}, {noughts, each30, each30}, {allFor30, noughts, allFor30}, {noughts, oddAB, oddAB},
		// Tables of sums, of one thing, and of things that belong together.
		{sums7, sums7, sums7}, {sums7, []int{0, 4, 2, 6, 1, 5, 3, 7}, []int{0, 4, 2, 6, 4, 8, 6, 10}}, {each5, each5, []int{0, 5, 5, 10, 5, 10, 10, 10}}, {aFor10, bFor10, []int{0, 10, 10, 20, 0, 10, 10, 20}}, {abFor10, abFor8, abFor10}, {abFor10, a6xorB3, []int{0, 6, 3, 10, 0, 6, 3, 10}}, {allFor9, b6orC2, []int{0, 0, 6, 6, 2, 2, 8, 9}}, {allFor30, allFor30, allFor30},
		// Just as much as a number may be, and 1 more.
		{[]int{0, 15, 0, 15, 0, 15, 0, 15}, []int{0, 0, 15, 15, 0, 0, 15, 15}, []int{0, 15, 15, 30, 0, 15, 15, 30}}, {[]int{0, 16, 0, 16, 0, 16, 0, 16}, []int{0, 0, 15, 15, 0, 0, 15, 15}, nil},
		{[]int{0, 30, 0, 30, 0, 30, 0, 30}, []int{0, 30, 0, 30, 0, 30, 0, 30}, []int{0, 30, 0, 30, 0, 30, 0, 30}}, {[]int{0, 30, 0, 30, 0, 30, 0, 30}, []int{0, 0, 1, 1, 0, 0, 1, 1}, nil}, {[]int{0, 29, 0, 29, 0, 29, 0, 29}, []int{0, 0, 1, 1, 0, 0, 1, 1}, []int{0, 29, 1, 30, 0, 29, 1, 30}},
		{each30, each30, nil}, {allFor30, each30, each30}, {[]int{0, 30, 0, 30, 0, 30, 0, 30}, []int{0, 0, 30, 30, 0, 0, 30, 30}, nil}, {[]int{0, 0, 0, 20, 0, 0, 0, 20}, []int{0, 0, 0, 0, 10, 10, 10, 10}, []int{0, 0, 0, 20, 10, 10, 10, 30}}, {[]int{0, 0, 0, 20, 0, 0, 0, 20}, []int{0, 0, 0, 0, 11, 11, 11, 11}, nil},
	} {
		if both := impl.JoinTables(c.a, c.b); !slices.Equal(both, c.want) || c.want == nil && both != nil {
			t.Errorf("JoinTables(%v, %v) = %v, want %v", c.a, c.b, both, c.want)
		}
	}
	for _, tables := range crowdsOf(2, smallTables()) {
		both := impl.JoinTables(tables[0], tables[1])
		if want := wantJoin(tables[0], tables[1]); !slices.Equal(both, want) || want == nil && both != nil {
			t.Fatalf("JoinTables(%v, %v) = %v, want %v", tables[0], tables[1], both, want)
		}
	}
}

func TestJoinTablesOthers(t *testing.T) {
	refused := func(a, b []int) {
		t.Helper()
		if both := impl.JoinTables(a, b); both != nil {
			t.Errorf("JoinTables(%v, %v) = %v", a, b, both)
		}
	}
	for _, wrong := range wrongTables() {
		refused(wrong, wrong)
		for _, tab := range fewTables() {
			refused(wrong, tab)
			refused(tab, wrong)
		}
	}
}

// checkMovable fails if a table is not modest, or its things may not be moved.
func checkMovable(t *testing.T, tab []int) {
	t.Helper()
	if !impl.IsModest(tab) || !impl.SwapsByMoves(tab) {
		t.Fatalf("IsModest and SwapsByMoves of %v are %v and %v", tab, impl.IsModest(tab), impl.SwapsByMoves(tab))
	}
}

func TestP30SumsAreModestAndMayBeMoved(t *testing.T) {
	sums := 0
	for _, numbers := range listsOf(3, upTo(10)...) {
		if tab := sumTable(numbers); !impl.IsSum(tab) {
			t.Fatalf("IsSum(%v) = false", tab)
		}
	}
	for _, numbers := range listsOf(3, append(upTo(10), 15, 29, 30)...) {
		// Three numbers may be too much together for a table.
		if sum(numbers) <= 30 {
			checkMovable(t, sumTable(numbers))
		}
	}
	for _, tab := range someTables() {
		if impl.IsSum(tab) {
			checkMovable(t, tab)
			sums++
		}
	}
	if sums == 0 {
		t.Error("there were no sums")
	}
}

func TestP31OneThingMayBeMoved(t *testing.T) {
	ones := 0
	for _, numbers := range listsOf(3, append(upTo(10), 15, 29, 30)...) {
		tab := oneTable(numbers)
		if !impl.IsOne(tab) {
			t.Fatalf("IsOne(%v) = false", tab)
		}
		checkMovable(t, tab)
	}
	for _, tab := range someTables() {
		if impl.IsOne(tab) {
			checkMovable(t, tab)
			ones++
		}
	}
	if ones == 0 {
		t.Error("there were no tables of one thing")
	}
}

// fewMovable are tables whose things may be moved: noughts, sums, of one thing, by how many there are, joined, and others.
func fewMovable() [][]int {
	return [][]int{noughts, a6xorB3, byMany, joinedBC, b6orC2, each5, aFor10, sums7, falling, cutSum, nearOne, each30}
}

// bundlesOf are the tables of one bidder by all of the tables, of two by the first eight, and of three by the first five.
func bundlesOf(tables [][]int) [][][]int {
	all := append(crowdsOf(1, tables), crowdsOf(2, tables[:8])...)
	return append(all, crowdsOf(3, tables[:5])...)
}

func TestP36TwoNamesAreNoBetterWhereThingsMayBeMoved(t *testing.T) {
	for _, tab := range fewMovable() {
		checkMovable(t, tab)
	}
	less, same := 0, 0
	for _, tables := range bundlesOf(fewMovable()) {
		names := fewMovable()[:12-2*len(tables)]
		for i, own := range tables {
			alone, ok := impl.GainTold(tables, i, own)
			if !ok {
				t.Fatalf("GainTold(%v, %d, %v) = %d, false", tables, i, own, alone)
			}
			for _, said := range crowdsOf(2, names) {
				two, ok := impl.GainAsTwo(tables, i, said[0], said[1])
				if !ok || two > alone {
					t.Fatalf("GainAsTwo(%v, %d, %v, %v) = %d, %v, but by the own table alone it is %d", tables, i, said[0], said[1], two, ok, alone)
				}
				if two < alone {
					less++
				} else {
					same++
				}
			}
		}
	}
	if less == 0 || same == 0 {
		t.Errorf("two names were worse %d times, and as good %d times", less, same)
	}
}

func TestP38DearerThingsLeaveLess(t *testing.T) {
	prices := append(listsOf(3, 0, 2, 39), []int{1, 1, 1}, []int{7, 7, 7}, []int{6, 3, 1}, []int{10, 10, 9})
	less := 0
	for _, tab := range someTables() {
		for _, p := range prices {
			n := impl.SurplusAt(tab, p)
			if n < 0 || n > tab[7] {
				t.Fatalf("SurplusAt(%v, %v) = %d", tab, p, n)
			}
			// All prices 1 more, and just some of them.
			for _, raise := range listsOf(3, 0, 1) {
				q := []int{p[0] + raise[0], p[1] + raise[1], p[2] + raise[2]}
				m := impl.SurplusAt(tab, q)
				if m < 0 || m > n || m < n-sum(raise) {
					t.Fatalf("SurplusAt(%v, %v) = %d, but at %v it is %d", tab, p, n, q, m)
				}
				if m == n-3 {
					less++
				}
			}
		}
	}
	if less == 0 {
		t.Error("nothing was as much less as there are things")
	}
}

func TestP39WhatIsInDemandIsBest(t *testing.T) {
	for _, tab := range someTables() {
		for _, p := range somePrices() {
			n, sets := impl.SurplusAt(tab, p), impl.DemandAt(tab, p)
			if len(sets) == 0 || !slices.IsSorted(sets) {
				t.Fatalf("DemandAt(%v, %v) = %v", tab, p, sets)
			}
			wanted := 0
			for _, set := range allSets {
				best := tab[set] == n+sum(aloneIn(set, p))
				if best != slices.Contains(sets, set) {
					t.Fatalf("DemandAt(%v, %v) = %v, but SurplusAt is %d", tab, p, sets, n)
				}
				if best {
					wanted++
				}
			}
			if wanted != len(sets) {
				t.Fatalf("DemandAt(%v, %v) = %v has a set twice, or one that is none", tab, p, sets)
			}
		}
	}
}

func TestP40MovesAreThrees(t *testing.T) {
	both, modest := 0, 0
	for _, tab := range append(someTables(), smallTables()...) {
		moves, threes := impl.SwapsByMoves(tab), impl.SwapsByThrees(tab)
		if moves != threes || moves && !impl.IsModest(tab) {
			t.Fatalf("SwapsByMoves, SwapsByThrees and IsModest of %v are %v, %v and %v", tab, moves, threes, impl.IsModest(tab))
		}
		if moves {
			both++
		} else if impl.IsModest(tab) {
			modest++
		}
	}
	if both == 0 || modest == 0 {
		t.Errorf("things may be moved of %d tables, and not of %d that are modest", both, modest)
	}
}

// somePairs are pairs of prices of which some are raised, or none, at the ends of the range, too.
func somePairs() [][2][]int {
	return append(raisedPairs(0, 1, 4), raisedPairs(2, 3, 40)...)
}

func TestP41WhatMayBeMovedStaysInDemand(t *testing.T) {
	lost := 0
	for _, tab := range smallTables() {
		threes := impl.SwapsByThrees(tab)
		for _, pair := range somePairs() {
			keeps := impl.KeepsDemand(tab, pair[0], pair[1])
			if threes && !keeps {
				t.Fatalf("KeepsDemand(%v, %v, %v) = false, but SwapsByThrees is true", tab, pair[0], pair[1])
			}
			if !keeps {
				lost++
			}
		}
	}
	if lost == 0 {
		t.Error("no demand was lost where things may not be moved")
	}
}

func TestP42TheSamePricesKeepDemand(t *testing.T) {
	for _, tab := range someTables() {
		for _, p := range somePrices() {
			if !impl.KeepsDemand(tab, p, p) {
				t.Fatalf("KeepsDemand(%v, %v, %v) = false", tab, p, p)
			}
		}
	}
	moved := 0
	for _, tab := range append(someTables(), smallTables()...) {
		if !impl.SwapsByMoves(tab) {
			continue
		}
		moved++
		for _, pair := range raisedPairs(0, 2, 7) {
			if !impl.KeepsDemand(tab, pair[0], pair[1]) {
				t.Fatalf("KeepsDemand(%v, %v, %v) = false, but SwapsByMoves is true", tab, pair[0], pair[1])
			}
		}
	}
	if moved == 0 {
		t.Error("things might be moved of no table")
	}
}

func TestP43JoinedTablesMayBeMovedIfBothMay(t *testing.T) {
	joined, moved := 0, 0
	for _, tables := range crowdsOf(2, smallTables()) {
		a, b := tables[0], tables[1]
		both := impl.JoinTables(a, b)
		if !slices.Equal(both, impl.JoinTables(b, a)) {
			t.Fatalf("JoinTables(%v, %v) = %v, but the other way round it is %v", a, b, both, impl.JoinTables(b, a))
		}
		if both == nil {
			continue
		}
		joined++
		if !impl.ValidTable(both) {
			t.Fatalf("JoinTables(%v, %v) = %v", a, b, both)
		}
		for set, worth := range both {
			if worth < a[set] || worth < b[set] {
				t.Fatalf("JoinTables(%v, %v) = %v", a, b, both)
			}
		}
		if impl.SwapsByMoves(a) && impl.SwapsByMoves(b) {
			if !impl.SwapsByMoves(both) {
				t.Fatalf("SwapsByMoves(%v) = false, but it is of %v and %v", both, a, b)
			}
			moved++
		}
	}
	if joined == 0 || moved == 0 || joined == moved {
		t.Errorf("%d tables were joined, %d of which whose things may be moved", joined, moved)
	}
}

func TestP78UnitsAreThingsThatMayBeMoved(t *testing.T) {
	tableFor := func(r []int) []int {
		return tableBy(func(set int) int { return rowWorth(r, bits.OnesCount(uint(set))) })
	}
	joined := 0
	for _, rows := range crowdsOf(2, fallingRows(3, 10, 7, 6, 0)) {
		a, b := tableFor(rows[0]), tableFor(rows[1])
		checkMovable(t, a)
		both := impl.JoinTables(a, b)
		if impl.WorthOf(rows, 3) > impl.MaxBid {
			if both != nil {
				t.Fatalf("JoinTables(%v, %v) = %v", a, b, both)
			}
			continue
		}
		joined++
		if len(both) != 8 {
			t.Fatalf("JoinTables(%v, %v) = %v", a, b, both)
		}
		for set, worth := range both {
			if n := impl.WorthOf(rows, bits.OnesCount(uint(set))); worth != n {
				t.Fatalf("JoinTables(%v, %v) = %v, but the units of set %d are worth %d", a, b, both, set, n)
			}
		}
		// What one bidder adds is what the other one's table lacks of the joined one.
		if adds := impl.AddsOf([][]int{a, b}); !slices.Equal(adds, []int{both[7] - b[7], both[7] - a[7]}) {
			t.Fatalf("AddsOf(%v, %v) = %v, but JoinTables is %v", a, b, adds, both)
		}
	}
	if joined == 0 {
		t.Error("no tables were joined")
	}
}

func TestP86MoreBiddersPayMoreByTablesWhoseThingsMayBeMoved(t *testing.T) {
	tables := append(movableTables(tablesWith(0, 1, 2)), fewMovable()...)
	for _, tab := range tables {
		checkMovable(t, tab)
	}
	bundles := append(crowdsOf(1, tables), crowdsOf(2, tables)...)
	bundles = append(bundles, crowdsOf(3, fewMovable())...)
	checkMorePayMore(t, append(bundles, crowdsOf(4, fewMovable()[1:7])...))
}

func TestP89JoinedBiddersHaveWhatBothHave(t *testing.T) {
	joined, less := 0, 0
	for _, tables := range crowdsOf(2, smallTables()) {
		a, b := tables[0], tables[1]
		both := impl.JoinTables(a, b)
		if both == nil {
			continue
		}
		joined++
		if all := impl.SplitWorth(tables, 7); both[7] != all {
			t.Fatalf("JoinTables(%v, %v) = %v, but all is worth %d to both", a, b, both, all)
		}
		for _, p := range [][]int{{0, 0, 0}, {1, 0, 2}, {1, 1, 1}, {7, 3, 0}, {40, 2, 40}, {40, 40, 40}} {
			n, parts := impl.SurplusAt(both, p), impl.SurplusAt(a, p)+impl.SurplusAt(b, p)
			if n < 0 || n > parts {
				t.Fatalf("SurplusAt(%v, %v) = %d, but that of %v and of %v are %d together", both, p, n, a, b, parts)
			}
			if n < parts {
				less++
			}
		}
	}
	if joined == 0 || less == 0 {
		t.Errorf("%d tables were joined, and %d times they had less than both", joined, less)
	}
}

// callInstead calls all functions of the chapter.
func callInstead(a, b, p, q []int) {
	impl.SurplusAt(a, p)
	impl.DemandAt(a, p)
	impl.SwapsByMoves(a)
	impl.SwapsByThrees(a)
	impl.KeepsDemand(a, p, q)
	impl.JoinTables(a, b)
}

func TestInsteadKeepsArguments(t *testing.T) {
	prices := [][]int{nil, {0, 0, 0}, {1, 2, 4}, {40, 40, 40}, {1, 2}, {41, 0, 0}}
	tables := append(fewTables(), byMany, oddAB, each30, nil, []int{0, 2, 0, 1, 0, 2, 0, 2}, []int{0, 1, 2})
	for _, said := range crowdsOf(2, tables) {
		for _, pair := range crowdsOf(2, prices) {
			a, b, p, q := roomy(said[0]), roomy(said[1]), roomy(pair[0]), roomy(pair[1])
			callInstead(a, b, p, q)
			if !roomyIsKept(a, said[0]) || !roomyIsKept(b, said[1]) || !roomyIsKept(p, pair[0]) || !roomyIsKept(q, pair[1]) {
				t.Fatalf("the tables and prices %v and %v become %v, %v, %v and %v", said, pair, a, b, p, q)
			}
		}
	}
}

func TestInsteadOfArgumentsInTheSameMemory(t *testing.T) {
	own := slices.Clone(byMany)
	// The numbers of the first sets are prices of all things, too.
	prices := own[:3]
	for range 2 {
		callInstead(own, own, prices, prices)
		if !slices.Equal(own, byMany) || impl.SurplusAt(own, prices) != wantSurplus(byMany, byMany[:3]) || !slices.Equal(impl.DemandAt(own, prices), wantDemand(byMany, byMany[:3])) {
			t.Fatalf("a table and its prices in the same memory become %v", own)
		}
		if both := impl.JoinTables(own, own); !slices.Equal(both, wantJoin(byMany, byMany)) {
			t.Fatalf("JoinTables of %v with itself is %v", own, both)
		}
	}
}

func TestInsteadSharesNoMemory(t *testing.T) {
	lists := []struct {
		name string
		of   func(a, b, p []int) []int
		want func(a, b, p []int) []int
	}{
		{"DemandAt", func(a, b, p []int) []int { return impl.DemandAt(a, p) }, func(a, b, p []int) []int { return wantDemand(a, p) }},
		{"JoinTables", func(a, b, p []int) []int { return impl.JoinTables(a, b) }, func(a, b, p []int) []int { return wantJoin(a, b) }},
	}
	for _, said := range crowdsOf(2, append(fewTables(), byMany, oddAB)) {
		for _, prices := range [][]int{{0, 0, 0}, {5, 0, 5}, {40, 40, 40}} {
			a, b, p := roomy(said[0]), roomy(said[1]), roomy(prices)
			for _, one := range lists {
				list := one.of(a, b, p)
				for _, other := range lists {
					kept := other.of(a, b, p)
					scribble(list)
					want := other.want(said[0], said[1], prices)
					if !roomyIsKept(a, said[0]) || !roomyIsKept(b, said[1]) || !roomyIsKept(p, prices) || !slices.Equal(kept, want) || !slices.Equal(other.of(a, b, p), want) {
						t.Fatalf("the result of %s of %v and %v shares memory with these, or with that of %s", one.name, said, prices, other.name)
					}
				}
			}
		}
	}
}

package tests

import (
	"math"
	"math/bits"
	"slices"
	"testing"

	"loop.example/salesbybids/impl"
)

// Tables of bidders for nothing, for one thing, for two or for all together, and for what one thing is at best, of which most examples are made.
var (
	noughts  = []int{0, 0, 0, 0, 0, 0, 0, 0}
	allFor30 = []int{0, 0, 0, 0, 0, 0, 0, 30}
	each30   = []int{0, 30, 30, 30, 30, 30, 30, 30}
	allFor9  = []int{0, 0, 0, 0, 0, 0, 0, 9}
	each5    = []int{0, 5, 5, 5, 5, 5, 5, 5}
	sums7    = []int{0, 1, 2, 3, 4, 5, 6, 7}
	abFor2   = []int{0, 0, 0, 2, 0, 0, 0, 2}
	abFor8   = []int{0, 0, 0, 8, 0, 0, 0, 8}
	abFor10  = []int{0, 0, 0, 10, 0, 0, 0, 10}
	abFor11  = []int{0, 0, 0, 11, 0, 0, 0, 11}
	aFor2    = []int{0, 2, 0, 2, 0, 2, 0, 2}
	bFor2    = []int{0, 0, 2, 2, 0, 0, 2, 2}
	aFor10   = []int{0, 10, 0, 10, 0, 10, 0, 10}
	bFor10   = []int{0, 0, 10, 10, 0, 0, 10, 10}
	a6xorB3  = []int{0, 6, 3, 6, 0, 6, 3, 6}
	b6orC2   = []int{0, 0, 6, 6, 2, 2, 8, 8}
)

// wantPivotPays is what the document says of PivotPays.
func wantPivotPays(tables [][]int) []int {
	sets, _ := wantBest(tables)
	pays := make([]int, len(tables))
	for i := range tables {
		pays[i] = wantSplit(others(tables, i), 7)
		for j, t := range tables {
			if j != i {
				pays[i] -= t[sets[j]]
			}
		}
	}
	return pays
}

// wantAddsOf is what the document says of AddsOf.
func wantAddsOf(tables [][]int) []int {
	adds := make([]int, len(tables))
	for i := range tables {
		adds[i] = wantSplit(tables, 7) - wantSplit(others(tables, i), 7)
	}
	return adds
}

// wantGainTold is what the document says of GainTold.
func wantGainTold(tables [][]int, i int, told []int) int {
	said := withRow(tables, i, told)
	sets, _ := wantBest(said)
	return tables[i][sets[i]] - wantPivotPays(said)[i]
}

// wantGainAsTwo is what the document says of GainAsTwo: the sets have no thing in common, so that both together are their sum.
func wantGainAsTwo(tables [][]int, i int, a, b []int) int {
	said, n := append(withRow(tables, i, a), b), len(tables)
	sets, _ := wantBest(said)
	pays := wantPivotPays(said)
	return tables[i][sets[i]+sets[n]] - pays[i] - pays[n]
}

// wantBroughtIn is what the document says of BroughtIn.
func wantBroughtIn(tables [][]int) (int, int) {
	sets, _ := wantBest(tables)
	paid, had := 0, 0
	for i, p := range wantPivotPays(tables) {
		paid += p
		had += tables[i][sets[i]] - p
	}
	return paid, had
}

// toldTables are tables that are told in place of others: noughts, one number, the greatest numbers, sums, the best thing, and some between.
func toldTables() [][]int {
	return append(fewTables(), each30, sums7, abFor11, abFor2, bFor10, []int{0, 24, 25, 27, 26, 28, 29, 30}, []int{0, 1, 1, 1, 1, 1, 1, 1})
}

// fewBundles are the tables of one up to four bidders, with those who want nothing, those who are the same, and both ends of the range.
func fewBundles() [][][]int {
	all := crowdsOf(1, append(tablesWith(0, 7), toldTables()...))
	all = append(all, crowdsOf(2, toldTables())...)
	all = append(all, crowdsOf(3, [][]int{noughts, abFor10, a6xorB3, b6orC2, each5, allFor30})...)
	return append(all, crowdsOf(4, [][]int{noughts, abFor10, a6xorB3, each30})...)
}

// movableBundles are tables of one up to four bidders that are all worth the sum of their things, or their best thing.
func movableBundles() [][][]int {
	var some, few [][]int
	for _, numbers := range listsOf(3, 0, 4, 10) {
		some = append(some, sumTable(numbers), oneTable(numbers))
	}
	for _, numbers := range [][]int{{0, 0, 0}, {3, 0, 0}, {10, 7, 2}, {5, 5, 5}, {1, 6, 8}} {
		few = append(few, sumTable(numbers), oneTable(numbers))
	}
	few = append(few, oneTable([]int{30, 30, 30}))
	all := append(crowdsOf(1, some), crowdsOf(2, some)...)
	all = append(all, crowdsOf(3, few)...)
	return append(all, crowdsOf(4, few[2:9])...)
}

func TestPivotPaysAndAddsOf(t *testing.T) {
	for _, c := range []struct {
		tables     [][]int
		pays, adds []int
	}{
		// One bidder pays nothing.
		{[][]int{noughts}, []int{0}, []int{0}},
		{[][]int{allFor9}, []int{0}, []int{9}},
		{[][]int{each30}, []int{0}, []int{30}},
		{[][]int{sums7}, []int{0}, []int{7}},
		// Bidders for nothing: the first one has what is worth nothing.
		{[][]int{noughts, noughts, noughts, noughts}, []int{0, 0, 0, 0}, []int{0, 0, 0, 0}},
		{[][]int{noughts, allFor9}, []int{0, 0}, []int{0, 9}},
		{[][]int{allFor9, noughts}, []int{0, 0}, []int{9, 0}},
		{[][]int{noughts, a6xorB3, noughts, a6xorB3}, []int{0, 3, 0, 0}, []int{0, 3, 0, 3}},
		// Bidders that are the same: all is paid, or what one more would be worth.
		{[][]int{allFor9, allFor9, allFor9}, []int{9, 0, 0}, []int{0, 0, 0}},
		{[][]int{sums7, sums7}, []int{7, 0}, []int{0, 0}},
		{[][]int{a6xorB3, a6xorB3}, []int{3, 0}, []int{3, 3}},
		{[][]int{each5, each5}, []int{0, 0}, []int{5, 5}},
		{[][]int{each5, each5, each5}, []int{0, 0, 0}, []int{5, 5, 5}},
		{[][]int{each5, each5, each5, each5}, []int{5, 5, 5, 0}, []int{0, 0, 0, 0}},
		{[][]int{each30, each30, each30, each30}, []int{30, 30, 30, 0}, []int{0, 0, 0, 0}},
		// Splits that are as good as each other: who has nothing pays nothing, who has all pays all.
		{[][]int{abFor2, aFor2}, []int{2, 0}, []int{0, 0}},
		{[][]int{aFor2, abFor2}, []int{2, 0}, []int{0, 0}},
		{[][]int{allFor30, each30}, []int{30, 0}, []int{0, 0}},
		{[][]int{abFor2, aFor2, bFor2}, []int{0, 0, 0}, []int{0, 2, 2}},
		{[][]int{abFor10, a6xorB3, b6orC2}, []int{0, 4, 4}, []int{0, 2, 4}},
		{[][]int{b6orC2, a6xorB3, abFor10}, []int{4, 4, 0}, []int{4, 2, 0}},
	} {
		if pays := impl.PivotPays(c.tables); !slices.Equal(pays, c.pays) {
			t.Errorf("PivotPays(%v) = %v, want %v", c.tables, pays, c.pays)
		}
		if adds := impl.AddsOf(c.tables); !slices.Equal(adds, c.adds) {
			t.Errorf("AddsOf(%v) = %v, want %v", c.tables, adds, c.adds)
		}
	}
	for _, tables := range someBundles() {
		if pays := impl.PivotPays(tables); !slices.Equal(pays, wantPivotPays(tables)) {
			t.Fatalf("PivotPays(%v) = %v, want %v", tables, pays, wantPivotPays(tables))
		}
		if adds := impl.AddsOf(tables); !slices.Equal(adds, wantAddsOf(tables)) {
			t.Fatalf("AddsOf(%v) = %v, want %v", tables, adds, wantAddsOf(tables))
		}
	}
}

func TestBroughtIn(t *testing.T) {
	for _, c := range []struct {
		tables    [][]int
		paid, had int
	}{
		{[][]int{noughts}, 0, 0},
		{[][]int{noughts, noughts, noughts, noughts}, 0, 0},
		{[][]int{each30}, 0, 30},
		{[][]int{noughts, allFor9}, 0, 9},
		{[][]int{allFor9, allFor9, allFor9}, 9, 0},
		{[][]int{a6xorB3, a6xorB3}, 3, 6},
		{[][]int{each5, each5, each5}, 0, 15},
		{[][]int{each30, each30, each30, each30}, 90, 0},
		{[][]int{abFor10, a6xorB3, b6orC2}, 8, 6},
		// One bidder more may bring in less, where things are wanted together.
		{[][]int{abFor2, aFor2}, 2, 0},
		{[][]int{abFor2, aFor2, bFor2}, 0, 4},
	} {
		if paid, had := impl.BroughtIn(c.tables); paid != c.paid || had != c.had {
			t.Errorf("BroughtIn(%v) = %d, %d, want %d, %d", c.tables, paid, had, c.paid, c.had)
		}
	}
	for _, tables := range someBundles() {
		wantPaid, wantHad := wantBroughtIn(tables)
		if paid, had := impl.BroughtIn(tables); paid != wantPaid || had != wantHad {
			t.Fatalf("BroughtIn(%v) = %d, %d, want %d, %d", tables, paid, had, wantPaid, wantHad)
		}
	}
}

func TestPivotsOthers(t *testing.T) {
	for _, tables := range wrongBundles() {
		if pays := impl.PivotPays(tables); pays != nil {
			t.Errorf("PivotPays(%v) = %v", tables, pays)
		}
		if adds := impl.AddsOf(tables); adds != nil {
			t.Errorf("AddsOf(%v) = %v", tables, adds)
		}
		if paid, had := impl.BroughtIn(tables); paid != -1 || had != -1 {
			t.Errorf("BroughtIn(%v) = %d, %d", tables, paid, had)
		}
	}
}

func TestGainTold(t *testing.T) {
	list := [][]int{abFor10, a6xorB3, b6orC2}
	for _, c := range []struct {
		tables [][]int
		i      int
		told   []int
		want   int
	}{
		{list, 1, a6xorB3, 2}, {list, 1, []int{0, 5, 0, 5, 0, 5, 0, 5}, 2}, {list, 1, []int{0, 3, 0, 3, 0, 3, 0, 3}, 0}, {list, 1, []int{0, 30, 0, 30, 0, 30, 0, 30}, 2}, {list, 1, noughts, 0},
		{list, 0, abFor10, 0}, {list, 0, []int{0, 0, 0, 20, 0, 0, 0, 20}, -2}, {list, 0, []int{0, 0, 0, 30, 0, 0, 0, 30}, -2}, {list, 0, noughts, 0},
		{list, 2, b6orC2, 4}, {list, 2, noughts, 0}, {list, 2, allFor30, -2},
		// One bidder has all things, whatever is told, at no price.
		{[][]int{a6xorB3}, 0, noughts, 6}, {[][]int{a6xorB3}, 0, a6xorB3, 6}, {[][]int{a6xorB3}, 0, each30, 6}, {[][]int{noughts}, 0, allFor30, 0}, {[][]int{noughts}, 0, noughts, 0}, {[][]int{each30}, 0, noughts, 30},
		// Bidders for nothing: the first one has what is worth nothing to all, as it is told.
		{[][]int{noughts, allFor9}, 1, noughts, 0}, {[][]int{allFor9, noughts}, 0, noughts, 9}, {[][]int{noughts, allFor9}, 0, allFor30, -9}, {[][]int{noughts, allFor9}, 0, allFor9, -9}, {[][]int{allFor9, noughts, noughts, noughts}, 3, each30, -9}, {[][]int{allFor30, noughts, noughts, noughts}, 3, each30, 0},
		// Splits that are as good as each other: the first one has it, and pays all of it.
		{[][]int{abFor10, abFor8}, 1, abFor8, 0}, {[][]int{abFor10, abFor8}, 1, abFor10, 0}, {[][]int{abFor10, abFor8}, 1, abFor11, -2}, {[][]int{abFor8, abFor10}, 0, abFor10, -2}, {[][]int{allFor9, allFor9}, 1, allFor30, 0},
		{[][]int{each30, each30, each30, each30}, 3, each30, 0}, {[][]int{each30, each30, each30, each30}, 3, allFor30, 0},
	} {
		if g, ok := impl.GainTold(c.tables, c.i, c.told); g != c.want || !ok {
			t.Errorf("GainTold(%v, %d, %v) = %d, %v, want %d", c.tables, c.i, c.told, g, ok, c.want)
		}
	}
	for _, tables := range fewBundles() {
		for i := range tables {
			for _, told := range toldTables() {
				want := wantGainTold(tables, i, told)
				if g, ok := impl.GainTold(tables, i, told); g != want || !ok {
					t.Fatalf("GainTold(%v, %d, %v) = %d, %v, want %d", tables, i, told, g, ok, want)
				}
			}
		}
	}
}

// wrongBidders are numbers that are no bidder among n.
func wrongBidders(n int) []int {
	return []int{-1, n, n + 1, impl.MaxCrowd, math.MinInt, math.MaxInt}
}

func TestGainToldOthers(t *testing.T) {
	refused := func(tables [][]int, i int, told []int) {
		t.Helper()
		if g, ok := impl.GainTold(tables, i, told); g != 0 || ok {
			t.Errorf("GainTold(%v, %d, %v) = %d, %v", tables, i, told, g, ok)
		}
	}
	// The own table is to be valid, too, though another one is told.
	for _, tables := range wrongBundles() {
		for i := range 5 {
			refused(tables, i, allFor9)
			refused(tables, i, noughts)
		}
	}
	for _, tables := range [][][]int{{a6xorB3}, {abFor10, a6xorB3}, {abFor10, a6xorB3, b6orC2}, {each5, each5, each5, each5}} {
		for _, i := range wrongBidders(len(tables)) {
			refused(tables, i, allFor9)
			refused(tables, i, noughts)
		}
		for _, told := range wrongTables() {
			for i := range tables {
				refused(tables, i, told)
			}
		}
	}
}

func TestGainAsTwo(t *testing.T) {
	rivals := [][]int{abFor10, abFor8}
	for _, c := range []struct {
		tables [][]int
		i      int
		a, b   []int
		want   int
	}{
		// Two names that want one thing each are better than one that wants both.
		{rivals, 1, aFor10, bFor10, 8}, {rivals, 1, bFor10, aFor10, 8}, {[][]int{abFor8, abFor10}, 0, aFor10, bFor10, 8},
		{[][]int{abFor10, {0, 0, 0, 0, 4, 4, 4, 4}, abFor8}, 2, aFor10, bFor10, 8},
		// One name that tells nothing, or less than the others.
		{rivals, 1, abFor8, noughts, 0}, {rivals, 1, noughts, abFor8, 0}, {rivals, 0, abFor10, noughts, 2}, {rivals, 0, noughts, abFor10, 2}, {rivals, 1, noughts, noughts, 0}, {rivals, 1, aFor2, bFor2, 0},
		// Both names are pushed out of less, and each pays what it takes from the other one, too.
		{rivals, 1, []int{0, 6, 0, 6, 0, 6, 0, 6}, []int{0, 0, 6, 6, 0, 0, 6, 6}, 0}, {rivals, 1, abFor11, abFor11, -3}, {rivals, 1, noughts, abFor11, -2},
		// One bidder, and one that is worth nothing, under two names.
		{[][]int{a6xorB3}, 0, a6xorB3, noughts, 6}, {[][]int{a6xorB3}, 0, noughts, a6xorB3, 6}, {[][]int{a6xorB3}, 0, a6xorB3, a6xorB3, 3}, {[][]int{a6xorB3}, 0, noughts, noughts, 6}, {[][]int{a6xorB3}, 0, allFor30, allFor30, -24},
		{[][]int{noughts}, 0, noughts, noughts, 0}, {[][]int{noughts}, 0, each30, each30, 0}, {[][]int{noughts}, 0, allFor30, allFor30, -30},
		// The sets of both names are worth together what they are as one set: more, or less, than one by one.
		{[][]int{allFor9}, 0, aFor2, bFor2, 9}, {[][]int{allFor9}, 0, aFor2, []int{0, 0, 0, 0, 0, 0, 5, 5}, 9}, {[][]int{each5}, 0, aFor2, bFor2, 5}, {[][]int{sums7}, 0, aFor2, bFor2, 7},
		{[][]int{allFor9, noughts}, 0, aFor2, bFor2, 9}, {[][]int{noughts, allFor9}, 1, aFor2, bFor2, 0}, {[][]int{noughts, sums7}, 1, aFor2, bFor2, 3},
		// As many bidders as there is room for.
		{[][]int{each30, each30, each30}, 2, each30, each30, 0}, {[][]int{each30, each30, each30}, 2, each30, noughts, 30}, {[][]int{noughts, noughts, noughts}, 0, each30, each30, 0},
	} {
		if g, ok := impl.GainAsTwo(c.tables, c.i, c.a, c.b); g != c.want || !ok {
			t.Errorf("GainAsTwo(%v, %d, %v, %v) = %d, %v, want %d", c.tables, c.i, c.a, c.b, g, ok, c.want)
		}
	}
	names := [][]int{noughts, abFor10, a6xorB3, b6orC2, each30, allFor30, sums7}
	for _, tables := range fewBundles() {
		if len(tables) >= impl.MaxCrowd {
			continue
		}
		for i := range tables {
			for _, said := range crowdsOf(2, names) {
				want := wantGainAsTwo(tables, i, said[0], said[1])
				if g, ok := impl.GainAsTwo(tables, i, said[0], said[1]); g != want || !ok {
					t.Fatalf("GainAsTwo(%v, %d, %v, %v) = %d, %v, want %d", tables, i, said[0], said[1], g, ok, want)
				}
			}
		}
	}
}

func TestGainAsTwoOthers(t *testing.T) {
	refused := func(tables [][]int, i int, a, b []int) {
		t.Helper()
		if g, ok := impl.GainAsTwo(tables, i, a, b); g != 0 || ok {
			t.Errorf("GainAsTwo(%v, %d, %v, %v) = %d, %v", tables, i, a, b, g, ok)
		}
	}
	for _, tables := range wrongBundles() {
		for i := range 5 {
			refused(tables, i, aFor10, bFor10)
			refused(tables, i, noughts, noughts)
		}
	}
	// One bidder more than there is room for, with the second name.
	for _, tables := range append(crowdsOf(4, [][]int{noughts, each30}), [][]int{abFor10, a6xorB3, b6orC2, each5}) {
		for i := range tables {
			refused(tables, i, aFor10, bFor10)
			refused(tables, i, noughts, noughts)
		}
	}
	// The second name is behind all, but is no bidder whose own table there is.
	for _, tables := range [][][]int{{a6xorB3}, {abFor10, a6xorB3}, {abFor10, a6xorB3, b6orC2}} {
		for _, i := range wrongBidders(len(tables)) {
			refused(tables, i, aFor10, bFor10)
			refused(tables, i, noughts, noughts)
		}
		for _, told := range wrongTables() {
			for i := range tables {
				refused(tables, i, told, bFor10)
				refused(tables, i, aFor10, told)
				refused(tables, i, told, told)
			}
		}
	}
}

func TestP33PivotsPayNoMoreThanTheyHave(t *testing.T) {
	paid, had := 0, 0
	for _, tables := range someBundles() {
		sets, _ := impl.BestSplit(tables)
		pays, adds := impl.PivotPays(tables), impl.AddsOf(tables)
		if len(pays) != len(tables) || len(adds) != len(tables) {
			t.Fatalf("PivotPays(%v) = %v, and AddsOf is %v", tables, pays, adds)
		}
		for i, own := range tables {
			has := own[sets[i]]
			if pays[i] < 0 || pays[i] > has || has-pays[i] != adds[i] {
				t.Fatalf("PivotPays(%v) = %v, where bidder %d has %d and adds %d", tables, pays, i, has, adds[i])
			}
			paid += pays[i]
			had += adds[i]
		}
	}
	if paid == 0 || had == 0 {
		t.Errorf("in all %d was paid and %d was had", paid, had)
	}
}

func TestP34NoOneAddsMoreThanAllThingsAreWorth(t *testing.T) {
	less := 0
	for _, tables := range someBundles() {
		adds := impl.AddsOf(tables)
		if len(adds) != len(tables) {
			t.Fatalf("AddsOf(%v) = %v", tables, adds)
		}
		for i, own := range tables {
			if adds[i] < 0 || adds[i] > own[7] || len(tables) == 1 && adds[i] != own[7] {
				t.Fatalf("AddsOf(%v) = %v, but all things are worth %d to bidder %d", tables, adds, own[7], i)
			}
			if adds[i] > 0 && adds[i] < own[7] {
				less++
			}
		}
	}
	if less == 0 {
		t.Error("no one added less than all things are worth, but something")
	}
}

func TestP35TruthIsBestForBundles(t *testing.T) {
	less := 0
	check := func(tables [][]int, told [][]int) {
		adds := impl.AddsOf(tables)
		for i, own := range tables {
			truth, ok := impl.GainTold(tables, i, own)
			if !ok || truth != adds[i] {
				t.Fatalf("GainTold(%v, %d, %v) = %d, %v, but AddsOf is %v", tables, i, own, truth, ok, adds)
			}
			for _, other := range told {
				g, ok := impl.GainTold(tables, i, other)
				if !ok || g > truth {
					t.Fatalf("GainTold(%v, %d, %v) = %d, %v, but of the own one %d", tables, i, other, g, ok, truth)
				}
				if g < truth {
					less++
				}
			}
		}
	}
	for _, tables := range fewBundles() {
		check(tables, toldTables())
	}
	for _, tables := range [][][]int{{abFor10, a6xorB3, b6orC2}, {each5, each5}, {abFor10, abFor8}, {noughts, sums7, each5, a6xorB3}} {
		check(tables, someTables())
	}
	if less == 0 {
		t.Error("no other table was worse than the own one")
	}
}

func TestP37WhatIsPaidAndWhatIsHadIsAll(t *testing.T) {
	for _, tables := range someBundles() {
		paid, had := impl.BroughtIn(tables)
		if all := impl.SplitWorth(tables, 7); paid < 0 || had < 0 || paid+had != all {
			t.Fatalf("BroughtIn(%v) = %d, %d, but all things are worth %d", tables, paid, had, all)
		}
	}
}

func TestP78UnitsAreThingsThatAreTheSame(t *testing.T) {
	bundles := append(crowdsOf(1, fallingRows(3, 10, 7, 6, 0)), crowdsOf(2, fallingRows(3, 10, 7, 0))...)
	bundles = append(bundles, crowdsOf(3, [][]int{nil, {0}, {7}, {7, 7}, {10, 6, 6}, {10, 10, 10}, {30}})...)
	added := 0
	for _, rows := range append(bundles, crowdsOf(4, [][]int{nil, {7}, {9, 7, 7}, {8, 2}})...) {
		var tables [][]int
		for _, r := range rows {
			tables = append(tables, tableBy(func(set int) int { return rowWorth(r, bits.OnesCount(uint(set))) }))
		}
		if all := impl.SplitWorth(tables, 7); all != impl.WorthOf(rows, 3) {
			t.Fatalf("SplitWorth(%v, 7) = %d, but WorthOf is %d", tables, all, impl.WorthOf(rows, 3))
		}
		has, pays, adds := impl.AwardUnits(rows, 3), impl.PivotUnits(rows, 3), impl.AddsOf(tables)
		if len(has) != len(rows) || len(pays) != len(rows) || len(adds) != len(rows) {
			t.Fatalf("of %v AwardUnits is %v, PivotUnits %v, and AddsOf %v", rows, has, pays, adds)
		}
		for i, r := range rows {
			if adds[i] != rowWorth(r, has[i])-pays[i] {
				t.Fatalf("AddsOf(%v) = %v, but AwardUnits is %v, and PivotUnits %v", tables, adds, has, pays)
			}
			added += adds[i]
		}
	}
	if added == 0 {
		t.Error("no one added anything")
	}
}

func TestP79OneThingIsABundle(t *testing.T) {
	for n := 1; n <= impl.MaxCrowd; n++ {
		for _, bids := range listsOf(n, 0, 1, 7, 29, 30) {
			var tables [][]int
			for _, b := range bids {
				tables = append(tables, sumTable([]int{b, 0, 0}))
			}
			at, pays := impl.SaleBy("second", bids, 0)
			if pivots := impl.PivotPays(tables); len(pivots) != n || !slices.Equal(pivots, pays) {
				t.Fatalf("PivotPays(%v) = %v, but SaleBy asks %v", tables, pivots, pays)
			}
			sets, _ := impl.BestSplit(tables)
			for i, set := range sets {
				if (set&1 == 1) != (i == at) {
					t.Fatalf("BestSplit(%v) = %v, but SaleBy gives a to %d", tables, sets, at)
				}
			}
		}
	}
}

// checkMorePayMore fails if one of the bundles brings in more without the last bidder, or no last bidder brings in more.
func checkMorePayMore(t *testing.T, bundles [][][]int) {
	t.Helper()
	more := 0
	for _, tables := range bundles {
		paid, _ := impl.BroughtIn(tables)
		fewer := 0
		// No bidders are no tables: nothing is brought in by them.
		if len(tables) > 1 {
			fewer, _ = impl.BroughtIn(tables[:len(tables)-1])
		}
		if fewer < 0 || fewer > paid {
			t.Fatalf("BroughtIn(%v) = %d, but %d without the last bidder", tables, paid, fewer)
		}
		if fewer < paid {
			more++
		}
	}
	if more == 0 {
		t.Error("no last bidder brought in more")
	}
}

func TestP86MoreBiddersPayMoreWhereThingsMayBeMoved(t *testing.T) {
	checkMorePayMore(t, movableBundles())
}

// callPivots calls all functions of the chapter.
func callPivots(tables [][]int, i int, a, b []int) {
	impl.PivotPays(tables)
	impl.AddsOf(tables)
	impl.GainTold(tables, i, a)
	impl.GainAsTwo(tables, i, a, b)
	impl.BroughtIn(tables)
}

func TestPivotsKeepArguments(t *testing.T) {
	names := [][]int{nil, noughts, aFor10, bFor10, {0, 2, 0, 1, 0, 2, 0, 2}}
	bundles := append(wrongBundles()[:40], crowdsOf(2, fewTables())...)
	for _, tables := range append(bundles, [][]int{noughts}, [][]int{each30}, [][]int{abFor10, a6xorB3, b6orC2}, [][]int{each5, each5, each5, each5}) {
		for i := -1; i <= min(len(tables), 5); i++ {
			for _, said := range crowdsOf(2, names) {
				r, a, b := roomyRows(tables), roomy(said[0]), roomy(said[1])
				callPivots(r, i, a, b)
				if !roomyRowsAreKept(r, tables) || !roomyIsKept(a, said[0]) || !roomyIsKept(b, said[1]) {
					t.Fatalf("by %d, %v and %v the tables %v become %v", i, said[0], said[1], tables, r)
				}
			}
		}
	}
}

func TestPivotsOfTablesInTheSameMemory(t *testing.T) {
	own := slices.Clone(a6xorB3)
	tables := [][]int{own, own, own}
	for range 2 {
		callPivots(tables, 1, own, own)
		if !slices.Equal(own, a6xorB3) || !sameRows(tables, [][]int{own, own, own}) || !slices.Equal(impl.PivotPays(tables), wantPivotPays(tables)) {
			t.Fatalf("three tables %v in the same memory become %v", own, tables)
		}
	}
}

func TestPivotsShareNoMemory(t *testing.T) {
	lists := []listMaker{
		{"PivotPays", impl.PivotPays, wantPivotPays},
		{"AddsOf", impl.AddsOf, wantAddsOf},
	}
	for _, tables := range append(crowdsOf(2, fewTables()), [][]int{noughts}, [][]int{each30}, [][]int{abFor10, a6xorB3, b6orC2}, [][]int{each5, each5, each5, each5}) {
		checkListsApart(t, lists, tables)
	}
}

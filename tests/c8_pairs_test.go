package tests

import (
	"math"
	"slices"
	"testing"

	"loop.example/salesbybids/impl"
)

// marketsOf are all markets of n bidders for m things with some of the worths.
func marketsOf(n, m int, worths ...int) [][][]int {
	return crowdsOf(n, listsOf(m, worths...))
}

// mixedMarkets are some markets of n bidders for m things with worths up to the top that seem to have no order.
func mixedMarkets(many, n, m, top int) [][][]int {
	var markets [][][]int
	x := n*100 + m*10 + top
	for range many {
		var rows [][]int
		for range n {
			var r []int
			for range m {
				x = (x*1103515245 + 12345) % (1 << 31)
				r = append(r, x>>16%(top+1))
			}
			rows = append(rows, r)
		}
		markets = append(markets, rows)
	}
	return markets
}

// smallMarkets are all markets with few worths, of one bidder and as many as there may be, for one thing and as many as there may be, and those between with fewer worths.
func smallMarkets() [][][]int {
	all := marketsOf(1, 1, upTo(impl.MaxWorth)...)
	for n := 2; n <= impl.MaxCrowd; n++ {
		all = append(all, marketsOf(n, 1, 0, 1, 7, 12)...)
	}
	for m := 2; m <= impl.MaxGoods; m++ {
		all = append(all, marketsOf(1, m, 0, 1, 7, 12)...)
	}
	all = append(all, marketsOf(2, 2, 0, 1, 2, 12)...)
	all = append(all, marketsOf(2, 3, 0, 3, 5)...)
	all = append(all, marketsOf(3, 2, 0, 3, 5)...)
	return append(all, marketsOf(3, 3, 0, 12)...)
}

// wideMarkets are markets of all numbers of bidders and of things, with worths that are the same, worths of nothing, the greatest ones, and all kinds of them.
func wideMarkets() [][][]int {
	var all [][][]int
	for n := 1; n <= impl.MaxCrowd; n++ {
		for m := 1; m <= impl.MaxGoods; m++ {
			for _, x := range []int{0, 5, impl.MaxWorth} {
				all = append(all, crowdsOf(n, [][]int{slices.Repeat([]int{x}, m)})...)
			}
			for _, top := range []int{1, 3, impl.MaxWorth} {
				all = append(all, mixedMarkets(12, n, m, top)...)
			}
		}
	}
	return all
}

// someMarkets are the small and the wide ones.
func someMarkets() [][][]int {
	return append(smallMarkets(), wideMarkets()...)
}

// wrongMarkets are rows that are no market: none, too many, of no things or of too many, not all as long, and with a worth out of range at any place.
func wrongMarkets() [][][]int {
	wrong := [][][]int{nil, {}, {{1}, {1}, {1}, {1}, {1}}, marketsOf(5, 4, 3)[0], make([][]int, 1000), {nil}, {{}}, {nil, nil}, {{}, {}, {}, {}}, {{1, 2, 3, 4, 5}}, {make([]int, 5), make([]int, 5)}, {make([]int, 1000)}}
	wrong = append(wrong, [][]int{{1}, {1, 2}}, [][]int{{1, 2}, {1}}, [][]int{{1, 2}, nil}, [][]int{nil, {1, 2}}, [][]int{{1, 2, 3, 4}, {1, 2, 3, 4}, {1, 2, 3, 4}, {1, 2, 3}}, [][]int{{1, 2, 3}, {1, 2, 3}, {1, 2, 3, 4}, {1, 2, 3}}, [][]int{{1, 2, 3, 4}, {1, 2, 3, 4, 5}})
	for _, x := range []int{-1, impl.MaxWorth + 1, impl.MaxBid, math.MinInt, math.MaxInt} {
		for _, rows := range [][][]int{{{3}}, {{4, 0}, {12, 5}}, {{1, 2, 3, 4}, {0, 0, 0, 0}, {12, 12, 12, 12}, {5, 5, 5, 5}}} {
			for i, r := range rows {
				for at := range r {
					wrong = append(wrong, withRow(rows, i, with(r, at, x)))
				}
			}
		}
	}
	return wrong
}

// wrongPairPrices are numbers that are no prices of m things: too few, too many, and with one out of range at any place.
func wrongPairPrices(m int) [][]int {
	wrong := [][]int{nil, make([]int, m-1), make([]int, m+1), make([]int, 1000)}
	for at := range m {
		for _, x := range []int{-1, impl.MaxPrice + 1, math.MinInt, math.MaxInt} {
			wrong = append(wrong, with(make([]int, m), at, x))
		}
	}
	return wrong
}

// worthTo is what a thing is worth by a row, 0 for none behind all things.
func worthTo(r []int, thing int) int {
	if thing == len(r) {
		return 0
	}
	return r[thing]
}

// hasTwice reports whether two bidders have the same thing of m.
func hasTwice(things []int, m int) bool {
	for i, thing := range things {
		if thing < m && slices.Contains(things[:i], thing) {
			return true
		}
	}
	return false
}

// wantPairs is what the document says of BestPairs, without the things that are left out, found by trying all ways to give the things away; nil and 0 without bidders.
func wantPairs(rows [][]int, left ...int) ([]int, int) {
	if len(rows) == 0 {
		return nil, 0
	}
	var best []int
	most, m := -1, len(rows[0])
	for _, things := range listsOf(len(rows), upTo(m)...) {
		worth := 0
		for i, r := range rows {
			worth += worthTo(r, things[i])
		}
		leftOut := slices.ContainsFunc(things, func(thing int) bool { return slices.Contains(left, thing) })
		if worth > most && !leftOut && !hasTwice(things, m) {
			best, most = things, worth
		}
	}
	return best, most
}

// wantLeft is what is left of the greatest worth less price, and the things at which it is, none among them.
func wantLeft(r, p []int) (int, []int) {
	most, things := 0, []int{len(r)}
	for thing, x := range r {
		if left := x - p[thing]; left > most {
			most, things = left, []int{thing}
		} else if left == most {
			things = append(things, thing)
		}
	}
	return most, things
}

// wantScarce reports whether more bidders than there are things in a set want none but of them.
func wantScarce(rows [][]int, p, set []int) bool {
	many := 0
	for _, r := range rows {
		most, things := wantLeft(r, p)
		if most > 0 && !slices.ContainsFunc(things, func(thing int) bool { return !slices.Contains(set, thing) }) {
			many++
		}
	}
	return many > len(set)
}

// setsByMany are the sets of things, those with fewer things first, and of these those with the lesser sums.
func setsByMany() [][]int {
	return [][]int{{0}, {1}, {2}, {3}, {0, 1}, {0, 2}, {1, 2}, {0, 3}, {1, 3}, {2, 3}, {0, 1, 2}, {0, 1, 3}, {0, 2, 3}, {1, 2, 3}, {0, 1, 2, 3}}
}

// wantPairPrices is what the document says of PairPrices.
func wantPairPrices(rows [][]int) []int {
	p := make([]int, len(rows[0]))
	for {
		at := slices.IndexFunc(setsByMany(), func(set []int) bool { return slices.Max(set) < len(p) && wantScarce(rows, p, set) })
		if at < 0 {
			return p
		}
		for _, thing := range setsByMany()[at] {
			p[thing]++
		}
	}
}

// wantPairPays is what the document says of PairPays.
func wantPairPays(rows [][]int) []int {
	things, _ := wantPairs(rows)
	pays := make([]int, len(rows))
	for i := range rows {
		_, pays[i] = wantPairs(others(rows, i))
		for j, r := range rows {
			if j != i {
				pays[i] -= worthTo(r, things[j])
			}
		}
	}
	return pays
}

// wantGo is what the document says of GoWithPairs.
func wantGo(rows [][]int, p []int) bool {
	things, _ := wantPairs(rows)
	for i, r := range rows {
		if _, best := wantLeft(r, p); !slices.Contains(best, things[i]) {
			return false
		}
	}
	for thing, price := range p {
		if price != 0 && !slices.Contains(things, thing) {
			return false
		}
	}
	return true
}

// wantMostPairs is what the document says of MostPairPrices.
func wantMostPairs(rows [][]int) []int {
	_, all := wantPairs(rows)
	var prices []int
	for thing := range rows[0] {
		_, without := wantPairs(rows, thing)
		prices = append(prices, all-without)
	}
	return prices
}

// pairPricesNear are prices made of the least and of the most ones, and of those 1 below and 1 above, for each thing, as far as these are in the range.
func pairPricesNear(rows [][]int) [][]int {
	least, most := wantPairPrices(rows), wantMostPairs(rows)
	near := [][]int{nil}
	for thing := range least {
		tries := []int{max(least[thing]-1, 0), least[thing], most[thing], most[thing] + 1}
		slices.Sort(tries)
		var longer [][]int
		for _, p := range near {
			for _, x := range slices.Compact(slices.Clone(tries)) {
				longer = append(longer, append(slices.Clone(p), x))
			}
		}
		near = longer
	}
	return near
}

func TestPairsLimits(t *testing.T) {
	if impl.MaxGoods != 4 || impl.MaxWorth != 12 || impl.MaxCrowd != 4 || impl.MaxPrice != 40 {
		t.Error("limits are not those of the document")
	}
}

func TestValidRows(t *testing.T) {
	for _, rows := range someMarkets() {
		if !impl.ValidRows(rows) {
			t.Fatalf("ValidRows(%v) = false", rows)
		}
	}
	for _, rows := range wrongMarkets() {
		if impl.ValidRows(rows) {
			t.Errorf("ValidRows(%v) = true", rows)
		}
	}
}

// A toldMarket is a market with all that the chapter tells of it.
type toldMarket struct {
	rows               [][]int
	things             []int
	sum                int
	prices, pays, most []int
}

// toldMarkets are markets of which all is told by hand.
func toldMarkets() []toldMarket {
	return []toldMarket{
		{[][]int{{6, 4}, {5, 2}, {3, 3}}, []int{0, 2, 1}, 9, []int{5, 3}, []int{5, 0, 3}, []int{5, 3}},
		// One bidder, for one thing and for more, pays nothing, and has the first one of several.
		{[][]int{{7}}, []int{0}, 7, []int{0}, []int{0}, []int{7}},
		{[][]int{{0}}, []int{0}, 0, []int{0}, []int{0}, []int{0}},
		{[][]int{{12}}, []int{0}, 12, []int{0}, []int{0}, []int{12}},
		{[][]int{{0, 0}}, []int{0}, 0, []int{0, 0}, []int{0}, []int{0, 0}},
		{[][]int{{3, 9, 9, 4}}, []int{1}, 9, []int{0, 0, 0, 0}, []int{0}, []int{0, 0, 0, 0}},
		{[][]int{{3, 9, 4, 8}}, []int{1}, 9, []int{0, 0, 0, 0}, []int{0}, []int{0, 1, 0, 0}},
		// One thing, and more bidders.
		{[][]int{{7}, {7}}, []int{0, 1}, 7, []int{7}, []int{7, 0}, []int{7}},
		{[][]int{{3}, {8}}, []int{1, 0}, 8, []int{3}, []int{0, 3}, []int{8}},
		{[][]int{{0}, {5}, {0}, {12}}, []int{1, 1, 1, 0}, 12, []int{5}, []int{0, 0, 0, 5}, []int{12}},
		{[][]int{{12}, {12}, {12}, {12}}, []int{0, 1, 1, 1}, 12, []int{12}, []int{12, 0, 0, 0}, []int{12}},
		// A thing that is worth nothing is had all the same, as it has a lesser number than none.
		{[][]int{{0}, {0}}, []int{0, 1}, 0, []int{0}, []int{0, 0}, []int{0}},
		{[][]int{{0, 0}, {0, 0}, {0, 0}}, []int{0, 1, 2}, 0, []int{0, 0}, []int{0, 0, 0}, []int{0, 0}},
		{[][]int{{0, 0, 5}, {0, 0, 7}}, []int{0, 2}, 7, []int{0, 0, 5}, []int{0, 5}, []int{0, 0, 7}},
		{[][]int{{0, 0, 0, 0}, {0, 0, 0, 0}, {0, 0, 0, 0}, {0, 0, 0, 0}}, []int{0, 1, 2, 3}, 0, []int{0, 0, 0, 0}, []int{0, 0, 0, 0}, []int{0, 0, 0, 0}},
		// Worths that are the same: enough things are free, and one too few costs all.
		{[][]int{{5, 5}, {5, 5}}, []int{0, 1}, 10, []int{0, 0}, []int{0, 0}, []int{5, 5}},
		{[][]int{{5, 5}, {5, 5}, {5, 5}}, []int{0, 1, 2}, 10, []int{5, 5}, []int{5, 5, 0}, []int{5, 5}},
		{[][]int{{5, 5, 5}, {5, 5, 5}}, []int{0, 1}, 10, []int{0, 0, 0}, []int{0, 0}, []int{0, 0, 0}},
		{[][]int{{12, 12, 12, 12}, {12, 12, 12, 12}, {12, 12, 12, 12}, {12, 12, 12, 12}}, []int{0, 1, 2, 3}, 48, []int{0, 0, 0, 0}, []int{0, 0, 0, 0}, []int{12, 12, 12, 12}},
		{[][]int{{12, 12, 12}, {12, 12, 12}, {12, 12, 12}, {12, 12, 12}}, []int{0, 1, 2, 3}, 36, []int{12, 12, 12}, []int{12, 12, 12, 0}, []int{12, 12, 12}},
		// Of pairs that are as good the first bidder has the thing with the lesser number, then the second one.
		{[][]int{{4, 6}, {2, 4}}, []int{0, 1}, 8, []int{0, 2}, []int{0, 2}, []int{2, 4}},
		{[][]int{{6, 4}, {4, 2}}, []int{0, 1}, 8, []int{2, 0}, []int{2, 0}, []int{4, 2}},
		{[][]int{{1, 1, 1}, {3, 1, 1}, {2, 2, 2}}, []int{1, 0, 2}, 6, []int{0, 0, 0}, []int{0, 0, 0}, []int{3, 1, 1}},
		// To have what is worth most to one of them is not best for both.
		{[][]int{{10, 9}, {8, 1}}, []int{1, 0}, 17, []int{1, 0}, []int{0, 1}, []int{8, 7}},
	}
}

// checkPairs fails if a function of the chapter returns what is not told of the market.
func checkPairs(t *testing.T, c toldMarket) {
	t.Helper()
	if things, n := impl.BestPairs(c.rows); n != c.sum || !slices.Equal(things, c.things) {
		t.Fatalf("BestPairs(%v) = %v, %d, want %v, %d", c.rows, things, n, c.things, c.sum)
	}
	if p := impl.PairPrices(c.rows); !slices.Equal(p, c.prices) {
		t.Fatalf("PairPrices(%v) = %v, want %v", c.rows, p, c.prices)
	}
	if p := impl.PairPays(c.rows); !slices.Equal(p, c.pays) {
		t.Fatalf("PairPays(%v) = %v, want %v", c.rows, p, c.pays)
	}
	if p := impl.MostPairPrices(c.rows); !slices.Equal(p, c.most) {
		t.Fatalf("MostPairPrices(%v) = %v, want %v", c.rows, p, c.most)
	}
}

func TestBestPairsPairPricesPairPaysAndMostPairPrices(t *testing.T) {
	for _, c := range toldMarkets() {
		checkPairs(t, c)
	}
	for _, rows := range someMarkets() {
		things, n := wantPairs(rows)
		checkPairs(t, toldMarket{rows, things, n, wantPairPrices(rows), wantPairPays(rows), wantMostPairs(rows)})
	}
}

func TestGoWithPairs(t *testing.T) {
	three := [][]int{{6, 4}, {5, 2}, {3, 3}}
	for _, c := range []struct {
		rows [][]int
		p    []int
		want bool
	}{
		{three, []int{5, 3}, true}, {three, []int{4, 3}, false}, {three, []int{5, 2}, false}, {three, []int{6, 3}, false}, {three, []int{5, 4}, false}, {three, []int{0, 0}, false}, {three, []int{40, 40}, false},
		// One bidder, and all that none has is free.
		{[][]int{{7}}, []int{0}, true}, {[][]int{{7}}, []int{7}, true}, {[][]int{{7}}, []int{8}, false}, {[][]int{{7}}, []int{40}, false}, {[][]int{{0}}, []int{0}, true}, {[][]int{{0}}, []int{1}, false},
		{[][]int{{3, 9}}, []int{0, 6}, true}, {[][]int{{3, 9}}, []int{0, 7}, false}, {[][]int{{3, 9}}, []int{1, 0}, false}, {[][]int{{3, 9}}, []int{0, 0}, true}, {[][]int{{0, 0}}, []int{0, 1}, false},
		// One thing: none is as good as a thing of which nothing is left, and no less.
		{[][]int{{3}, {8}}, []int{3}, true}, {[][]int{{3}, {8}}, []int{8}, true}, {[][]int{{3}, {8}}, []int{2}, false}, {[][]int{{3}, {8}}, []int{9}, false}, {[][]int{{7}, {7}}, []int{7}, true}, {[][]int{{7}, {7}}, []int{6}, false}, {[][]int{{7}, {7}}, []int{8}, false},
		{[][]int{{12}, {12}, {12}, {12}}, []int{12}, true}, {[][]int{{12}, {12}, {12}, {12}}, []int{11}, false}, {[][]int{{0}, {0}, {0}, {0}}, []int{0}, true}, {[][]int{{0}, {0}, {0}, {0}}, []int{1}, false},
		// Things that are the same are as dear as each other, as long as someone wants each of them.
		{[][]int{{5, 5}, {5, 5}}, []int{0, 0}, true}, {[][]int{{5, 5}, {5, 5}}, []int{3, 3}, true}, {[][]int{{5, 5}, {5, 5}}, []int{5, 5}, true}, {[][]int{{5, 5}, {5, 5}}, []int{3, 2}, false}, {[][]int{{5, 5}, {5, 5}}, []int{6, 6}, false}, {[][]int{{5, 5, 5}, {5, 5, 5}}, []int{1, 1, 1}, false}, {[][]int{{5, 5, 5}, {5, 5, 5}}, []int{1, 1, 0}, false},
		{[][]int{{10, 9}, {8, 1}}, []int{1, 0}, true}, {[][]int{{10, 9}, {8, 1}}, []int{0, 0}, false}, {[][]int{{10, 9}, {8, 1}}, []int{8, 7}, true}, {[][]int{{10, 9}, {8, 1}}, []int{8, 8}, false}, {[][]int{{10, 9}, {8, 1}}, []int{9, 8}, false}, {[][]int{{10, 9}, {8, 1}}, []int{5, 4}, true}, {[][]int{{10, 9}, {8, 1}}, []int{7, 0}, true}, {[][]int{{10, 9}, {8, 1}}, []int{8, 0}, false},
	} {
		if ok := impl.GoWithPairs(c.rows, c.p); ok != c.want {
			t.Errorf("GoWithPairs(%v, %v) = %v", c.rows, c.p, ok)
		}
	}
	for _, rows := range someMarkets() {
		for _, p := range pairPricesNear(rows) {
			if ok := impl.GoWithPairs(rows, p); ok != wantGo(rows, p) {
				t.Fatalf("GoWithPairs(%v, %v) = %v", rows, p, ok)
			}
		}
	}
}

func TestPairsOthers(t *testing.T) {
	for _, rows := range wrongMarkets() {
		if things, n := impl.BestPairs(rows); things != nil || n != -1 {
			t.Errorf("BestPairs(%v) = %v, %d", rows, things, n)
		}
		for _, list := range [][]int{impl.PairPrices(rows), impl.PairPays(rows), impl.MostPairPrices(rows)} {
			if list != nil {
				t.Errorf("of %v PairPrices, PairPays or MostPairPrices is %v", rows, list)
			}
		}
		for m := range 6 {
			if p := make([]int, m); impl.GoWithPairs(rows, p) {
				t.Errorf("GoWithPairs(%v, %v) = true", rows, p)
			}
		}
	}
	// Of worths of nothing, and of one bidder, prices of nothing go with the pairs, so that only wrong ones do not.
	for n := 1; n <= impl.MaxCrowd; n++ {
		for m := 1; m <= impl.MaxGoods; m++ {
			rows := crowdsOf(n, [][]int{make([]int, m)})[0]
			for _, p := range wrongPairPrices(m) {
				if impl.GoWithPairs(rows, p) {
					t.Errorf("GoWithPairs(%v, %v) = true", rows, p)
				}
			}
			if !impl.GoWithPairs(rows, make([]int, m)) {
				t.Errorf("GoWithPairs(%v) of noughts = false", rows)
			}
		}
	}
}

func TestP50BiddersCanBeLeftOut(t *testing.T) {
	for _, rows := range someMarkets() {
		for ; len(rows) > 0; rows = rows[:len(rows)-1] {
			if !impl.ValidRows(rows) {
				t.Fatalf("ValidRows(%v) = false", rows)
			}
		}
	}
}

func TestP51PairsHaveNoThingTwice(t *testing.T) {
	fewer := 0
	for _, rows := range someMarkets() {
		things, n := impl.BestPairs(rows)
		if len(things) != len(rows) || slices.Min(things) < 0 || slices.Max(things) > len(rows[0]) || hasTwice(things, len(rows[0])) {
			t.Fatalf("BestPairs(%v) = %v, %d", rows, things, n)
		}
		worth := 0
		for i, r := range rows {
			worth += worthTo(r, things[i])
		}
		if worth != n {
			t.Fatalf("BestPairs(%v) = %v, %d, but it is worth %d", rows, things, n, worth)
		}
		for i := range rows {
			if len(rows) == 1 {
				break
			}
			_, without := impl.BestPairs(others(rows, i))
			if without < 0 || without > n {
				t.Fatalf("BestPairs(%v) is worth %d, but %d without bidder %d", rows, n, without, i)
			}
			if without < n {
				fewer++
			}
		}
	}
	if fewer == 0 {
		t.Error("with no bidder fewer the pairs were worth less")
	}
}

func TestP52PricesThatClimbAreWhatPairsPay(t *testing.T) {
	paid, less := 0, 0
	for _, rows := range someMarkets() {
		things, _ := impl.BestPairs(rows)
		prices, pays, most := impl.PairPrices(rows), impl.PairPays(rows), impl.MostPairPrices(rows)
		if len(prices) != len(rows[0]) || len(most) != len(rows[0]) || len(pays) != len(rows) || len(things) != len(rows) {
			t.Fatalf("of %v BestPairs is %v, PairPrices %v, PairPays %v, and MostPairPrices %v", rows, things, prices, pays, most)
		}
		if !impl.GoWithPairs(rows, prices) {
			t.Fatalf("PairPrices(%v) = %v does not go with the pairs %v", rows, prices, things)
		}
		for i, thing := range things {
			if pays[i] != worthTo(prices, thing) {
				t.Fatalf("PairPays(%v) = %v, but of BestPairs %v and PairPrices %v bidder %d pays %d", rows, pays, things, prices, i, worthTo(prices, thing))
			}
			paid += pays[i]
		}
		for thing, price := range prices {
			if price > most[thing] {
				t.Fatalf("PairPrices(%v) = %v, but MostPairPrices is %v", rows, prices, most)
			}
			if price < most[thing] {
				less++
			}
		}
	}
	if paid == 0 || less == 0 {
		t.Errorf("in all %d was paid, and %d prices were less than the most ones", paid, less)
	}
}

func TestP53WhatPairsPayIsNoMoreThanTheyHave(t *testing.T) {
	less, same := 0, 0
	for _, rows := range someMarkets() {
		things, _ := impl.BestPairs(rows)
		pays := impl.PairPays(rows)
		if len(pays) != len(rows) || len(things) != len(rows) {
			t.Fatalf("of %v BestPairs is %v, and PairPays %v", rows, things, pays)
		}
		for i, r := range rows {
			has := worthTo(r, things[i])
			if pays[i] < 0 || pays[i] > has {
				t.Fatalf("PairPays(%v) = %v, but bidder %d has %d", rows, pays, i, has)
			}
			if pays[i] < has {
				less++
			} else if has > 0 {
				same++
			}
		}
	}
	if less == 0 || same == 0 {
		t.Errorf("pairs paid less than they had %d times, and all of it %d times", less, same)
	}
}

// goingPrices are those of the pairPricesNear that go with the pairs.
func goingPrices(rows [][]int) [][]int {
	return slices.DeleteFunc(pairPricesNear(rows), func(p []int) bool { return !impl.GoWithPairs(rows, p) })
}

func TestP54PricesThatGoWithPairsAreFromTheLeastUpToTheMost(t *testing.T) {
	between, apart := 0, 0
	for at, rows := range someMarkets() {
		least, most := impl.PairPrices(rows), impl.MostPairPrices(rows)
		going := goingPrices(rows)
		for _, p := range going {
			if !slices.Equal(bothOf(p, least, lesserOf), least) || !slices.Equal(bothOf(p, most, greaterOf), most) {
				t.Fatalf("GoWithPairs(%v, %v) holds, but PairPrices is %v, and MostPairPrices %v", rows, p, least, most)
			}
			if !slices.Equal(p, least) && !slices.Equal(p, most) {
				between++
			}
			against := [][]int{least, most}
			// All two prices are many, so that in some markets only they are held against each other.
			if at%5 == 0 {
				against = append(against, going...)
			}
			for _, q := range against {
				lesser, greater := bothOf(p, q, lesserOf), bothOf(p, q, greaterOf)
				if !impl.GoWithPairs(rows, lesser) || !impl.GoWithPairs(rows, greater) {
					t.Fatalf("GoWithPairs(%v) holds of %v and %v, but is %v of %v, and %v of %v", rows, p, q, impl.GoWithPairs(rows, lesser), lesser, impl.GoWithPairs(rows, greater), greater)
				}
				if !slices.Equal(lesser, p) && !slices.Equal(lesser, q) {
					apart++
				}
			}
		}
	}
	if between == 0 || apart == 0 {
		t.Errorf("%d prices were between the least and the most ones, and %d times each of two was dearer for some thing", between, apart)
	}
}

func TestP55TheMostPricesGoWithThePairs(t *testing.T) {
	above := 0
	for _, rows := range someMarkets() {
		most := impl.MostPairPrices(rows)
		if len(most) != len(rows[0]) || slices.Min(most) < 0 || !impl.GoWithPairs(rows, most) {
			t.Fatalf("MostPairPrices(%v) = %v, of which GoWithPairs is %v", rows, most, impl.GoWithPairs(rows, most))
		}
		above += sum(most)
	}
	if above == 0 {
		t.Error("all of the most prices were 0")
	}
}

// oneWanters are tables of one up to four bidders of whom each wants one thing, with the rows of what things alone are worth to them.
func oneWanters() [][2][][]int {
	markets := append(marketsOf(1, 3, 0, 1, 7, 12), marketsOf(2, 3, 0, 3, 5)...)
	markets = append(markets, marketsOf(3, 3, 0, 12)...)
	for n := 1; n <= impl.MaxCrowd; n++ {
		for _, top := range []int{1, 3, impl.MaxWorth} {
			markets = append(markets, mixedMarkets(40, n, 3, top)...)
		}
		markets = append(markets, crowdsOf(n, [][]int{{12, 12, 12}})...)
	}
	var all [][2][][]int
	for _, rows := range markets {
		var tables [][]int
		for _, r := range rows {
			tables = append(tables, oneTable(r))
		}
		all = append(all, [2][][]int{tables, rows})
	}
	return all
}

func TestP76ClimbingByBundlesIsClimbingByPairs(t *testing.T) {
	climbed := 0
	for _, both := range oneWanters() {
		tables, rows := both[0], both[1]
		prices := impl.PairPrices(rows)
		climb, steps := impl.ClimbPrices(tables)
		if len(climb) != 3 || !slices.Equal(climb, prices) {
			t.Fatalf("ClimbPrices(%v) = %v, %d, but PairPrices(%v) is %v", tables, climb, steps, rows, prices)
		}
		climbed += steps
	}
	if climbed == 0 {
		t.Error("no prices climbed")
	}
}

func TestP77PivotsOfBundlesArePivotsOfPairs(t *testing.T) {
	added, paid := 0, 0
	for _, both := range oneWanters() {
		tables, rows := both[0], both[1]
		things, _ := impl.BestPairs(rows)
		pays, adds := impl.PairPays(rows), impl.AddsOf(tables)
		if len(things) != len(rows) || len(pays) != len(rows) || len(adds) != len(rows) {
			t.Fatalf("of %v BestPairs is %v, PairPays %v, and AddsOf %v", rows, things, pays, adds)
		}
		for i, r := range rows {
			if has := worthTo(r, things[i]); adds[i] != has-pays[i] {
				t.Fatalf("AddsOf(%v) = %v, but of BestPairs %v and PairPays %v bidder %d has %d", tables, adds, things, pays, i, has-pays[i])
			}
			added += adds[i]
			paid += pays[i]
		}
	}
	if added == 0 || paid == 0 {
		t.Errorf("in all %d was added, and %d was paid", added, paid)
	}
}

func TestP92MoreBiddersForPairsAreDearer(t *testing.T) {
	least, most := 0, 0
	// cheaper returns how many of the prices are less than the others, and fails if one is more.
	cheaper := func(name string, rows [][]int, of func(rows [][]int) []int) int {
		p, q := of(rows[:len(rows)-1]), of(rows)
		if len(p) != len(rows[0]) || len(q) != len(rows[0]) || !slices.Equal(bothOf(p, q, greaterOf), q) {
			t.Fatalf("%s(%v) = %v, but %v without the last bidder", name, rows, q, p)
		}
		less := 0
		for thing := range p {
			if p[thing] < q[thing] {
				less++
			}
		}
		return less
	}
	for _, rows := range someMarkets() {
		if len(rows) > 1 {
			least += cheaper("PairPrices", rows, impl.PairPrices)
			most += cheaper("MostPairPrices", rows, impl.MostPairPrices)
		}
	}
	if least == 0 || most == 0 {
		t.Errorf("with the last bidder %d of the least prices, and %d of the most ones, were more", least, most)
	}
}

// callPairs calls all functions of the chapter.
func callPairs(rows [][]int, p []int) {
	impl.ValidRows(rows)
	impl.BestPairs(rows)
	impl.PairPrices(rows)
	impl.PairPays(rows)
	impl.GoWithPairs(rows, p)
	impl.MostPairPrices(rows)
}

func TestPairsKeepArguments(t *testing.T) {
	markets := append(wrongMarkets(), wideMarkets()...)
	for _, c := range toldMarkets() {
		markets = append(markets, c.rows)
	}
	for _, rows := range markets {
		lists := [][]int{nil, {0}, {5, 3}, {1, 0, 41}, {40, 40, 40, 40}, {0, 0, 0, 0, 0}}
		if impl.ValidRows(rows) {
			lists = append(lists, impl.PairPrices(rows), impl.MostPairPrices(rows))
		}
		for _, list := range lists {
			r, p := roomyRows(rows), roomy(list)
			callPairs(r, p)
			if !roomyRowsAreKept(r, rows) || !roomyIsKept(p, list) {
				t.Fatalf("the rows %v and the prices %v become %v and %v", rows, list, r, p)
			}
		}
	}
}

func TestPairsOfArgumentsInTheSameMemory(t *testing.T) {
	own := roomy([]int{5, 5, 2})
	rows := [][]int{own, own, own}
	for range 2 {
		callPairs(rows, own)
		if !roomyIsKept(own, []int{5, 5, 2}) || !sameRows(rows, [][]int{own, own, own}) {
			t.Fatalf("rows and prices in the same memory become %v", rows)
		}
		// At these prices nothing is left of any thing, so that none is as good.
		if !slices.Equal(impl.PairPrices(rows), []int{3, 3, 0}) || !impl.GoWithPairs(rows, own) {
			t.Fatalf("of %v PairPrices is %v, and GoWithPairs of %v is %v", rows, impl.PairPrices(rows), own, impl.GoWithPairs(rows, own))
		}
	}
}

func TestPairsShareNoMemory(t *testing.T) {
	best := func(rows [][]int) []int {
		things, _ := impl.BestPairs(rows)
		return things
	}
	wantBestOf := func(rows [][]int) []int {
		things, _ := wantPairs(rows)
		return things
	}
	lists := []listMaker{
		{"BestPairs", best, wantBestOf}, {"PairPrices", impl.PairPrices, wantPairPrices}, {"PairPays", impl.PairPays, wantPairPays}, {"MostPairPrices", impl.MostPairPrices, wantMostPairs},
	}
	for _, c := range toldMarkets() {
		checkListsApart(t, lists, c.rows)
	}
}

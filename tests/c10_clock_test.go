package tests

import (
	"math"
	"runtime"
	"slices"
	"sync"
	"testing"
	"time"

	"loop.example/salesbybids/impl"
)

// manyOver is how many of the numbers are greater than a price.
func manyOver(numbers []int, price int) int {
	return len(slices.DeleteFunc(slices.Clone(numbers), func(x int) bool { return x <= price }))
}

// wantClock is what the document says of ClockUnits.
func wantClock(rows [][]int, k int) (int, []int) {
	price := 0
	for manyOver(slices.Concat(rows...), price) > k {
		price++
	}
	wants := make([]int, len(rows))
	for i, r := range rows {
		wants[i] = manyOver(r, price)
	}
	return price, wants
}

// wantClinch is what the document says of ClinchPays: for each unit that is had, one by one, the least price at which so many are sure.
func wantClinch(rows [][]int, k int) []int {
	has, pays := wantAward(rows, k), make([]int, len(rows))
	for i := range rows {
		theirs := slices.Concat(others(rows, i)...)
		for unit := range has[i] {
			price := 0
			for k-manyOver(theirs, price) < unit+1 {
				price++
			}
			pays[i] += price
		}
	}
	return pays
}

// Sides are the numbers of the buyers, and those of the sellers.
type sides struct{ buyers, sellers []int }

// allSides are all sides of n buyers and m sellers with the numbers.
func allSides(n, m int, numbers ...int) []sides {
	var all []sides
	for _, buyers := range listsOf(n, numbers...) {
		for _, sellers := range listsOf(m, numbers...) {
			all = append(all, sides{buyers, sellers})
		}
	}
	return all
}

// longSides are sides of more buyers, or sellers, than are gone through: as many as there may be, on both sides or on one of them, and both with the same numbers.
func longSides() []sides {
	lists := [][]int{
		{0, 0, 0, 0, 0, 0}, {30, 30, 30, 30, 30, 30}, {7, 7, 7, 7, 7, 7}, {0, 30, 0, 30, 0, 30}, {5, 4, 3, 2, 1, 0}, {0, 6, 12, 18, 24, 30},
		{11, 19, 4, 19, 18, 19}, {8, 7, 8, 7, 8, 7}, {29, 1, 15, 14, 16, 15}, {9, 4, 7, 2, 8}, {3, 3, 3, 9, 9}, {2, 8, 5, 6}, {0}, {7}, {30},
	}
	var all []sides
	for _, buyers := range lists {
		for _, sellers := range lists {
			all = append(all, sides{buyers, sellers})
		}
	}
	return all
}

// someSides are sides of one up to three buyers and sellers with few numbers, among them both ends of the range, and the longSides.
func someSides() []sides {
	all := append(allSides(1, 1, upTo(impl.MaxBid)...), allSides(2, 2, 0, 7, 8, 9, 30)...)
	all = append(all, append(allSides(1, 2, 0, 1, 7, 29, 30), allSides(2, 1, 0, 1, 7, 29, 30)...)...)
	all = append(all, append(allSides(3, 2, 0, 7, 8, 30), allSides(2, 3, 0, 7, 8, 30)...)...)
	return append(append(all, allSides(3, 3, 0, 8, 9)...), longSides()...)
}

// bothSums are the sums of all sets of the numbers, for each number of them the one that is first by the order.
func bothSums(numbers []int, first func(x, y int) int) []int {
	sums := make([]int, len(numbers)+1)
	seen := make([]bool, len(numbers)+1)
	for set := range 1 << len(numbers) {
		many, s := 0, 0
		for i, x := range numbers {
			many += set >> i & 1
			s += x * (set >> i & 1)
		}
		if seen[many] {
			s = first(sums[many], s)
		}
		sums[many], seen[many] = s, true
	}
	return sums
}

// wantTrades is what the document says of TradesOf: of as many buyers as sellers, all sets tried, those with the greatest gain, and the most of several.
func wantTrades(s sides) (int, int) {
	buy, sell := bothSums(s.buyers, greaterOf), bothSums(s.sellers, lesserOf)
	trades, gain := 0, 0
	for n := range min(len(buy), len(sell)) {
		if buy[n]-sell[n] >= gain {
			trades, gain = n, buy[n]-sell[n]
		}
	}
	return trades, gain
}

// bySizesOf are the numbers of the buyers, the greatest one first, and those of the sellers, the least one first.
func bySizesOf(s sides) ([]int, []int) {
	sell := bySizes([][]int{s.sellers})
	slices.Reverse(sell)
	return bySizes([][]int{s.buyers}), sell
}

// wantRange is what the document says of TradeRange, told by the last numbers that trade and the first ones that do not.
func wantRange(s sides) (int, int) {
	trades, _ := wantTrades(s)
	buy, sell := bySizesOf(s)
	least, most := 0, impl.MaxBid
	if trades > 0 {
		least, most = sell[trades-1], buy[trades-1]
	}
	if trades < len(buy) {
		least = max(least, buy[trades])
	}
	if trades < len(sell) {
		most = min(most, sell[trades])
	}
	return least, most
}

// wantTradeLess is what the document says of TradeLess.
func wantTradeLess(s sides) (int, int, int) {
	trades, _ := wantTrades(s)
	if trades == 0 {
		return 0, 0, 0
	}
	buy, sell := bySizesOf(s)
	return trades - 1, buy[trades-1], sell[trades-1]
}

// wantTradeGain is what the document says of TradeGain: those who trade are taken out one by one, the first one with the greatest number each time.
func wantTradeGain(s sides, i, told int) int {
	said := sides{with(s.buyers, i, told), s.sellers}
	trades, pays, _ := wantTradeLess(said)
	for range trades {
		at := slices.Index(said.buyers, slices.Max(said.buyers))
		if at == i {
			return s.buyers[i] - pays
		}
		said.buyers = with(said.buyers, at, -1)
	}
	return 0
}

// exchanged are sides with buyers as sellers and sellers as buyers, all numbers taken from the greatest.
func exchanged(s sides) sides {
	taken := func(numbers []int) []int {
		var list []int
		for _, x := range numbers {
			list = append(list, impl.MaxBid-x)
		}
		return list
	}
	return sides{taken(s.sellers), taken(s.buyers)}
}

// toldNumbers are numbers that are told in place of others: both ends of the range, and all at or next to one of the sides.
func toldNumbers(s sides) []int {
	told := []int{0, impl.MaxBid}
	for _, x := range slices.Concat(s.buyers, s.sellers) {
		told = append(told, x, max(x-1, 0), min(x+1, impl.MaxBid))
	}
	slices.Sort(told)
	return slices.Compact(told)
}

func TestClockLimits(t *testing.T) {
	if impl.MaxBid != 30 || impl.MaxBidders != 6 || impl.MaxUnits != 5 || impl.MaxCrowd != 4 {
		t.Error("limits are not those of the document")
	}
}

func TestClockUnits(t *testing.T) {
	for _, c := range []struct {
		rows     [][]int
		k, price int
		wants    []int
	}{
		// Bidders without numbers want nothing.
		{[][]int{nil}, 0, 0, []int{0}}, {[][]int{nil}, 5, 0, []int{0}}, {[][]int{nil, nil, nil, nil}, 0, 0, []int{0, 0, 0, 0}}, {[][]int{nil, {5}}, 0, 5, []int{0, 0}},
		// No units: the price is the greatest number.
		{[][]int{{0}}, 0, 0, []int{0}}, {[][]int{{1}}, 0, 1, []int{0}}, {[][]int{{30}}, 0, 30, []int{0}}, {[][]int{{9, 5}, {8, 7, 2}, {6}}, 0, 9, []int{0, 0, 0}}, {[][]int{{30, 30}, {30}}, 0, 30, []int{0, 0}},
		// Units for all: the price is 0, at which no number of 0 is wanted.
		{[][]int{{5}}, 1, 0, []int{1}}, {[][]int{{5}}, 5, 0, []int{1}}, {[][]int{{0}}, 5, 0, []int{0}}, {[][]int{{4, 0}, {0, 0}}, 5, 0, []int{1, 0}}, {[][]int{{4, 0}, {0, 0}}, 1, 0, []int{1, 0}}, {[][]int{{30, 30, 30, 30, 30}}, 5, 0, []int{5}}, {[][]int{{3, 2}, {1, 1}, {9}}, 5, 0, []int{2, 2, 1}},
		{[][]int{{9, 5}, {8, 7, 2}, {6}}, 1, 8, []int{1, 0, 0}}, {[][]int{{9, 5}, {8, 7, 2}, {6}}, 2, 7, []int{1, 1, 0}}, {[][]int{{9, 5}, {8, 7, 2}, {6}}, 3, 6, []int{1, 2, 0}}, {[][]int{{9, 5}, {8, 7, 2}, {6}}, 5, 2, []int{2, 2, 1}},
		// Numbers that are the same are wanted all or not at all, so that fewer may be wanted than there are units.
		{[][]int{{5}, {5}}, 1, 5, []int{0, 0}}, {[][]int{{5}, {5}}, 2, 0, []int{1, 1}}, {[][]int{{7, 7}, {7}, {9}}, 2, 7, []int{0, 0, 1}}, {[][]int{{7, 7}, {7}, {9}}, 3, 7, []int{0, 0, 1}}, {[][]int{{7, 7}, {7}, {9}}, 4, 0, []int{2, 1, 1}}, {[][]int{{30, 30, 30, 30, 30}, {30}}, 5, 30, []int{0, 0}},
		// Both ends of the range, and as many bidders, numbers and units as there may be.
		{[][]int{{30, 0}, {0}}, 1, 0, []int{1, 0}}, {[][]int{{30, 1}, {0}}, 1, 1, []int{1, 0}}, {[][]int{{30}, {29}}, 1, 29, []int{1, 0}}, {[][]int{{1, 1, 1, 1, 1}, {30, 24, 13, 2, 0}, {30, 13, 13, 13, 1}, nil}, 5, 13, []int{0, 2, 1, 0}}, {[][]int{{20, 10, 5, 2, 1}, {19, 11, 6, 3, 0}, {18, 12, 7, 4, 2}, {17, 13, 8, 5, 3}}, 5, 12, []int{1, 1, 1, 2}},
	} {
		if price, wants := impl.ClockUnits(c.rows, c.k); price != c.price || !slices.Equal(wants, c.wants) {
			t.Errorf("ClockUnits(%v, %d) = %d, %v, want %d, %v", c.rows, c.k, price, wants, c.price, c.wants)
		}
	}
	for _, rows := range someDemands() {
		for _, k := range allUnits {
			wantPrice, want := wantClock(rows, k)
			if price, wants := impl.ClockUnits(rows, k); price != wantPrice || !slices.Equal(wants, want) {
				t.Fatalf("ClockUnits(%v, %d) = %d, %v, want %d, %v", rows, k, price, wants, wantPrice, want)
			}
		}
	}
}

func TestClinchPays(t *testing.T) {
	for _, c := range []struct {
		rows [][]int
		k    int
		pays []int
	}{
		// Bidders without numbers, no units, and one bidder.
		{[][]int{nil}, 0, []int{0}}, {[][]int{nil}, 5, []int{0}}, {[][]int{nil, {7}}, 1, []int{0, 0}}, {[][]int{{30, 30}, {30}}, 0, []int{0, 0}}, {[][]int{{30}}, 1, []int{0}}, {[][]int{{30, 20, 10}}, 2, []int{0}}, {[][]int{{0}}, 5, []int{0}},
		// Units for all.
		{[][]int{{5}, {5}}, 2, []int{0, 0}}, {[][]int{{9, 8, 7}, {6}}, 4, []int{0, 0}}, {[][]int{{3, 2}, {1, 1}, {9}}, 5, []int{0, 0, 0}},
		// Numbers that are the same: what no one wants any more is sure to who has it.
		{[][]int{{5}, {5}}, 1, []int{5, 0}}, {[][]int{{5, 5}, {5}}, 2, []int{5, 0}}, {[][]int{{5, 5}, {5, 5}}, 2, []int{10, 0}}, {[][]int{{5}, {5}, {5}}, 2, []int{5, 5, 0}}, {[][]int{{30, 30, 30, 30, 30}, {30}}, 5, []int{30, 0}}, {[][]int{{0}, {0}}, 1, []int{0, 0}},
		// Some units are sure at a lesser price than others.
		{[][]int{{9, 5}, {8, 7, 2}, {6}}, 1, []int{8, 0, 0}}, {[][]int{{9, 5}, {8, 7, 2}, {6}}, 2, []int{7, 6, 0}}, {[][]int{{9, 5}, {8, 7, 2}, {6}}, 3, []int{6, 11, 0}}, {[][]int{{9, 5}, {8, 7, 2}, {6}}, 5, []int{2, 0, 2}},
		{[][]int{{9, 8, 7}, {6}}, 3, []int{6, 0}}, {[][]int{{9, 8}, {6, 1}, nil}, 3, []int{1, 0, 0}}, {[][]int{{30, 30, 30, 30, 30}, {29, 28, 27, 26, 25}}, 5, []int{135, 0}}, {[][]int{{30, 30, 30, 30, 30}, {30, 20, 10, 0, 0}}, 5, []int{60, 0}}, {[][]int{{5, 4, 3, 2, 1}, {30}, {29}, {28}}, 5, []int{0, 3, 3, 3}},
	} {
		if pays := impl.ClinchPays(c.rows, c.k); !slices.Equal(pays, c.pays) {
			t.Errorf("ClinchPays(%v, %d) = %v, want %v", c.rows, c.k, pays, c.pays)
		}
	}
	for _, rows := range someDemands() {
		for _, k := range allUnits {
			if pays := impl.ClinchPays(rows, k); !slices.Equal(pays, wantClinch(rows, k)) {
				t.Fatalf("ClinchPays(%v, %d) = %v, want %v", rows, k, pays, wantClinch(rows, k))
			}
		}
	}
}

func TestClocksOthers(t *testing.T) {
	eachWrongUnits(func(rows [][]int, k int) {
		if price, wants := impl.ClockUnits(rows, k); price != -1 || wants != nil {
			t.Errorf("ClockUnits(%v, %d) = %d, %v", rows, k, price, wants)
		}
		if pays := impl.ClinchPays(rows, k); pays != nil {
			t.Errorf("ClinchPays(%v, %d) = %v", rows, k, pays)
		}
	})
}

func TestTrades(t *testing.T) {
	for _, c := range []struct {
		sides
		trades, gain       int
		least, most        int
		fewer, paid, asked int
	}{
		// No trades: all prices from that of the buyers up to that of the sellers.
		{sides{[]int{0}, []int{30}}, 0, 0, 0, 30, 0, 0, 0}, {sides{[]int{1}, []int{2}}, 0, 0, 1, 2, 0, 0, 0}, {sides{[]int{1}, []int{5}}, 0, 0, 1, 5, 0, 0, 0}, {sides{[]int{29}, []int{30}}, 0, 0, 29, 30, 0, 0, 0}, {sides{[]int{0, 0, 0}, []int{1}}, 0, 0, 0, 1, 0, 0, 0}, {sides{[]int{3, 7, 5}, []int{12, 8, 8, 30}}, 0, 0, 7, 8, 0, 0, 0},
		// One trade, of one buyer and one seller: all prices between both, and just one if they have the same number.
		{sides{[]int{30}, []int{0}}, 1, 30, 0, 30, 0, 30, 0}, {sides{[]int{5}, []int{2}}, 1, 3, 2, 5, 0, 5, 2}, {sides{[]int{7}, []int{7}}, 1, 0, 7, 7, 0, 7, 7}, {sides{[]int{0}, []int{0}}, 1, 0, 0, 0, 0, 0, 0}, {sides{[]int{30}, []int{30}}, 1, 0, 30, 30, 0, 30, 30},
		// One trade, of more on one side or both: those who do not trade are at neither side of the price.
		{sides{[]int{5, 9}, []int{2}}, 1, 7, 5, 9, 0, 9, 2}, {sides{[]int{5}, []int{4, 2}}, 1, 3, 2, 4, 0, 5, 2}, {sides{[]int{5, 1}, []int{2, 8}}, 1, 3, 2, 5, 0, 5, 2}, {sides{[]int{9, 3}, []int{4, 1}}, 1, 8, 3, 4, 0, 9, 1}, {sides{[]int{9, 9, 9}, []int{9}}, 1, 0, 9, 9, 0, 9, 9}, {sides{[]int{9, 9, 9}, []int{1}}, 1, 8, 9, 9, 0, 9, 1}, {sides{[]int{9}, []int{1, 1}}, 1, 8, 1, 1, 0, 9, 1},
		{sides{[]int{9, 4, 7}, []int{2, 8, 5, 6}}, 2, 9, 5, 6, 1, 7, 5}, {sides{[]int{9, 8, 7}, []int{2, 8, 5, 6}}, 3, 11, 6, 7, 2, 7, 6}, {sides{[]int{4, 4}, []int{4, 4}}, 2, 0, 4, 4, 1, 4, 4}, {sides{[]int{5, 4}, []int{4, 5}}, 1, 1, 4, 5, 0, 5, 4}, {sides{[]int{30, 30}, []int{0, 0}}, 2, 60, 0, 30, 1, 30, 0},
		// Buyers and sellers with the same numbers, and as many as there may be.
		{sides{[]int{0, 1, 2, 3, 4, 5}, []int{0, 1, 2, 3, 4, 5}}, 3, 9, 2, 3, 2, 3, 2}, {sides{[]int{1, 2, 3}, []int{3, 2, 1}}, 2, 2, 2, 2, 1, 2, 2},
		{sides{[]int{7, 7, 7, 7, 7, 7}, []int{7, 7, 7, 7, 7, 7}}, 6, 0, 7, 7, 5, 7, 7}, {sides{[]int{30, 30, 30, 30, 30, 30}, []int{0, 0, 0, 0, 0, 0}}, 6, 180, 0, 30, 5, 30, 0}, {sides{[]int{0, 0, 0, 0, 0, 0}, []int{30, 30, 30, 30, 30, 30}}, 0, 0, 0, 30, 0, 0, 0}, {sides{[]int{30, 25, 20, 15, 10, 5}, []int{5, 10, 15, 20, 25, 30}}, 3, 45, 15, 20, 2, 20, 15}, {sides{[]int{9}, []int{9, 8, 7, 6, 5, 4}}, 1, 5, 4, 5, 0, 9, 4},
	} {
		if n, gain := impl.TradesOf(c.buyers, c.sellers); n != c.trades || gain != c.gain {
			t.Errorf("TradesOf(%v, %v) = %d, %d, want %d, %d", c.buyers, c.sellers, n, gain, c.trades, c.gain)
		}
		if least, most := impl.TradeRange(c.buyers, c.sellers); least != c.least || most != c.most {
			t.Errorf("TradeRange(%v, %v) = %d, %d, want %d, %d", c.buyers, c.sellers, least, most, c.least, c.most)
		}
		if n, paid, asked := impl.TradeLess(c.buyers, c.sellers); n != c.fewer || paid != c.paid || asked != c.asked {
			t.Errorf("TradeLess(%v, %v) = %d, %d, %d, want %d, %d, %d", c.buyers, c.sellers, n, paid, asked, c.fewer, c.paid, c.asked)
		}
	}
}

func TestTradesOfAllKinds(t *testing.T) {
	for _, s := range someSides() {
		trades, gain := wantTrades(s)
		if n, g := impl.TradesOf(s.buyers, s.sellers); n != trades || g != gain {
			t.Fatalf("TradesOf(%v, %v) = %d, %d, want %d, %d", s.buyers, s.sellers, n, g, trades, gain)
		}
		least, most := wantRange(s)
		if a, b := impl.TradeRange(s.buyers, s.sellers); a != least || b != most {
			t.Fatalf("TradeRange(%v, %v) = %d, %d, want %d, %d", s.buyers, s.sellers, a, b, least, most)
		}
		fewer, paid, had := wantTradeLess(s)
		if n, p, h := impl.TradeLess(s.buyers, s.sellers); n != fewer || p != paid || h != had {
			t.Fatalf("TradeLess(%v, %v) = %d, %d, %d, want %d, %d, %d", s.buyers, s.sellers, n, p, h, fewer, paid, had)
		}
	}
}

func TestTradesOthers(t *testing.T) {
	refused := func(buyers, sellers []int) {
		t.Helper()
		if n, gain := impl.TradesOf(buyers, sellers); n != -1 || gain != -1 {
			t.Errorf("TradesOf(%v, %v) = %d, %d", buyers, sellers, n, gain)
		}
		if least, most := impl.TradeRange(buyers, sellers); least != -1 || most != -1 {
			t.Errorf("TradeRange(%v, %v) = %d, %d", buyers, sellers, least, most)
		}
		if n, paid, had := impl.TradeLess(buyers, sellers); n != -1 || paid != -1 || had != -1 {
			t.Errorf("TradeLess(%v, %v) = %d, %d, %d", buyers, sellers, n, paid, had)
		}
	}
	for _, wrong := range wrongBids() {
		for _, right := range [][]int{{0}, {30}, {7, 7}, {9, 4, 7}, {5, 4, 3, 2, 1, 0}} {
			refused(wrong, right)
			refused(right, wrong)
		}
		refused(wrong, wrong)
	}
}

func TestTradeGain(t *testing.T) {
	buyers, sellers := []int{9, 4, 7}, []int{2, 8, 5, 6}
	for _, c := range []struct {
		sides
		i, told, want int
	}{
		{sides{buyers, sellers}, 0, 9, 2}, {sides{buyers, sellers}, 0, 30, 2}, {sides{buyers, sellers}, 0, 8, 2}, {sides{buyers, sellers}, 0, 6, 0}, {sides{buyers, sellers}, 0, 0, 0}, {sides{buyers, sellers}, 2, 7, 0}, {sides{buyers, sellers}, 2, 30, -2}, {sides{buyers, sellers}, 1, 4, 0}, {sides{buyers, sellers}, 1, 8, -3},
		// Numbers that are the same: the first buyers trade.
		{sides{buyers, sellers}, 0, 7, 2}, {sides{buyers, sellers}, 2, 9, 0}, {sides{[]int{5, 5}, []int{1, 2}}, 0, 5, 0}, {sides{[]int{9, 5}, []int{1, 2}}, 0, 5, 4}, {sides{[]int{5, 9}, []int{1, 2}}, 1, 5, 0}, {sides{[]int{5, 9}, []int{1, 2}}, 1, 6, 4}, {sides{[]int{5, 6, 5, 9}, []int{1, 2, 3}}, 3, 5, 0}, {sides{[]int{5, 6, 5, 9}, []int{1, 2, 3}}, 0, 5, 0}, {sides{[]int{8, 6, 5, 9}, []int{1, 2, 3}}, 0, 6, 2},
		// No trades, and one, of which none is left.
		{sides{[]int{1}, []int{5}}, 0, 1, 0}, {sides{[]int{1}, []int{5}}, 0, 30, 0}, {sides{[]int{30}, []int{0}}, 0, 30, 0}, {sides{[]int{30}, []int{0}}, 0, 0, 0}, {sides{[]int{9, 8}, []int{1}}, 0, 30, 0},
		// One more trade by the number told, and one fewer.
		{sides{[]int{1, 9}, []int{5, 6}}, 0, 1, 0}, {sides{[]int{1, 9}, []int{5, 6}}, 1, 9, 0}, {sides{[]int{1, 9}, []int{5, 6}}, 0, 10, -8}, {sides{[]int{1, 9}, []int{5, 6}}, 0, 8, 0}, {sides{[]int{7, 9}, []int{5, 6}}, 1, 9, 2}, {sides{[]int{7, 9}, []int{5, 6}}, 1, 5, 0},
		// As many as there may be, and both ends of the range.
		{sides{[]int{30, 30, 30, 30, 30, 30}, []int{0, 0, 0, 0, 0, 0}}, 5, 30, 0}, {sides{[]int{30, 30, 30, 30, 30, 30}, []int{0, 0, 0, 0, 0, 0}}, 5, 0, 0}, {sides{[]int{30, 0, 0, 0, 0, 0}, []int{0, 0, 0, 0, 0, 0}}, 0, 30, 30}, {sides{[]int{30, 0, 0, 0, 0, 0}, []int{0, 0, 0, 0, 0, 0}}, 0, 0, 30}, {sides{[]int{0, 0, 0, 0, 0, 30}, []int{0, 0, 0, 0, 0, 0}}, 5, 0, 0}, {sides{[]int{0, 0, 0, 0, 0, 30}, []int{0, 0, 0, 0, 0, 0}}, 5, 1, 30}, {sides{[]int{0, 29, 30}, []int{0, 1, 30}}, 0, 30, -30}, {sides{[]int{0, 29, 28}, []int{0, 1, 30}}, 0, 30, -29},
	} {
		if g, ok := impl.TradeGain(c.buyers, c.sellers, c.i, c.told); g != c.want || !ok {
			t.Errorf("TradeGain(%v, %v, %d, %d) = %d, %v, want %d", c.buyers, c.sellers, c.i, c.told, g, ok, c.want)
		}
	}
	for _, s := range someSides() {
		for i := range s.buyers {
			for _, told := range toldNumbers(s) {
				want := wantTradeGain(s, i, told)
				if g, ok := impl.TradeGain(s.buyers, s.sellers, i, told); g != want || !ok {
					t.Fatalf("TradeGain(%v, %v, %d, %d) = %d, %v, want %d", s.buyers, s.sellers, i, told, g, ok, want)
				}
			}
		}
	}
}

func TestTradeGainOthers(t *testing.T) {
	refused := func(buyers, sellers []int, i, told int) {
		t.Helper()
		if g, ok := impl.TradeGain(buyers, sellers, i, told); g != 0 || ok {
			t.Errorf("TradeGain(%v, %v, %d, %d) = %d, %v", buyers, sellers, i, told, g, ok)
		}
	}
	for _, wrong := range wrongBids() {
		// The own number is to be valid, too, though another one is told.
		for _, i := range []int{0, 1, len(wrong) - 1} {
			refused(wrong, []int{2, 5}, i, 7)
			refused(wrong, wrong, i, 7)
		}
		refused([]int{9, 7}, wrong, 0, 9)
		refused([]int{9, 7}, wrong, 1, 0)
	}
	for n := 1; n <= impl.MaxBidders; n++ {
		buyers := slices.Repeat([]int{9}, n)
		for _, i := range []int{-1, n, n + 1, impl.MaxBidders, -n, math.MinInt, math.MaxInt} {
			for _, told := range []int{0, 9, 30} {
				refused(buyers, []int{1, 2, 3, 4}, i, told)
			}
		}
		for _, told := range beyond {
			refused(buyers, []int{1, 2, 3, 4}, n-1, told)
			refused(buyers, []int{30}, 0, told)
		}
	}
}

func TestP20AtOnePriceNoMoreIsWanted(t *testing.T) {
	had, same := 0, 0
	for _, rows := range someDemands() {
		for _, k := range allUnits {
			price, wants := impl.ClockUnits(rows, k)
			if one := impl.OnePrice(rows, k); price != one || len(wants) != len(rows) || sum(wants) > k {
				t.Fatalf("OnePrice(%v, %d) = %d, but ClockUnits is %d, %v", rows, k, one, price, wants)
			}
			for i, units := range impl.AwardUnits(rows, k) {
				for _, x := range rows[i][:units] {
					if x < price {
						t.Fatalf("of %v, %d bidder %d has a unit worth %d, but OnePrice is %d", rows, k, i, x, price)
					}
					if x > price {
						had++
					} else {
						same++
					}
				}
			}
		}
	}
	if had == 0 || same == 0 {
		t.Errorf("%d units were worth more than the price, and %d just as much", had, same)
	}
}

func TestP21WhatIsTakenFromOthersIsWhatIsPushedOut(t *testing.T) {
	paid, less := 0, 0
	for _, rows := range someDemands() {
		for _, k := range allUnits {
			pays, pushed, clinch := impl.PivotUnits(rows, k), impl.PushedUnits(rows, k), impl.ClinchPays(rows, k)
			if len(pays) != len(rows) || !slices.Equal(pays, pushed) || !slices.Equal(pays, clinch) {
				t.Fatalf("PivotUnits(%v, %d) = %v, but PushedUnits is %v, and ClinchPays %v", rows, k, pays, pushed, clinch)
			}
			has, price, each := impl.AwardUnits(rows, k), impl.OnePrice(rows, k), impl.EachUnits(rows, k)
			for i, x := range pays {
				if x > has[i]*price || x > each[i] {
					t.Fatalf("PivotUnits(%v, %d) = %v, but OnePrice is %d of %v, and EachUnits %v", rows, k, pays, price, has, each)
				}
				if x > 0 {
					paid++
				}
				if x > 0 && x < has[i]*price {
					less++
				}
			}
		}
	}
	if paid == 0 || less == 0 {
		t.Errorf("%d bidders paid, and %d less than OnePrice for each unit", paid, less)
	}
}

func TestP60TheClockStopsInTime(t *testing.T) {
	above := 0
	for _, rows := range someDemands() {
		all := slices.Concat(rows...)
		for _, k := range allUnits {
			price, wants := impl.ClockUnits(rows, k)
			if price < 0 || price > impl.MaxBid || len(wants) != len(rows) {
				t.Fatalf("ClockUnits(%v, %d) = %d, %v", rows, k, price, wants)
			}
			for i, r := range rows {
				if wants[i] != manyOver(r, price) {
					t.Fatalf("ClockUnits(%v, %d) = %d, %v, but bidder %d wants %d", rows, k, price, wants, i, manyOver(r, price))
				}
			}
			if sum(wants) > k || price > 0 && manyOver(all, price-1) <= k {
				t.Fatalf("ClockUnits(%v, %d) = %d, %v, but 1 less %d are wanted", rows, k, price, wants, manyOver(all, price-1))
			}
			if price > 0 {
				above++
			}
		}
	}
	if above == 0 {
		t.Error("the price was always 0")
	}
}

func TestP61WhatIsSureIsPushedOut(t *testing.T) {
	paid, none := 0, 0
	for _, rows := range append(someDemands(), crowdsOf(4, [][]int{{3}, {7, 3}, {9}, {8, 2, 2}})...) {
		for _, k := range allUnits {
			pays, pushed := impl.ClinchPays(rows, k), impl.PushedUnits(rows, k)
			if len(pays) != len(rows) || !slices.Equal(pays, pushed) {
				t.Fatalf("ClinchPays(%v, %d) = %v, but PushedUnits is %v", rows, k, pays, pushed)
			}
			for i, units := range impl.AwardUnits(rows, k) {
				if units == 0 && pays[i] != 0 {
					t.Fatalf("ClinchPays(%v, %d) = %v, but bidder %d has nothing", rows, k, pays, i)
				}
				if units == 0 {
					none++
				}
			}
			paid += sum(pays)
		}
	}
	if paid == 0 || none == 0 {
		t.Errorf("%d was paid, and %d bidders had nothing", paid, none)
	}
}

func TestP62TradesAreAsManyAsAreWorthWhile(t *testing.T) {
	none, even, more := 0, 0, 0
	for _, s := range someSides() {
		trades, gain := impl.TradesOf(s.buyers, s.sellers)
		if trades < 0 || trades > len(s.buyers) || trades > len(s.sellers) || gain < 0 {
			t.Fatalf("TradesOf(%v, %v) = %d, %d", s.buyers, s.sellers, trades, gain)
		}
		e := exchanged(s)
		if n, g := impl.TradesOf(e.buyers, e.sellers); n != trades || g != gain {
			t.Fatalf("TradesOf(%v, %v) = %d, %d, but with the sides exchanged %d, %d", s.buyers, s.sellers, trades, gain, n, g)
		}
		// Worth while: by size, the last ones trade, and those behind them would not.
		buy, sell := bySizesOf(s)
		if trades > 0 && buy[trades-1] < sell[trades-1] || trades < min(len(buy), len(sell)) && buy[trades] >= sell[trades] || sum(buy[:trades])-sum(sell[:trades]) != gain {
			t.Fatalf("TradesOf(%v, %v) = %d, %d", s.buyers, s.sellers, trades, gain)
		}
		switch {
		case trades == 0:
			none++
		case gain == 0:
			even++
		case trades > 1:
			more++
		}
	}
	if none == 0 || even == 0 || more == 0 {
		t.Errorf("%d times there were no trades, %d times without gain, and %d times more than one", none, even, more)
	}
}

func TestP63AtThePricesOfTheRangeJustSoManyTrade(t *testing.T) {
	wide, left := 0, 0
	for _, s := range someSides() {
		trades, _ := impl.TradesOf(s.buyers, s.sellers)
		least, most := impl.TradeRange(s.buyers, s.sellers)
		if least < 0 || most < least || most > impl.MaxBid {
			t.Fatalf("TradeRange(%v, %v) = %d, %d", s.buyers, s.sellers, least, most)
		}
		for price := range impl.MaxBid + 1 {
			buy, may := manyOver(s.buyers, price), manyOver(s.buyers, price-1)
			sell, maySell := len(s.sellers)-manyOver(s.sellers, price-1), len(s.sellers)-manyOver(s.sellers, price)
			in := buy <= trades && sell <= trades && may >= trades && maySell >= trades
			if in != (price >= least && price <= most) {
				t.Fatalf("TradeRange(%v, %v) = %d, %d, but of %d trades at %d %d to %d are to be bought, and %d to %d sold", s.buyers, s.sellers, least, most, trades, price, buy, may, sell, maySell)
			}
			if in && (may > trades || maySell > trades) {
				left++
			}
		}
		if least < most {
			wide++
		}
	}
	if wide == 0 || left == 0 {
		t.Errorf("%d ranges had more than one price, and %d times more might trade", wide, left)
	}
}

func TestP64OneTradeFewerPaysForItself(t *testing.T) {
	at, beyondIt := 0, 0
	for _, s := range someSides() {
		trades, _ := impl.TradesOf(s.buyers, s.sellers)
		fewer, paid, had := impl.TradeLess(s.buyers, s.sellers)
		if trades == 0 {
			// There is no last trade of which a number could be told.
			if fewer != 0 || paid != 0 || had != 0 {
				t.Fatalf("TradeLess(%v, %v) = %d, %d, %d", s.buyers, s.sellers, fewer, paid, had)
			}
			continue
		}
		least, most := impl.TradeRange(s.buyers, s.sellers)
		if fewer != trades-1 || paid < had || paid < most || had > least {
			t.Fatalf("TradeLess(%v, %v) = %d, %d, %d, but of %d trades TradeRange is %d, %d", s.buyers, s.sellers, fewer, paid, had, trades, least, most)
		}
		if paid == most && had == least {
			at++
		} else {
			beyondIt++
		}
	}
	if at == 0 || beyondIt == 0 {
		t.Errorf("numbers were %d times at the ends of the range, and %d times beyond", at, beyondIt)
	}
}

// checkTruth fails if a buyer of the sides has more by another number than by the own one, and returns how often less is had.
func checkTruth(t *testing.T, s sides, told []int) int {
	t.Helper()
	less := 0
	for i, x := range s.buyers {
		own, ok := impl.TradeGain(s.buyers, s.sellers, i, x)
		if !ok || own < 0 {
			t.Fatalf("TradeGain(%v, %v, %d, %d) = %d, %v", s.buyers, s.sellers, i, x, own, ok)
		}
		for _, other := range told {
			g, ok := impl.TradeGain(s.buyers, s.sellers, i, other)
			if !ok || g > own {
				t.Fatalf("TradeGain(%v, %v, %d, %d) = %d, %v, but of the own number %d", s.buyers, s.sellers, i, other, g, ok, own)
			}
			if g < own {
				less++
			}
		}
	}
	return less
}

func TestP65TruthIsBestWithOneTradeFewer(t *testing.T) {
	less := 0
	for _, s := range someSides() {
		less += checkTruth(t, s, toldNumbers(s))
	}
	for _, s := range longSides() {
		less += checkTruth(t, s, upTo(impl.MaxBid))
	}
	if less == 0 {
		t.Error("no other number was worse than the own one")
	}
}

func TestP93SellersTellTheTruthToo(t *testing.T) {
	less, had := 0, 0
	for _, s := range someSides() {
		e := exchanged(s)
		less += checkTruth(t, e, toldNumbers(e))
		// What a seller has is what all who sell have, more than the own number.
		fewer, paid, asked := impl.TradeLess(s.buyers, s.sellers)
		_, sell := bySizesOf(s)
		for i, x := range s.sellers {
			g, ok := impl.TradeGain(e.buyers, e.sellers, i, impl.MaxBid-x)
			want := 0
			if ahead := slices.Index(sell, x) + len(slices.DeleteFunc(slices.Clone(s.sellers[:i]), func(y int) bool { return y != x })); ahead < fewer {
				want = asked - x
			}
			if !ok || g != want {
				t.Fatalf("TradeGain(%v, %v, %d, %d) = %d, %v, but TradeLess with the sides exchanged is %d, %d, %d", e.buyers, e.sellers, i, impl.MaxBid-x, g, ok, fewer, paid, asked)
			}
			had += g
		}
	}
	for _, s := range longSides() {
		less += checkTruth(t, exchanged(s), upTo(impl.MaxBid))
	}
	if less == 0 || had == 0 {
		t.Errorf("other numbers were worse than the own one %d times, and sellers had %d in all", less, had)
	}
}

// callClocks calls all functions of the chapter.
func callClocks(rows [][]int, k int, s sides, i, told int) {
	impl.ClockUnits(rows, k)
	impl.ClinchPays(rows, k)
	impl.TradesOf(s.buyers, s.sellers)
	impl.TradeRange(s.buyers, s.sellers)
	impl.TradeLess(s.buyers, s.sellers)
	impl.TradeGain(s.buyers, s.sellers, i, told)
}

func TestClocksKeepArguments(t *testing.T) {
	demands := [][][]int{
		{{4}}, {nil, {3, 2}}, {{9, 5}, {8, 7, 2}, {6}}, {{1, 1}, {2, 2}, {3, 3}, {4, 4}}, {{5, 4, 3, 2, 1}, {30}, {29}, {28}},
		nil, {{1}, {1}, {1}, {1}, {1}}, {{9, 8}, {1, 2}}, {{31, 5}, {8}}, {{9, 8, 7, 6, 5, 4}, {7}},
	}
	for _, rows := range demands {
		for k := -1; k <= impl.MaxUnits+1; k++ {
			r := roomyRows(rows)
			callClocks(r, k, sides{[]int{1}, []int{1}}, 0, 0)
			if !roomyRowsAreKept(r, rows) {
				t.Fatalf("by %d units the rows %v become %v", k, rows, r)
			}
		}
	}
	some := append(longSides(), sides{[]int{9, 4, 7}, []int{2, 8, 5, 6}}, sides{[]int{1, 2, 3}, []int{3, 2, 1}})
	for _, wrong := range wrongBids() {
		some = append(some, sides{wrong, []int{2, 8, 5}}, sides{[]int{4, 9, 7}, wrong})
	}
	for _, s := range some {
		for i := -1; i <= min(len(s.buyers), impl.MaxBidders); i++ {
			for _, told := range []int{-1, 0, 8, 30, 31} {
				r := sides{roomy(s.buyers), roomy(s.sellers)}
				callClocks([][]int{{1}}, 1, r, i, told)
				if !roomyIsKept(r.buyers, s.buyers) || !roomyIsKept(r.sellers, s.sellers) {
					t.Fatalf("by %d of %d the sides %v become %v", told, i, s, r)
				}
			}
		}
	}
}

func TestClocksOfArgumentsInTheSameMemory(t *testing.T) {
	own := roomy([]int{9, 7, 4})
	rows := [][]int{own, own[1:], own}
	both := sides{own, own}
	for range 2 {
		callClocks(rows, 3, both, 1, 8)
		if !roomyIsKept(own, []int{9, 7, 4}) || !sameRows(rows, [][]int{own, own[1:], own}) {
			t.Fatalf("arguments in the same memory become %v and %v", own, rows)
		}
		price, wants := impl.ClockUnits(rows, 3)
		if pays := impl.ClinchPays(rows, 3); price != 7 || !slices.Equal(wants, []int{1, 0, 1}) || !slices.Equal(pays, []int{14, 0, 7}) {
			t.Fatalf("of %v ClockUnits is %d, %v, and ClinchPays %v", rows, price, wants, pays)
		}
		trades, gain := impl.TradesOf(own, own)
		fewer, paid, had := impl.TradeLess(own, own)
		if least, most := impl.TradeRange(own, own); trades != 2 || gain != 5 || least != 7 || most != 7 || fewer != 1 || paid != 7 || had != 7 {
			t.Fatalf("of %v as both sides TradesOf is %d, %d, TradeRange %d, %d, and TradeLess %d, %d, %d", own, trades, gain, least, most, fewer, paid, had)
		}
	}
}

func TestClocksShareNoMemory(t *testing.T) {
	for _, rows := range [][][]int{{{4}}, {{5, 5}, {5}}, {{9, 5}, {8, 7, 2}, {6}}, {{1, 1}, {2, 2}, {3, 3}, {4, 4}}} {
		for _, k := range []int{0, 1, 3, 5} {
			wants := func(rows [][]int) []int {
				_, list := impl.ClockUnits(rows, k)
				return list
			}
			wantWants := func(rows [][]int) []int {
				_, list := wantClock(rows, k)
				return list
			}
			clinch := func(rows [][]int) []int { return impl.ClinchPays(rows, k) }
			wantPays := func(rows [][]int) []int { return wantClinch(rows, k) }
			checkListsApart(t, []listMaker{{"ClockUnits", wants, wantWants}, {"ClinchPays", clinch, wantPays}}, rows)
		}
	}
}

func TestClocksRunSideBySide(t *testing.T) {
	rows := [][]int{{9, 5}, {8, 7, 2}, {6}}
	var all sync.WaitGroup
	for range 20 {
		all.Go(func() {
			for range 50 {
				price, wants := impl.ClockUnits(rows, 3)
				if pays := impl.ClinchPays(rows, 3); price != 6 || !slices.Equal(wants, []int{1, 2, 0}) || !slices.Equal(pays, []int{6, 11, 0}) {
					t.Errorf("of %v ClockUnits is %d, %v, and ClinchPays %v", rows, price, wants, pays)
				}
			}
		})
	}
	all.Wait()
}

func TestClocksAreStopped(t *testing.T) {
	before := runtime.NumGoroutine()
	for _, k := range append(allUnits, wrongUnits...) {
		for range 100 {
			callClocks([][]int{{30, 5}, {8, 7, 2}, {6}}, k, sides{[]int{9}, []int{2}}, 0, 9)
		}
	}
	// Who has sent the last tick may still be about to end.
	for range 100 {
		if runtime.NumGoroutine() <= before {
			return
		}
		time.Sleep(10 * time.Millisecond)
	}
	t.Errorf("%d goroutines are left of %d", runtime.NumGoroutine(), before)
}

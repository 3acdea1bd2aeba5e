package tests

import (
	"math"
	"math/big"
	"slices"
	"testing"

	"loop.example/salesbybids/impl"
)

// allEdges are all prices and reserves of chapter 2.
var allEdges = upTo(impl.MaxValues)

// wrongEdges are numbers outside of 0..MaxValues.
var wrongEdges = []int{-1, impl.MaxValues + 1, impl.MaxBid, math.MinInt, math.MaxInt}

// wrongCrowds are numbers outside of 1..MaxFew.
var wrongCrowds = []int{0, -1, impl.MaxFew + 1, math.MinInt, math.MaxInt}

// wrongWeights are lists that are no weights.
func wrongWeights() [][]int {
	wrong := [][]int{nil, {}, {1, 1, 1, 1, 1, 1, 1}, make([]int, impl.MaxValues), make([]int, 1000)}
	for _, x := range []int{0, -1, impl.MaxWeight + 1, -impl.MaxWeight, math.MinInt, math.MaxInt} {
		wrong = append(wrong, []int{x}, []int{x, 1, 2}, []int{1, x, 2}, []int{1, 2, 3, 4, 5, x})
	}
	return wrong
}

// manyWeights are all weights of at most four values, and of five and six values those of some weights.
func manyWeights() [][]int {
	var all [][]int
	for n := 1; n <= 4; n++ {
		all = append(all, listsOf(n, 1, 2, 3, 4, 5, 6)...)
	}
	return append(append(all, listsOf(5, 1, 2, 4, 6)...), listsOf(6, 1, 3, 6)...)
}

// someWeights are fewer weights, for what goes through all values of all bidders: one value, weights that are the same, both ends, and bent ones.
func someWeights() [][]int {
	all := append(listsOf(1, 1, 2, 3, 4, 5, 6), listsOf(2, 1, 2, 5, 6)...)
	all = append(append(all, listsOf(3, 1, 4, 6)...), listsOf(4, 1, 6)...)
	for x := 1; x <= impl.MaxWeight; x++ {
		all = append(all, []int{x, x, x, x, x}, []int{x, x, x, x, x, x})
	}
	return append(all, []int{1, 4, 1, 4}, []int{1, 3, 1, 2}, []int{6, 1, 1, 1, 6}, []int{5, 4, 3, 2, 1}, []int{1, 2, 3, 4, 5, 6}, []int{6, 5, 4, 3, 2, 1}, []int{1, 6, 1, 6, 1, 6}, []int{2, 1, 6, 1, 3, 5})
}

// crowds are all numbers of bidders of chapter 2.
var crowds = []int{1, 2, 3}

// ratOf turns a fraction into a number, and fails if it is not in lowest terms with a Down of at least 1.
func ratOf(t *testing.T, f impl.Frac) *big.Rat {
	t.Helper()
	if f.Down < 1 {
		t.Fatalf("the fraction %v has no Down of at least 1", f)
	}
	r := big.NewRat(int64(f.Up), int64(f.Down))
	if r.Num().Int64() != int64(f.Up) || r.Denom().Int64() != int64(f.Down) {
		t.Fatalf("the fraction %v has a common factor", f)
	}
	return r
}

// isFrac reports whether a fraction is the number, in lowest terms.
func isFrac(f impl.Frac, r *big.Rat) bool {
	return r.Num().IsInt64() && r.Denom().IsInt64() && int64(f.Up) == r.Num().Int64() && int64(f.Down) == r.Denom().Int64()
}

// areFracs reports whether fractions are the numbers, in lowest terms.
func areFracs(list []impl.Frac, want []*big.Rat) bool {
	return slices.EqualFunc(list, want, isFrac)
}

// wantMany is how many of the weights have at least a value, counted one by one.
func wantMany(w []int, least int) int {
	many := 0
	for v, x := range w {
		for range x {
			if v >= least {
				many++
			}
		}
	}
	return many
}

// wantVirtual is what the document says of VirtualOf.
func wantVirtual(w []int) []*big.Rat {
	var virtual []*big.Rat
	for v, x := range w {
		rest := big.NewRat(int64(wantMany(w, v+1)), int64(x))
		virtual = append(virtual, rest.Sub(big.NewRat(int64(v), 1), rest))
	}
	return virtual
}

// wantHeight is the height of the least curve without hollows above the points of the revenues, at the point of a value:
// the greatest one of that point's own and of all lines between two points, one at each side of it.
func wantHeight(w []int, v int) *big.Rat {
	x := func(v int) int { return wantMany(w, v) }
	y := func(v int) int { return v * wantMany(w, v) }
	most := big.NewRat(int64(y(v)), 1)
	for a := range v {
		for b := v + 1; b <= len(w); b++ {
			up := y(b)*(x(a)-x(v)) + y(a)*(x(v)-x(b))
			if h := big.NewRat(int64(up), int64(x(a)-x(b))); h.Cmp(most) > 0 {
				most = h
			}
		}
	}
	return most
}

// wantIroned is what the document says of IronedOf, found by the heights of the curve instead of by its corners.
func wantIroned(w []int) []*big.Rat {
	var ironed []*big.Rat
	for v, x := range w {
		rise := new(big.Rat).Sub(wantHeight(w, v), wantHeight(w, v+1))
		ironed = append(ironed, rise.Quo(rise, big.NewRat(int64(x), 1)))
	}
	return ironed
}

// eachValues goes through all values of n bidders, with the product of their weights.
func eachValues(w []int, n int, visit func(values []int, ways int)) {
	for _, values := range listsOf(n, upTo(len(w)-1)...) {
		ways := 1
		for _, v := range values {
			ways *= w[v]
		}
		visit(values, ways)
	}
}

// wantEdgeRevenue is what the document says of EdgeRevenue: of two with the same value the first one has the thing, so that one behind others must go above them.
func wantEdgeRevenue(w []int, n, reserve int) int {
	sum := 0
	eachValues(w, n, func(values []int, ways int) {
		at, _ := wantSale("first", values, reserve)
		if at < 0 {
			return
		}
		least := reserve
		for j, v := range values {
			if j < at {
				least = max(least, v+1)
			} else if j > at {
				least = max(least, v)
			}
		}
		sum += least * ways
	})
	return sum
}

// wantVirtualRevenue is what the document says of VirtualRevenue.
func wantVirtualRevenue(w []int, n, reserve int) *big.Rat {
	sum, virtual := new(big.Rat), wantVirtual(w)
	eachValues(w, n, func(values []int, ways int) {
		if at, _ := wantSale("first", values, reserve); at >= 0 {
			term := big.NewRat(int64(ways), 1)
			sum.Add(sum, term.Mul(term, virtual[values[at]]))
		}
	})
	return sum
}

// wantBestRevenue is what the document says of BestRevenue.
func wantBestRevenue(w []int, n int) *big.Rat {
	sum, ironed := new(big.Rat), wantIroned(w)
	eachValues(w, n, func(values []int, ways int) {
		most := new(big.Rat)
		for _, v := range values {
			if ironed[v].Cmp(most) > 0 {
				most = ironed[v]
			}
		}
		sum.Add(sum, new(big.Rat).Mul(most, big.NewRat(int64(ways), 1)))
	})
	return sum
}

// allWays is in how many ways the values of n bidders come.
func allWays(w []int, n int) int {
	ways := 1
	for range n {
		ways *= wantMany(w, 0)
	}
	return ways
}

func TestChanceLimits(t *testing.T) {
	if impl.MaxWeight != 6 || impl.MaxValues != 6 {
		t.Error("limits are not those of the document")
	}
}

func TestValidWeights(t *testing.T) {
	for _, w := range [][]int{{1}, {6}, {1, 6}, {6, 1}, {3, 3, 3}, {1, 1, 1, 1, 1, 1}, {6, 6, 6, 6, 6, 6}, {1, 2, 3, 4, 5, 6}} {
		if !impl.ValidWeights(w) {
			t.Errorf("ValidWeights(%v) = false", w)
		}
	}
	for _, w := range wrongWeights() {
		if impl.ValidWeights(w) {
			t.Errorf("ValidWeights(%v) = true", w)
		}
	}
}

func TestP8WeightsCanBeCut(t *testing.T) {
	for _, w := range manyWeights() {
		for n := len(w); n >= 1; n-- {
			if !impl.ValidWeights(w[:n]) {
				t.Errorf("ValidWeights(%v) = false", w[:n])
			}
		}
	}
	if impl.ValidWeights([]int{3}[:0]) {
		t.Error("ValidWeights of no weights = true")
	}
}

func TestRevenueAt(t *testing.T) {
	for _, c := range []struct {
		w    []int
		want []int
	}{
		{[]int{1}, []int{0, 0, 0, 0, 0, 0, 0}},
		{[]int{6}, []int{0, 0, 0, 0, 0, 0, 0}},
		{[]int{6, 1}, []int{0, 1, 0, 0, 0, 0, 0}},
		{[]int{2, 3, 5}, []int{0, 8, 10, 0, 0, 0, 0}},
		{[]int{1, 1, 1, 1, 1, 1}, []int{0, 5, 8, 9, 8, 5, 0}},
		{[]int{6, 6, 6, 6, 6, 6}, []int{0, 30, 48, 54, 48, 30, 0}},
		{[]int{1, 2, 3, 4, 5, 6}, []int{0, 20, 36, 45, 44, 30, 0}},
	} {
		for price, want := range c.want {
			if n := impl.RevenueAt(c.w, price); n != want {
				t.Errorf("RevenueAt(%v, %d) = %d, want %d", c.w, price, n, want)
			}
		}
	}
	for _, w := range manyWeights() {
		for _, price := range allEdges {
			if n := impl.RevenueAt(w, price); n != price*wantMany(w, price) {
				t.Fatalf("RevenueAt(%v, %d) = %d, want %d", w, price, n, price*wantMany(w, price))
			}
		}
	}
}

func TestRevenueAtOthers(t *testing.T) {
	for _, w := range wrongWeights() {
		for _, price := range append(slices.Clone(wrongEdges), allEdges...) {
			if n := impl.RevenueAt(w, price); n != -1 {
				t.Errorf("RevenueAt(%v, %d) = %d", w, price, n)
			}
		}
	}
	for _, price := range wrongEdges {
		if n := impl.RevenueAt([]int{1, 2}, price); n != -1 {
			t.Errorf("RevenueAt([1 2], %d) = %d", price, n)
		}
	}
}

func TestP9RevenuesAreSumsOfVirtualValues(t *testing.T) {
	for _, w := range manyWeights() {
		virtual := impl.VirtualOf(w)
		for _, price := range allEdges {
			sum := new(big.Rat)
			for v := price; v < len(w); v++ {
				sum.Add(sum, new(big.Rat).Mul(ratOf(t, virtual[v]), big.NewRat(int64(w[v]), 1)))
			}
			if n := impl.RevenueAt(w, price); sum.Cmp(big.NewRat(int64(n), 1)) != 0 {
				t.Fatalf("RevenueAt(%v, %d) = %d, but virtual values bring in %v", w, price, n, sum)
			}
		}
	}
}

func TestBestPrice(t *testing.T) {
	for _, c := range []struct {
		w    []int
		best int
	}{
		{[]int{1}, 0}, {[]int{6}, 0}, {[]int{1, 1}, 1}, {[]int{6, 1}, 1}, {[]int{1, 2, 3}, 2}, {[]int{2, 6, 1}, 1},
		{[]int{1, 1, 1, 1, 1, 1}, 3}, {[]int{1, 4, 1, 4}, 3}, {[]int{1, 1, 1, 1, 1, 6}, 5}, {[]int{6, 6, 1, 1, 1, 1}, 1},
		// Prices that bring in the same: the least one.
		{[]int{1, 1, 1}, 1}, {[]int{3, 3, 3}, 1}, {[]int{1, 2, 2}, 1}, {[]int{1, 3, 1, 2}, 1}, {[]int{1, 1, 1, 1, 1}, 2}, {[]int{4, 4, 4, 4, 4}, 2},
	} {
		if p := impl.BestPrice(c.w); p != c.best {
			t.Errorf("BestPrice(%v) = %d, want %d", c.w, p, c.best)
		}
	}
	for _, w := range manyWeights() {
		best := 0
		for price := impl.MaxValues; price >= 0; price-- {
			if price*wantMany(w, price) >= best*wantMany(w, best) {
				best = price
			}
		}
		if p := impl.BestPrice(w); p != best {
			t.Fatalf("BestPrice(%v) = %d, want %d", w, p, best)
		}
	}
}

func TestBestPriceOthers(t *testing.T) {
	for _, w := range wrongWeights() {
		if p := impl.BestPrice(w); p != -1 {
			t.Errorf("BestPrice(%v) = %d", w, p)
		}
	}
}

func TestP10TheBestPriceIsTheLeastVirtualValueThatIsNotBelowNought(t *testing.T) {
	for _, w := range manyWeights() {
		best := impl.BestPrice(w)
		for _, price := range allEdges {
			if impl.RevenueAt(w, price) > impl.RevenueAt(w, best) {
				t.Fatalf("BestPrice(%v) = %d, but %d brings in more", w, best, price)
			}
		}
		least := slices.IndexFunc(impl.IronedOf(w), func(f impl.Frac) bool { return f.Up >= 0 })
		if least != best {
			t.Fatalf("BestPrice(%v) = %d, but the least value of %v at least 0 is %d", w, best, impl.IronedOf(w), least)
		}
	}
}

func TestVirtualOf(t *testing.T) {
	for _, c := range []struct {
		w       []int
		virtual []impl.Frac
	}{
		{[]int{1}, []impl.Frac{{Up: 0, Down: 1}}},
		{[]int{6}, []impl.Frac{{Up: 0, Down: 1}}},
		{[]int{6, 1}, []impl.Frac{{Up: -1, Down: 6}, {Up: 1, Down: 1}}},
		{[]int{6, 4}, []impl.Frac{{Up: -2, Down: 3}, {Up: 1, Down: 1}}},
		{[]int{3, 3, 3}, []impl.Frac{{Up: -2, Down: 1}, {Up: 0, Down: 1}, {Up: 2, Down: 1}}},
		{[]int{4, 6, 2}, []impl.Frac{{Up: -2, Down: 1}, {Up: 2, Down: 3}, {Up: 2, Down: 1}}},
		{[]int{6, 5, 4, 3, 2, 1}, []impl.Frac{{Up: -5, Down: 2}, {Up: -1, Down: 1}, {Up: 1, Down: 2}, {Up: 2, Down: 1}, {Up: 7, Down: 2}, {Up: 5, Down: 1}}},
		{[]int{1, 6, 6, 6, 6, 6}, []impl.Frac{{Up: -30, Down: 1}, {Up: -3, Down: 1}, {Up: -1, Down: 1}, {Up: 1, Down: 1}, {Up: 3, Down: 1}, {Up: 5, Down: 1}}},
	} {
		if virtual := impl.VirtualOf(c.w); !slices.Equal(virtual, c.virtual) {
			t.Errorf("VirtualOf(%v) = %v, want %v", c.w, virtual, c.virtual)
		}
	}
	for _, w := range manyWeights() {
		if virtual := impl.VirtualOf(w); !areFracs(virtual, wantVirtual(w)) {
			t.Fatalf("VirtualOf(%v) = %v, want %v", w, virtual, wantVirtual(w))
		}
	}
}

func TestVirtualOfAndIronedOfOthers(t *testing.T) {
	for _, w := range wrongWeights() {
		if virtual := impl.VirtualOf(w); virtual != nil {
			t.Errorf("VirtualOf(%v) = %v", w, virtual)
		}
		if ironed := impl.IronedOf(w); ironed != nil {
			t.Errorf("IronedOf(%v) = %v", w, ironed)
		}
	}
}

func TestP11VirtualValuesAreAtMostValues(t *testing.T) {
	for _, w := range manyWeights() {
		virtual := impl.VirtualOf(w)
		if len(virtual) != len(w) || virtual[len(w)-1] != (impl.Frac{Up: len(w) - 1, Down: 1}) {
			t.Fatalf("VirtualOf(%v) = %v, which does not end with the greatest value", w, virtual)
		}
		for v, f := range virtual {
			if ratOf(t, f).Cmp(big.NewRat(int64(v), 1)) > 0 {
				t.Fatalf("VirtualOf(%v) = %v, which is more than %d at it", w, virtual, v)
			}
		}
	}
}

func TestIronedOf(t *testing.T) {
	for _, c := range []struct {
		w      []int
		ironed []impl.Frac
	}{
		{[]int{1}, []impl.Frac{{Up: 0, Down: 1}}},
		{[]int{6}, []impl.Frac{{Up: 0, Down: 1}}},
		{[]int{6, 4}, []impl.Frac{{Up: -2, Down: 3}, {Up: 1, Down: 1}}},
		{[]int{2, 2, 2}, []impl.Frac{{Up: -2, Down: 1}, {Up: 0, Down: 1}, {Up: 2, Down: 1}}},
		// One hollow at 2, and one at 1 and 2.
		{[]int{1, 4, 1, 4}, []impl.Frac{{Up: -9, Down: 1}, {Up: -3, Down: 5}, {Up: -3, Down: 5}, {Up: 3, Down: 1}}},
		{[]int{6, 1, 1, 6}, []impl.Frac{{Up: -9, Down: 4}, {Up: -9, Down: 4}, {Up: -9, Down: 4}, {Up: 3, Down: 1}}},
		// Two hollows.
		{[]int{6, 1, 6, 1, 6}, []impl.Frac{{Up: -26, Down: 7}, {Up: -26, Down: 7}, {Up: 2, Down: 7}, {Up: 2, Down: 7}, {Up: 4, Down: 1}}},
		// All but the greatest value in one line, which points of the revenues lie on.
		{[]int{1, 3, 1, 2}, []impl.Frac{{Up: -6, Down: 1}, {Up: 0, Down: 1}, {Up: 0, Down: 1}, {Up: 3, Down: 1}}},
	} {
		if ironed := impl.IronedOf(c.w); !slices.Equal(ironed, c.ironed) {
			t.Errorf("IronedOf(%v) = %v, want %v", c.w, ironed, c.ironed)
		}
	}
	for _, w := range manyWeights() {
		if ironed := impl.IronedOf(w); !areFracs(ironed, wantIroned(w)) {
			t.Fatalf("IronedOf(%v) = %v, want %v", w, ironed, wantIroned(w))
		}
	}
}

func TestP12IronedValuesRise(t *testing.T) {
	for _, w := range manyWeights() {
		ironed := impl.IronedOf(w)
		if len(ironed) != len(w) {
			t.Fatalf("IronedOf(%v) = %v", w, ironed)
		}
		for v := 1; v < len(w); v++ {
			if ratOf(t, ironed[v]).Cmp(ratOf(t, ironed[v-1])) < 0 {
				t.Fatalf("IronedOf(%v) = %v, which does not rise", w, ironed)
			}
		}
		if impl.IsRegular(w) && !slices.Equal(ironed, impl.VirtualOf(w)) {
			t.Fatalf("IronedOf(%v) = %v, but VirtualOf %v is regular", w, ironed, impl.VirtualOf(w))
		}
	}
}

func TestIsRegular(t *testing.T) {
	for _, w := range [][]int{{1}, {6}, {1, 6}, {6, 1}, {4, 4, 4}, {1, 3, 1, 2}, {6, 5, 4, 3, 2, 1}, {1, 1, 1, 1, 1, 1}} {
		if !impl.IsRegular(w) {
			t.Errorf("IsRegular(%v) = false", w)
		}
	}
	for _, w := range [][]int{{1, 4, 1, 4}, {6, 1, 2}, {6, 1, 6}, {6, 1, 1, 6}, {1, 1, 1, 6, 1, 6}} {
		if impl.IsRegular(w) {
			t.Errorf("IsRegular(%v) = true", w)
		}
	}
	for _, w := range manyWeights() {
		virtual, rises := wantVirtual(w), true
		for v := 1; v < len(w); v++ {
			rises = rises && virtual[v].Cmp(virtual[v-1]) >= 0
		}
		if impl.IsRegular(w) != rises {
			t.Fatalf("IsRegular(%v) = %v, but virtual values are %v", w, !rises, virtual)
		}
	}
	for _, w := range wrongWeights() {
		if impl.IsRegular(w) {
			t.Errorf("IsRegular(%v) = true", w)
		}
	}
}

func TestP13RegularWeightsAreTheirOwnIrons(t *testing.T) {
	both := map[bool]int{}
	for _, w := range manyWeights() {
		same := slices.Equal(impl.IronedOf(w), impl.VirtualOf(w))
		if impl.IsRegular(w) != same {
			t.Fatalf("IsRegular(%v) = %v, but VirtualOf %v, IronedOf %v", w, !same, impl.VirtualOf(w), impl.IronedOf(w))
		}
		both[same]++
	}
	if both[false] == 0 || both[true] == 0 {
		t.Errorf("weights tried: %v", both)
	}
}

func TestEdgeRevenue(t *testing.T) {
	for _, c := range []struct {
		w                []int
		n, reserve, want int
	}{
		{[]int{1}, 1, 0, 0}, {[]int{6}, 3, 0, 0}, {[]int{6}, 3, 1, 0},
		{[]int{2, 3}, 1, 0, 0}, {[]int{2, 3}, 1, 1, 3}, {[]int{2, 3}, 1, 2, 0},
		// The second one must go above the first one: 1 by 0, 1 as well as by 1, 1.
		{[]int{2, 3}, 2, 0, 15}, {[]int{2, 3}, 2, 1, 21}, {[]int{2, 3}, 2, 6, 0},
		{[]int{1, 1, 1}, 2, 0, 8}, {[]int{1, 1, 1}, 2, 1, 10}, {[]int{1, 1, 1}, 2, 2, 10}, {[]int{1, 1, 1}, 2, 3, 0},
		{[]int{1, 1}, 3, 0, 6}, {[]int{1, 1}, 3, 1, 7}, {[]int{1, 1}, 3, 2, 0},
	} {
		if n := impl.EdgeRevenue(c.w, c.n, c.reserve); n != c.want {
			t.Errorf("EdgeRevenue(%v, %d, %d) = %d, want %d", c.w, c.n, c.reserve, n, c.want)
		}
	}
	for _, w := range someWeights() {
		for _, n := range crowds {
			for _, r := range allEdges {
				want := wantEdgeRevenue(w, n, r)
				if sum := impl.EdgeRevenue(w, n, r); sum != want {
					t.Fatalf("EdgeRevenue(%v, %d, %d) = %d, want %d", w, n, r, sum, want)
				}
			}
		}
	}
}

func TestVirtualRevenue(t *testing.T) {
	for _, c := range []struct {
		w          []int
		n, reserve int
		want       impl.Frac
	}{
		{[]int{1}, 1, 0, impl.Frac{Up: 0, Down: 1}},
		{[]int{6}, 3, 6, impl.Frac{Up: 0, Down: 1}},
		{[]int{2, 3}, 2, 0, impl.Frac{Up: 15, Down: 1}},
		{[]int{2, 3}, 2, 1, impl.Frac{Up: 21, Down: 1}},
		{[]int{2, 3}, 2, 2, impl.Frac{Up: 0, Down: 1}},
		{[]int{1, 1, 1}, 2, 0, impl.Frac{Up: 8, Down: 1}},
	} {
		if f, ok := impl.VirtualRevenue(c.w, c.n, c.reserve); f != c.want || !ok {
			t.Errorf("VirtualRevenue(%v, %d, %d) = %v, %v, want %v", c.w, c.n, c.reserve, f, ok, c.want)
		}
	}
	for _, w := range someWeights() {
		for _, n := range crowds {
			for _, r := range allEdges {
				want := wantVirtualRevenue(w, n, r)
				if f, ok := impl.VirtualRevenue(w, n, r); !isFrac(f, want) || !ok {
					t.Fatalf("VirtualRevenue(%v, %d, %d) = %v, %v, want %v", w, n, r, f, ok, want)
				}
			}
		}
	}
}

func TestBestRevenue(t *testing.T) {
	for _, c := range []struct {
		w    []int
		n    int
		want impl.Frac
	}{
		{[]int{1}, 1, impl.Frac{Up: 0, Down: 1}},
		{[]int{6}, 3, impl.Frac{Up: 0, Down: 1}},
		{[]int{2, 3}, 1, impl.Frac{Up: 3, Down: 1}},
		{[]int{2, 3}, 2, impl.Frac{Up: 21, Down: 1}},
		{[]int{1, 1, 1}, 2, impl.Frac{Up: 10, Down: 1}},
		{[]int{1, 2, 1, 1}, 2, impl.Frac{Up: 34, Down: 1}},
		{[]int{1, 2, 1, 2}, 2, impl.Frac{Up: 60, Down: 1}},
		// 4 in 204 ways, and 2 divided by 7, to which two values are ironed, in 147 ways.
		{[]int{6, 1, 6, 1, 6}, 2, impl.Frac{Up: 858, Down: 1}},
	} {
		if f, ok := impl.BestRevenue(c.w, c.n); f != c.want || !ok {
			t.Errorf("BestRevenue(%v, %d) = %v, %v, want %v", c.w, c.n, f, ok, c.want)
		}
	}
	for _, w := range someWeights() {
		for _, n := range crowds {
			want := wantBestRevenue(w, n)
			if f, ok := impl.BestRevenue(w, n); !isFrac(f, want) || !ok {
				t.Fatalf("BestRevenue(%v, %d) = %v, %v, want %v", w, n, f, ok, want)
			}
		}
	}
}

// eachWrongRevenue gives arguments of the revenues that are not valid, only the reserve being wrong if that is told.
func eachWrongRevenue(refused func(w []int, n, reserve int, byReserve bool)) {
	for _, w := range wrongWeights() {
		refused(w, 1, 0, false)
		refused(w, impl.MaxFew, impl.MaxValues, false)
	}
	for _, n := range wrongCrowds {
		refused([]int{3}, n, 0, false)
		refused([]int{1, 2}, n, 1, false)
	}
	for _, r := range wrongEdges {
		refused([]int{3}, 1, r, true)
		refused([]int{1, 2}, 2, r, true)
	}
}

func TestRevenueOthers(t *testing.T) {
	eachWrongRevenue(func(w []int, n, reserve int, byReserve bool) {
		if sum := impl.EdgeRevenue(w, n, reserve); sum != -1 {
			t.Errorf("EdgeRevenue(%v, %d, %d) = %d", w, n, reserve, sum)
		}
		if f, ok := impl.VirtualRevenue(w, n, reserve); f != (impl.Frac{}) || ok {
			t.Errorf("VirtualRevenue(%v, %d, %d) = %v, %v", w, n, reserve, f, ok)
		}
		if f, ok := impl.BestRevenue(w, n); !byReserve && (f != (impl.Frac{}) || ok) {
			t.Errorf("BestRevenue(%v, %d) = %v, %v", w, n, f, ok)
		}
	})
}

// virtualRevenue is VirtualRevenue as a number.
func virtualRevenue(t *testing.T, w []int, n, reserve int) *big.Rat {
	t.Helper()
	f, ok := impl.VirtualRevenue(w, n, reserve)
	if !ok {
		t.Fatalf("VirtualRevenue(%v, %d, %d) is refused", w, n, reserve)
	}
	return ratOf(t, f)
}

// bestRevenue is BestRevenue as a number.
func bestRevenue(t *testing.T, w []int, n int) *big.Rat {
	t.Helper()
	f, ok := impl.BestRevenue(w, n)
	if !ok {
		t.Fatalf("BestRevenue(%v, %d) is refused", w, n)
	}
	return ratOf(t, f)
}

func TestP14WhatIsBroughtInIsVirtual(t *testing.T) {
	for _, w := range someWeights() {
		for _, n := range crowds {
			best := bestRevenue(t, w, n)
			for _, r := range allEdges {
				edge := big.NewRat(int64(impl.EdgeRevenue(w, n, r)), 1)
				if virtual := virtualRevenue(t, w, n, r); edge.Cmp(virtual) != 0 || edge.Cmp(best) > 0 {
					t.Fatalf("of %v, %d, %d EdgeRevenue is %v, VirtualRevenue %v, BestRevenue %v", w, n, r, edge, virtual, best)
				}
				if impl.IsRegular(w) && r == impl.BestPrice(w) && edge.Cmp(best) != 0 {
					t.Fatalf("EdgeRevenue(%v, %d, %d) = %v, but BestRevenue %v", w, n, r, edge, best)
				}
			}
		}
	}
}

func TestP15OneBidderIsAPrice(t *testing.T) {
	for _, w := range someWeights() {
		for _, r := range allEdges {
			if f, ok := impl.VirtualRevenue(w, 1, r); f != (impl.Frac{Up: impl.RevenueAt(w, r), Down: 1}) || !ok {
				t.Fatalf("VirtualRevenue(%v, 1, %d) = %v, but RevenueAt %d", w, r, f, impl.RevenueAt(w, r))
			}
		}
		best := impl.BestPrice(w)
		mean := new(big.Rat)
		for _, n := range crowds {
			more := virtualRevenue(t, w, n, best)
			if more.Quo(more, big.NewRat(int64(allWays(w, n)), 1)); more.Cmp(mean) < 0 {
				t.Fatalf("VirtualRevenue(%v, %d, %d) divided by all ways is %v, but %v with one bidder fewer", w, n, best, more, mean)
			}
			mean = more
		}
	}
}

func TestP16TheBestIsAtLeastOnePrice(t *testing.T) {
	for _, w := range manyWeights() {
		want := impl.Frac{Up: impl.RevenueAt(w, impl.BestPrice(w)), Down: 1}
		if f, ok := impl.BestRevenue(w, 1); f != want || !ok {
			t.Fatalf("BestRevenue(%v, 1) = %v, but RevenueAt BestPrice %v", w, f, want)
		}
	}
}

func TestP81MoreBiddersBringMore(t *testing.T) {
	for _, w := range someWeights() {
		ways := allWays(w, 1)
		for n := 1; n < impl.MaxFew; n++ {
			for _, r := range allEdges {
				few, more := impl.EdgeRevenue(w, n, r), impl.EdgeRevenue(w, n+1, r)
				if few < 0 || more < few*ways {
					t.Fatalf("EdgeRevenue(%v, %d, %d) = %d, but of one bidder fewer %d, in %d ways of one", w, n+1, r, more, few, ways)
				}
			}
			few, more := bestRevenue(t, w, n), bestRevenue(t, w, n+1)
			if more.Cmp(few.Mul(few, big.NewRat(int64(ways), 1))) < 0 {
				t.Fatalf("BestRevenue(%v, %d) = %v, but of one bidder fewer, times %d ways of one, %v", w, n+1, more, ways, few)
			}
		}
	}
}

func TestP82OneBidderMoreIsBetterThanTheBestPrice(t *testing.T) {
	tried := 0
	for _, w := range someWeights() {
		if !impl.IsRegular(w) {
			continue
		}
		tried++
		for n := 1; n < impl.MaxFew; n++ {
			more, best := big.NewRat(int64(impl.EdgeRevenue(w, n+1, 0)), 1), bestRevenue(t, w, n)
			if more.Cmp(best.Mul(best, big.NewRat(int64(allWays(w, 1)), 1))) < 0 {
				t.Fatalf("EdgeRevenue(%v, %d, 0) = %v, but BestRevenue of one bidder fewer, times the ways of one, %v", w, n+1, more, best)
			}
		}
	}
	if tried == 0 {
		t.Error("no weights were regular")
	}
}

func TestP83TheBestReserveIsTheBestPrice(t *testing.T) {
	tried := 0
	for _, w := range someWeights() {
		if !impl.IsRegular(w) {
			continue
		}
		tried++
		for _, n := range crowds {
			best := impl.EdgeRevenue(w, n, impl.BestPrice(w))
			for _, r := range allEdges {
				if sum := impl.EdgeRevenue(w, n, r); best < 0 || sum > best {
					t.Fatalf("EdgeRevenue(%v, %d, %d) = %d, but %d at BestPrice %d", w, n, r, sum, best, impl.BestPrice(w))
				}
			}
		}
	}
	if tried == 0 {
		t.Error("no weights were regular")
	}
}

// callChances calls all functions of the chapter.
func callChances(w []int, n, reserve int) {
	impl.ValidWeights(w)
	impl.RevenueAt(w, reserve)
	impl.BestPrice(w)
	impl.VirtualOf(w)
	impl.IronedOf(w)
	impl.IsRegular(w)
	impl.EdgeRevenue(w, n, reserve)
	impl.VirtualRevenue(w, n, reserve)
	impl.BestRevenue(w, n)
}

func TestChanceKeepsArguments(t *testing.T) {
	for _, list := range [][]int{{4}, {1, 4, 1, 4}, {6, 1, 6}, {6, 5, 4, 3, 2, 1}, {1, 7}, {0, 2}} {
		for _, n := range []int{0, 1, 3, 4} {
			for _, reserve := range []int{-1, 0, 2, 6, 7} {
				r := roomy(list)
				callChances(r, n, reserve)
				if !roomyIsKept(r, list) {
					t.Fatalf("by %d bidders and %d the weights %v become %v", n, reserve, list, r)
				}
			}
		}
	}
}

func TestChanceSharesNoMemory(t *testing.T) {
	overwrite := func(list []impl.Frac) {
		list = list[:cap(list)]
		for i := range list {
			list[i] = impl.Frac{Up: -99, Down: -99}
		}
	}
	for _, w := range [][]int{{4}, {1, 1, 1}, {1, 4, 1, 4}, {6, 5, 4, 3, 2, 1}} {
		virtual, ironed := impl.VirtualOf(w), impl.IronedOf(w)
		overwrite(virtual)
		if !areFracs(ironed, wantIroned(w)) || !areFracs(impl.VirtualOf(w), wantVirtual(w)) {
			t.Errorf("results for %v share memory with VirtualOf", w)
		}
		again := impl.VirtualOf(w)
		overwrite(ironed)
		if !areFracs(again, wantVirtual(w)) || !areFracs(impl.IronedOf(w), wantIroned(w)) {
			t.Errorf("results for %v share memory with IronedOf", w)
		}
	}
}

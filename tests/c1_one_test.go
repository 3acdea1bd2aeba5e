package tests

import (
	"math"
	"slices"
	"testing"

	"loop.example/salesbybids/impl"
)

// saleKinds are all kinds of SaleBy.
var saleKinds = []string{"first", "second", "third", "all"}

// otherKinds are texts that are no kinds of SaleBy.
var otherKinds = []string{"", "x", "First", "ALL", "fourth", "second ", " first", "firs", "firsts", "al", "1", "pivot"}

// beyond are numbers outside of 0..MaxBid.
var beyond = []int{-1, impl.MaxBid + 1, -impl.MaxBid, math.MinInt, math.MaxInt}

// wrongBids are lists that are no bids.
func wrongBids() [][]int {
	wrong := [][]int{nil, {}, make([]int, impl.MaxBidders+1), make([]int, 1000)}
	for _, x := range beyond {
		wrong = append(wrong, []int{x}, []int{x, 1, 2}, []int{1, x, 2}, []int{1, 2, 3, 4, 5, x})
	}
	return wrong
}

// fewBids are bids of one up to three bidders: small ones, of which many are the same, and the ends of the range.
func fewBids() [][]int {
	var all [][]int
	for n := 1; n <= 3; n++ {
		all = append(all, listsOf(n, 0, 1, 2, 7, 29, 30)...)
	}
	return all
}

// someBids are the fewBids, and those of more bidders.
func someBids() [][]int {
	all := fewBids()
	for n := 4; n <= impl.MaxBidders; n++ {
		all = append(all, listsOf(n, 0, 7, 30)...)
	}
	return append(all, []int{5, 4, 3, 2, 1, 0}, []int{0, 1, 2, 3, 4, 5}, []int{11, 19, 4, 19, 18, 19})
}

// someReserves are reserves below, at and above the numbers of someBids.
var someReserves = []int{0, 1, 2, 3, 7, 8, 29, 30}

// wantSale is what the document says of SaleBy, found by counting how many bids are ahead of each one.
func wantSale(kind string, bids []int, reserve int) (int, []int) {
	at, price := -1, reserve
	rank := map[string]int{"first": 1, "second": 2, "third": 3}[kind]
	for i := range bids {
		ahead := 0
		for j := range bids {
			if bids[j] > bids[i] || bids[j] == bids[i] && j < i {
				ahead++
			}
		}
		if ahead == 0 && bids[i] >= reserve {
			at = i
		}
		if ahead == rank-1 && bids[i] > price {
			price = bids[i]
		}
	}
	pays := make([]int, len(bids))
	if kind == "all" {
		copy(pays, bids)
	} else if at >= 0 {
		pays[at] = price
	}
	return at, pays
}

// wantGain is what the document says of GainOf.
func wantGain(kind string, bids []int, i, value, reserve int) int {
	at, pays := wantSale(kind, bids, reserve)
	if at == i {
		return value - pays[i]
	}
	return -pays[i]
}

func TestOneLimits(t *testing.T) {
	if impl.MaxBid != 30 || impl.MaxBidders != 6 || impl.MaxFew != 3 || impl.MaxTop != 5 {
		t.Error("limits are not those of the document")
	}
}

func TestValidBids(t *testing.T) {
	for _, bids := range [][]int{{0}, {30}, {1}, {4, 4}, {0, 30, 0}, {30, 30, 30, 30, 30, 30}, {0, 0, 0, 0, 0, 0}, {1, 2, 3, 4, 5, 6}} {
		if !impl.ValidBids(bids) {
			t.Errorf("ValidBids(%v) = false", bids)
		}
	}
	for _, bids := range wrongBids() {
		if impl.ValidBids(bids) {
			t.Errorf("ValidBids(%v) = true", bids)
		}
	}
}

func TestP1BidsCanBeLeftOut(t *testing.T) {
	for _, bids := range someBids() {
		for n := len(bids); n >= 1; n-- {
			if !impl.ValidBids(bids[:n]) {
				t.Errorf("ValidBids(%v) = false", bids[:n])
			}
		}
	}
	if impl.ValidBids([]int{3}[:0]) {
		t.Error("ValidBids of no bids = true")
	}
}

func TestSaleBy(t *testing.T) {
	for _, c := range []struct {
		kind    string
		bids    []int
		reserve int
		at      int
		pays    []int
	}{
		{"first", []int{4}, 0, 0, []int{4}},
		{"first", []int{4}, 4, 0, []int{4}},
		{"first", []int{4}, 5, -1, []int{0}},
		{"second", []int{4}, 0, 0, []int{0}},
		{"second", []int{4}, 3, 0, []int{3}},
		{"second", []int{4}, 4, 0, []int{4}},
		{"second", []int{4}, 5, -1, []int{0}},
		{"third", []int{4}, 0, 0, []int{0}},
		{"third", []int{4}, 2, 0, []int{2}},
		{"third", []int{4, 9}, 0, 1, []int{0, 0}},
		{"third", []int{4, 9}, 1, 1, []int{0, 1}},
		{"third", []int{9, 2, 4}, 0, 0, []int{2, 0, 0}},
		{"third", []int{9, 9, 4, 9}, 0, 0, []int{9, 0, 0, 0}},
		{"third", []int{9, 4, 9, 4, 1}, 0, 0, []int{4, 0, 0, 0, 0}},
		{"second", []int{5, 5, 5}, 0, 0, []int{5, 0, 0}},
		{"second", []int{1, 5, 3}, 0, 1, []int{0, 3, 0}},
		{"second", []int{1, 5, 3}, 4, 1, []int{0, 4, 0}},
		{"second", []int{1, 5, 3}, 2, 1, []int{0, 3, 0}},
		{"first", []int{0, 0}, 0, 0, []int{0, 0}},
		{"first", []int{0, 0}, 1, -1, []int{0, 0}},
		{"first", []int{2, 30, 30}, 30, 1, []int{0, 30, 0}},
		{"second", []int{29, 29}, 30, -1, []int{0, 0}},
		{"all", []int{4}, 0, 0, []int{4}},
		{"all", []int{4}, 5, -1, []int{4}},
		{"all", []int{1, 3, 3}, 2, 1, []int{1, 3, 3}},
		{"all", []int{1, 3, 3}, 30, -1, []int{1, 3, 3}},
		{"second", []int{0, 1, 2, 3, 4, 5}, 0, 5, []int{0, 0, 0, 0, 0, 4}},
		{"third", []int{0, 1, 2, 3, 4, 5}, 0, 5, []int{0, 0, 0, 0, 0, 3}},
	} {
		if at, pays := impl.SaleBy(c.kind, c.bids, c.reserve); at != c.at || !slices.Equal(pays, c.pays) {
			t.Errorf("SaleBy(%q, %v, %d) = %d, %v, want %d, %v", c.kind, c.bids, c.reserve, at, pays, c.at, c.pays)
		}
	}
	for _, kind := range saleKinds {
		for _, bids := range someBids() {
			for _, r := range someReserves {
				wantAt, wantPays := wantSale(kind, bids, r)
				if at, pays := impl.SaleBy(kind, bids, r); at != wantAt || !slices.Equal(pays, wantPays) {
					t.Fatalf("SaleBy(%q, %v, %d) = %d, %v, want %d, %v", kind, bids, r, at, pays, wantAt, wantPays)
				}
			}
		}
	}
}

func TestSaleByOthers(t *testing.T) {
	refused := func(kind string, bids []int, reserve int) {
		t.Helper()
		if at, pays := impl.SaleBy(kind, bids, reserve); at != -1 || pays != nil {
			t.Errorf("SaleBy(%q, %v, %d) = %d, %v", kind, bids, reserve, at, pays)
		}
	}
	for _, kind := range otherKinds {
		refused(kind, []int{3, 7}, 0)
	}
	for _, kind := range saleKinds {
		for _, bids := range wrongBids() {
			refused(kind, bids, 0)
		}
		for _, r := range beyond {
			refused(kind, []int{3, 7}, r)
		}
	}
}

func TestP2WhoHasTheThingHasTheGreatestBid(t *testing.T) {
	for _, kind := range saleKinds {
		for _, bids := range someBids() {
			for _, r := range someReserves {
				at, pays := impl.SaleBy(kind, bids, r)
				if sold := slices.Max(bids) >= r; sold != (at >= 0) || len(pays) != len(bids) {
					t.Fatalf("SaleBy(%q, %v, %d) = %d, %v", kind, bids, r, at, pays)
				}
				if at >= 0 && bids[at] != slices.Max(bids) || at > slices.Index(bids, slices.Max(bids)) {
					t.Fatalf("SaleBy(%q, %v, %d) = %d, not the first one of the greatest", kind, bids, r, at)
				}
				for i, p := range pays {
					if kind == "all" && p != bids[i] || kind != "all" && (p < 0 || p > bids[i] || i != at && p != 0) {
						t.Fatalf("SaleBy(%q, %v, %d) asks %d of %d", kind, bids, r, p, i)
					}
				}
			}
		}
	}
}

func TestLeastToWin(t *testing.T) {
	for _, c := range []struct {
		bids       []int
		i, reserve int
		least      int
		ok         bool
	}{
		{[]int{4}, 0, 0, 0, true},
		{[]int{4}, 0, 9, 9, true},
		{[]int{4}, 0, 30, 30, true},
		{[]int{3, 3}, 0, 0, 3, true},
		{[]int{3, 3}, 1, 0, 4, true},
		{[]int{3, 3}, 1, 4, 4, true},
		{[]int{3, 3}, 1, 5, 5, true},
		{[]int{0, 0}, 0, 0, 0, true},
		{[]int{0, 0}, 1, 0, 1, true},
		{[]int{5, 2, 8}, 1, 0, 8, true},
		{[]int{8, 2, 5}, 1, 0, 9, true},
		{[]int{2, 30}, 0, 0, 30, true},
		{[]int{30, 2}, 1, 0, 0, false},
		{[]int{30, 30}, 1, 30, 0, false},
		{[]int{29, 2}, 1, 0, 30, true},
		{[]int{29, 2}, 1, 30, 30, true},
		{[]int{1, 2, 3, 4, 5, 0}, 5, 0, 6, true},
	} {
		if b, ok := impl.LeastToWin(c.bids, c.i, c.reserve); b != c.least || ok != c.ok {
			t.Errorf("LeastToWin(%v, %d, %d) = %d, %v", c.bids, c.i, c.reserve, b, ok)
		}
	}
	for _, bids := range fewBids() {
		for i := range bids {
			for _, r := range someReserves {
				want := 0
				for want <= impl.MaxBid {
					if at, _ := wantSale("first", with(bids, i, want), r); at == i {
						break
					}
					want++
				}
				wantOk := want <= impl.MaxBid
				if !wantOk {
					want = 0
				}
				if b, ok := impl.LeastToWin(bids, i, r); b != want || ok != wantOk {
					t.Fatalf("LeastToWin(%v, %d, %d) = %d, %v, want %d, %v", bids, i, r, b, ok, want, wantOk)
				}
			}
		}
	}
}

func TestLeastToWinOthers(t *testing.T) {
	refused := func(bids []int, i, reserve int) {
		t.Helper()
		if b, ok := impl.LeastToWin(bids, i, reserve); b != 0 || ok {
			t.Errorf("LeastToWin(%v, %d, %d) = %d, %v", bids, i, reserve, b, ok)
		}
	}
	for _, bids := range wrongBids() {
		refused(bids, 0, 0)
		refused(bids, len(bids)-1, 0)
	}
	for _, i := range []int{-1, 2, math.MinInt, math.MaxInt} {
		refused([]int{3, 7}, i, 0)
	}
	for _, r := range beyond {
		refused([]int{3, 7}, 0, r)
	}
}

func TestP3TheLeastBidIsTheSecondPrice(t *testing.T) {
	for _, kind := range saleKinds {
		for _, bids := range fewBids() {
			for _, r := range someReserves {
				for i := range bids {
					least, ok := impl.LeastToWin(bids, i, r)
					if !ok {
						least = impl.MaxBid + 1
					}
					for b := range impl.MaxBid + 1 {
						at, pays := impl.SaleBy(kind, with(bids, i, b), r)
						if (at == i) != (b >= least) {
							t.Fatalf("SaleBy(%q, %v, %d) = %d, but LeastToWin is %d", kind, with(bids, i, b), r, at, least)
						}
						if kind == "second" && at == i && (pays[i] > least || pays[i] < least-1) {
							t.Fatalf("SaleBy(%q, %v, %d) asks %d, but LeastToWin is %d", kind, with(bids, i, b), r, pays[i], least)
						}
					}
				}
			}
		}
	}
}

func TestGainOf(t *testing.T) {
	for _, c := range []struct {
		kind              string
		bids              []int
		i, value, reserve int
		gain              int
	}{
		{"first", []int{4}, 0, 9, 0, 5},
		{"first", []int{4}, 0, 0, 0, -4},
		{"first", []int{4}, 0, 9, 5, 0},
		{"second", []int{4}, 0, 9, 0, 9},
		{"second", []int{4}, 0, 9, 3, 6},
		{"second", []int{3, 3}, 0, 3, 0, 0},
		{"second", []int{3, 3}, 0, 30, 0, 27},
		{"second", []int{3, 3}, 1, 30, 0, 0},
		{"third", []int{3, 3}, 0, 30, 0, 30},
		{"third", []int{3, 3, 2}, 0, 1, 0, -1},
		{"all", []int{3, 5}, 0, 30, 0, -3},
		{"all", []int{3, 5}, 1, 30, 0, 25},
		{"all", []int{3, 5}, 1, 30, 6, -5},
		{"all", []int{3, 5}, 1, 0, 0, -5},
	} {
		if g, ok := impl.GainOf(c.kind, c.bids, c.i, c.value, c.reserve); g != c.gain || !ok {
			t.Errorf("GainOf(%q, %v, %d, %d, %d) = %d, %v, want %d", c.kind, c.bids, c.i, c.value, c.reserve, g, ok, c.gain)
		}
	}
	for _, kind := range saleKinds {
		for _, bids := range someBids() {
			for _, r := range []int{0, 7, 30} {
				for i := range bids {
					for _, v := range []int{0, 3, 30} {
						want := wantGain(kind, bids, i, v, r)
						if g, ok := impl.GainOf(kind, bids, i, v, r); g != want || !ok {
							t.Fatalf("GainOf(%q, %v, %d, %d, %d) = %d, %v, want %d", kind, bids, i, v, r, g, ok, want)
						}
					}
				}
			}
		}
	}
}

// eachWrongCall gives arguments of GainOf and BestBid that are not valid.
func eachWrongCall(refused func(kind string, bids []int, i, value, reserve int)) {
	for _, kind := range otherKinds {
		refused(kind, []int{3, 7}, 0, 5, 0)
	}
	for _, kind := range saleKinds {
		for _, bids := range wrongBids() {
			refused(kind, bids, 0, 5, 0)
			refused(kind, bids, len(bids)-1, 5, 0)
		}
		for _, i := range []int{-1, 2, math.MinInt, math.MaxInt} {
			refused(kind, []int{3, 7}, i, 5, 0)
		}
		for _, x := range beyond {
			refused(kind, []int{3, 7}, 1, x, 0)
			refused(kind, []int{3, 7}, 1, 5, x)
		}
	}
}

func TestGainOfOthers(t *testing.T) {
	eachWrongCall(func(kind string, bids []int, i, value, reserve int) {
		if g, ok := impl.GainOf(kind, bids, i, value, reserve); g != 0 || ok {
			t.Errorf("GainOf(%q, %v, %d, %d, %d) = %d, %v", kind, bids, i, value, reserve, g, ok)
		}
	})
}

func TestP4TruthNeverLosesBySecond(t *testing.T) {
	for _, bids := range fewBids() {
		for _, r := range []int{0, 2, 8, 30} {
			for i := range bids {
				for _, v := range []int{0, 1, 6, 7, 8, 30} {
					own, ok := impl.GainOf("second", with(bids, i, v), i, v, r)
					if !ok || own < 0 {
						t.Fatalf("GainOf of the own value %d at %d of %v, %d = %d, %v", v, i, bids, r, own, ok)
					}
					for b := range impl.MaxBid + 1 {
						if g, ok := impl.GainOf("second", with(bids, i, b), i, v, r); !ok || g > own {
							t.Fatalf("GainOf of %d at %d of %v, %d = %d, but of the own value %d %d", b, i, bids, r, g, v, own)
						}
					}
				}
			}
		}
	}
}

func TestBestBid(t *testing.T) {
	for _, c := range []struct {
		kind              string
		bids              []int
		i, value, reserve int
		bid, gain         int
	}{
		{"first", []int{9}, 0, 9, 0, 0, 9},
		{"first", []int{9}, 0, 9, 4, 4, 5},
		{"first", []int{9}, 0, 9, 9, 0, 0},
		{"first", []int{9}, 0, 9, 10, 0, 0},
		{"second", []int{9}, 0, 9, 4, 4, 5},
		{"second", []int{9}, 0, 0, 0, 0, 0},
		{"second", []int{9, 7}, 1, 30, 0, 10, 21},
		{"second", []int{7, 9}, 0, 30, 0, 9, 21},
		{"second", []int{7, 9}, 0, 9, 0, 0, 0},
		{"third", []int{7, 9}, 0, 1, 0, 9, 1},
		{"third", []int{9, 7}, 1, 1, 0, 10, 1},
		{"third", []int{9, 7, 5}, 1, 6, 0, 10, 1},
		{"first", []int{30, 7}, 1, 30, 0, 0, 0},
		{"first", []int{7, 30}, 0, 30, 0, 0, 0},
		{"second", []int{29, 0}, 1, 30, 0, 30, 1},
		{"second", []int{30, 30}, 1, 30, 0, 0, 0},
		{"all", []int{9, 7}, 1, 30, 0, 10, 20},
		{"all", []int{9, 7}, 1, 10, 0, 0, 0},
		{"all", []int{9, 7}, 1, 11, 0, 10, 1},
		{"all", []int{9, 7}, 1, 30, 12, 12, 18},
	} {
		if b, g, ok := impl.BestBid(c.kind, c.bids, c.i, c.value, c.reserve); b != c.bid || g != c.gain || !ok {
			t.Errorf("BestBid(%q, %v, %d, %d, %d) = %d, %d, %v, want %d, %d", c.kind, c.bids, c.i, c.value, c.reserve, b, g, ok, c.bid, c.gain)
		}
	}
	for _, kind := range saleKinds {
		for _, bids := range fewBids() {
			for _, r := range []int{0, 3, 29} {
				for i := range bids {
					for _, v := range []int{0, 8, 30} {
						wantBid, most := 0, wantGain(kind, with(bids, i, 0), i, v, r)
						for b := impl.MaxBid; b >= 0; b-- {
							if g := wantGain(kind, with(bids, i, b), i, v, r); g >= most {
								wantBid, most = b, g
							}
						}
						if b, g, ok := impl.BestBid(kind, bids, i, v, r); b != wantBid || g != most || !ok {
							t.Fatalf("BestBid(%q, %v, %d, %d, %d) = %d, %d, %v, want %d, %d", kind, bids, i, v, r, b, g, ok, wantBid, most)
						}
					}
				}
			}
		}
	}
}

func TestBestBidOthers(t *testing.T) {
	eachWrongCall(func(kind string, bids []int, i, value, reserve int) {
		if b, g, ok := impl.BestBid(kind, bids, i, value, reserve); b != 0 || g != 0 || ok {
			t.Errorf("BestBid(%q, %v, %d, %d, %d) = %d, %d, %v", kind, bids, i, value, reserve, b, g, ok)
		}
	})
}

func TestP5TheBestBidIsBest(t *testing.T) {
	for _, bids := range fewBids() {
		for _, r := range []int{0, 8, 30} {
			for i := range bids {
				for _, v := range []int{0, 1, 7, 8, 30} {
					gains := map[string]int{}
					for _, kind := range saleKinds {
						best, most, ok := impl.BestBid(kind, bids, i, v, r)
						g, gok := impl.GainOf(kind, with(bids, i, best), i, v, r)
						if !ok || !gok || g != most {
							t.Fatalf("GainOf BestBid(%q, %v, %d, %d, %d) = %d, not %d", kind, bids, i, v, r, g, most)
						}
						for b := range impl.MaxBid + 1 {
							if g, _ := impl.GainOf(kind, with(bids, i, b), i, v, r); g > most || g == most && b < best {
								t.Fatalf("BestBid(%q, %v, %d, %d, %d) = %d, %d, but %d has %d", kind, bids, i, v, r, best, most, b, g)
							}
						}
						gains[kind] = most
					}
					own, _ := impl.GainOf("second", with(bids, i, v), i, v, r)
					if gains["second"] > own || gains["first"] > gains["second"] {
						t.Fatalf("BestBid(%v, %d, %d, %d): %v, but the own value has %d", bids, i, v, r, gains, own)
					}
				}
			}
		}
	}
}

// wantTrue is what the document says of IsTrue.
func wantTrue(kind string, n, top int) bool {
	for _, values := range listsOf(n, upTo(top)...) {
		for i, v := range values {
			for b := range top + 2 {
				if wantGain(kind, with(values, i, b), i, v, 0) > wantGain(kind, values, i, v, 0) {
					return false
				}
			}
		}
	}
	return true
}

func TestIsTrue(t *testing.T) {
	for _, kind := range saleKinds {
		for n := 1; n <= impl.MaxFew; n++ {
			for top := range impl.MaxTop + 1 {
				if want := wantTrue(kind, n, top); impl.IsTrue(kind, n, top) != want {
					t.Errorf("IsTrue(%q, %d, %d) = %v", kind, n, top, !want)
				}
			}
		}
	}
	// Of two bidders with 1 each the second one has the thing only by a bid above the top.
	if impl.IsTrue("third", 2, 1) {
		t.Error("IsTrue of third, two bidders and a top of 1")
	}
}

func TestIsTrueOthers(t *testing.T) {
	for _, kind := range saleKinds {
		for _, n := range []int{0, -1, impl.MaxFew + 1, math.MinInt, math.MaxInt} {
			if impl.IsTrue(kind, n, 0) {
				t.Errorf("IsTrue(%q, %d, 0)", kind, n)
			}
		}
		for _, top := range []int{-1, impl.MaxTop + 1, math.MinInt, math.MaxInt} {
			if impl.IsTrue(kind, 1, top) {
				t.Errorf("IsTrue(%q, 1, %d)", kind, top)
			}
		}
	}
	for _, kind := range otherKinds {
		if impl.IsTrue(kind, 1, 0) {
			t.Errorf("IsTrue(%q, 1, 0)", kind)
		}
	}
}

func TestP6TruthIsBestBySecond(t *testing.T) {
	for n := 1; n <= impl.MaxFew; n++ {
		for top := range impl.MaxTop + 1 {
			if !impl.IsTrue("second", n, top) {
				t.Errorf("IsTrue of second, %d, %d = false", n, top)
			}
			for _, kind := range []string{"first", "all"} {
				if impl.IsTrue(kind, n, top) != (top == 0) {
					t.Errorf("IsTrue of %s, %d, %d = %v", kind, n, top, top != 0)
				}
			}
			if n == 3 && impl.IsTrue("third", n, top) != (top == 0) {
				t.Errorf("IsTrue of third, %d, %d = %v", n, top, top != 0)
			}
		}
	}
}

// someValues are values of one up to MaxFew bidders, some of them greater than any top.
func someValues() [][]int {
	return append(append(listsOf(1, 0, 1, 3, 5, 30), listsOf(2, 0, 1, 2, 4, 5, 30)...), listsOf(3, 0, 2, 3, 30)...)
}

// topsFor returns the tops to be tried with so many bidders, fewer for more of them.
func topsFor(n int) []int {
	if n == impl.MaxFew {
		return []int{0, 1, 3}
	}
	return upTo(impl.MaxTop)
}

// wantRests is what the document says of RestsOf.
func wantRests(kind string, values []int, top int) [][]int {
	var rests [][]int
	for _, bids := range listsOf(len(values), upTo(top)...) {
		more := false
		for i, v := range values {
			for b := range top + 1 {
				more = more || wantGain(kind, with(bids, i, b), i, v, 0) > wantGain(kind, bids, i, v, 0)
			}
		}
		if !more {
			rests = append(rests, bids)
		}
	}
	return rests
}

func TestRestsOf(t *testing.T) {
	for _, c := range []struct {
		kind   string
		values []int
		top    int
		rests  [][]int
	}{
		{"first", []int{3}, 0, [][]int{{0}}},
		{"first", []int{3}, 5, [][]int{{0}}},
		{"second", []int{3}, 5, [][]int{{0}, {1}, {2}, {3}, {4}, {5}}},
		{"all", []int{3}, 5, [][]int{{0}}},
		{"first", []int{1, 1}, 1, [][]int{{0, 0}, {0, 1}, {1, 1}}},
		{"second", []int{1, 1}, 1, [][]int{{0, 1}, {1, 0}, {1, 1}}},
		{"second", []int{0, 30}, 1, [][]int{{0, 1}, {1, 0}}},
		{"all", []int{30, 30}, 5, nil},
		{"all", []int{3, 1}, 2, [][]int{{0, 0}}},
		{"all", []int{3, 4}, 3, nil},
	} {
		if rests := impl.RestsOf(c.kind, c.values, c.top); !sameRows(rests, c.rests) {
			t.Errorf("RestsOf(%q, %v, %d) = %v, want %v", c.kind, c.values, c.top, rests, c.rests)
		}
	}
	for _, kind := range saleKinds {
		for _, values := range someValues() {
			for _, top := range topsFor(len(values)) {
				want := wantRests(kind, values, top)
				if rests := impl.RestsOf(kind, values, top); !sameRows(rests, want) {
					t.Fatalf("RestsOf(%q, %v, %d) = %v, want %v", kind, values, top, rests, want)
				}
			}
		}
		if rests := impl.RestsOf(kind, []int{4, 5, 5}, impl.MaxTop); !sameRows(rests, wantRests(kind, []int{4, 5, 5}, impl.MaxTop)) {
			t.Errorf("RestsOf(%q, [4 5 5], %d) = %v", kind, impl.MaxTop, rests)
		}
	}
}

func TestRestsOfOthers(t *testing.T) {
	refused := func(kind string, values []int, top int) {
		t.Helper()
		if rests := impl.RestsOf(kind, values, top); rests != nil {
			t.Errorf("RestsOf(%q, %v, %d) = %v", kind, values, top, rests)
		}
	}
	for _, kind := range saleKinds {
		for _, values := range wrongBids() {
			refused(kind, values, 0)
		}
		refused(kind, []int{1, 1, 1, 1}, 0)
		for _, top := range []int{-1, impl.MaxTop + 1, math.MinInt, math.MaxInt} {
			refused(kind, []int{1}, top)
		}
	}
	for _, kind := range otherKinds {
		refused(kind, []int{1}, 0)
	}
}

func TestP7WhereAllRestNoOneHasMoreOfAnotherBid(t *testing.T) {
	for _, kind := range saleKinds {
		for _, values := range someValues() {
			for _, top := range topsFor(len(values)) {
				rests := impl.RestsOf(kind, values, top)
				for _, bids := range rests {
					for i, v := range values {
						own, _ := impl.GainOf(kind, bids, i, v, 0)
						best, most, ok := impl.BestBid(kind, bids, i, v, 0)
						if !ok || best <= top && most > own {
							t.Fatalf("at %v of RestsOf(%q, %v, %d) the bidder %d has %d, but %d by %d", bids, kind, values, top, i, own, most, best)
						}
					}
				}
				has := slices.ContainsFunc(rests, func(bids []int) bool { return slices.Equal(bids, values) })
				if kind == "second" && slices.Max(values) <= top && !has {
					t.Fatalf("RestsOf(%q, %v, %d) = %v without the values", kind, values, top, rests)
				}
			}
		}
	}
}

func TestP96WhereAllRestByFirstTheGreatestValueHasTheThing(t *testing.T) {
	for top := range impl.MaxTop + 1 {
		for _, values := range listsOf(2, upTo(top)...) {
			rests := impl.RestsOf("first", values, top)
			if len(rests) == 0 {
				t.Errorf("RestsOf(first, %v, %d) is empty", values, top)
			}
			for _, bids := range rests {
				at, _ := impl.SaleBy("first", bids, 0)
				if at < 0 || values[at] < slices.Max(values)-1 {
					t.Errorf("at %v of RestsOf(first, %v, %d) the bidder %d has the thing", bids, values, top, at)
				}
			}
		}
	}
}

func TestOneKeepsArguments(t *testing.T) {
	for _, kind := range append(slices.Clone(saleKinds), "x") {
		for _, list := range [][]int{{4}, {2, 5, 5}, {5, 2, 0}, {1, 31}, {1, 4, 2, 8, 5, 7}} {
			r := roomy(list)
			impl.ValidBids(r)
			impl.SaleBy(kind, r, 3)
			impl.LeastToWin(r, 0, 3)
			impl.LeastToWin(r, len(r)-1, 3)
			impl.GainOf(kind, r, 0, 9, 3)
			impl.BestBid(kind, r, 0, 9, 3)
			impl.BestBid(kind, r, len(r)-1, 9, 3)
			impl.RestsOf(kind, r, 3)
			if !roomyIsKept(r, list) {
				t.Errorf("by %q %v becomes %v", kind, list, r)
			}
		}
	}
}

func TestOneSharesNoMemory(t *testing.T) {
	for _, kind := range saleKinds {
		for _, list := range [][]int{{4}, {2, 5, 5}, {0, 0, 0}} {
			r := roomy(list)
			_, pays := impl.SaleBy(kind, r, 1)
			scribble(pays)
			rests := impl.RestsOf(kind, r, 4)
			checkRowsApart(t, rests)
			if !roomyIsKept(r, list) {
				t.Errorf("results of %q, %v share memory with it", kind, list)
			}
			wantAt, want := wantSale(kind, list, 1)
			if at, pays := impl.SaleBy(kind, list, 1); at != wantAt || !slices.Equal(pays, want) {
				t.Errorf("SaleBy(%q, %v, 1) = %d, %v after an earlier result was overwritten", kind, list, at, pays)
			}
			if again := impl.RestsOf(kind, list, 4); !sameRows(again, wantRests(kind, list, 4)) {
				t.Errorf("RestsOf(%q, %v, 4) = %v after an earlier result was overwritten", kind, list, again)
			}
		}
	}
}

package tests

import (
	"math"
	"slices"
	"testing"

	"loop.example/salesbybids/impl"
)

// Tables of bidders who want one thing, but all things together more: to two of them these are worth more than what they have.
var (
	aOrAll = []int{0, 5, 0, 5, 0, 5, 0, 12}
	bOrAll = []int{0, 0, 5, 5, 0, 0, 5, 12}
	cOrAll = []int{0, 0, 0, 0, 5, 5, 5, 12}
)

// Tables of bidders who want one thing, of which some together have more than one who wants all things.
var (
	aFor4 = sumTable([]int{4, 0, 0})
	bFor4 = sumTable([]int{0, 4, 0})
	cFor4 = sumTable([]int{0, 0, 4})
)

// chosen are the rows of a set, told by a sum of 2 to each of their places.
func chosen(rows [][]int, set int) [][]int {
	var some [][]int
	for i, r := range rows {
		if slices.Contains(parts(set), 1<<i) {
			some = append(some, r)
		}
	}
	return some
}

// wantWorths is what the document says of WorthWith, for each set of bidders.
func wantWorths(tables [][]int) []int {
	var worths []int
	for set := range 1 << len(tables) {
		worths = append(worths, wantSplit(chosen(tables, set), 7))
	}
	return worths
}

// wantOwns is what the own sets by BestSplit are worth.
func wantOwns(tables [][]int) []int {
	sets, _ := wantBest(tables)
	owns := make([]int, len(tables))
	for i, t := range tables {
		owns[i] = t[sets[i]]
	}
	return owns
}

// wantIn is what the document says of InCore, told what is had, and what all things are worth to each set of bidders.
func wantIn(owns, worths, pays []int) bool {
	for i, x := range pays {
		if x > owns[i] {
			return false
		}
	}
	for set, worth := range worths {
		got := sum(pays)
		for i := range owns {
			if set>>i%2 == 1 {
				got += owns[i] - pays[i]
			}
		}
		if got < worth {
			return false
		}
	}
	return true
}

// wantLeastCore is what the document says of LeastCore, all payments tried that are no more than what is had.
func wantLeastCore(tables [][]int) ([]int, int) {
	owns, worths := wantOwns(tables), wantWorths(tables)
	var best []int
	var try func(pays []int)
	try = func(pays []int) {
		if best != nil && sum(pays) >= sum(best) {
			return
		}
		if n := len(pays); n < len(owns) {
			for x := range owns[n] + 1 {
				try(append(pays[:n:n], x))
			}
		} else if wantIn(owns, worths, pays) {
			best = pays
		}
	}
	try([]int{})
	return best, sum(best)
}

// wantNested is what the document says of IsNested.
func wantNested(tables [][]int) bool {
	worths := wantWorths(tables)
	for a, x := range worths {
		for b, y := range worths {
			var one, both int
			for i := range tables {
				inA, inB := a>>i%2, b>>i%2
				one += max(inA, inB) << i
				both += min(inA, inB) << i
			}
			if x+y < worths[one]+worths[both] {
				return false
			}
		}
	}
	return true
}

// lowered are payments in the core: those of what is had, made less bidder by bidder, in the order told, as long as they are in it.
func lowered(owns, worths []int, order []int) []int {
	pays := slices.Clone(owns)
	for _, i := range order {
		for pays[i] > 0 && wantIn(owns, worths, with(pays, i, pays[i]-1)) {
			pays[i]--
		}
	}
	return pays
}

// paysNear are payments for the tables at both ends of the core and of their range, 1 more and 1 less for each bidder and for all, or more for one and less for another, as far as these are in the range.
func paysNear(tables [][]int) [][]int {
	n, owns, worths := len(tables), wantOwns(tables), wantWorths(tables)
	order := upTo(n - 1)
	ends := [][]int{make([]int, n), owns, wantPivotPays(tables), lowered(owns, worths, order)}
	slices.Reverse(order)
	ends = append(ends, lowered(owns, worths, order))
	near := crowdsOf(1, [][]int{slices.Repeat([]int{impl.MaxBid}, n)})[0]
	for _, end := range ends {
		near = append(near, end, plusEach(end, 1<<n-1, 1), plusEach(end, 1<<n-1, -1))
		for i := range n {
			near = append(near, plusEach(end, 1<<i, 1), plusEach(end, 1<<i, -1), plusEach(plusEach(end, 1<<i, -1), 1<<((i+1)%n), 1))
		}
	}
	return slices.DeleteFunc(near, func(p []int) bool { return slices.Min(p) < 0 || slices.Max(p) > impl.MaxBid })
}

// coreBundles are tables of one up to four bidders: those who want nothing, those who are the same, things that belong together or may be moved, and pivots that are in the core or blocked.
func coreBundles() [][][]int {
	all := append(clearBundles(), bundlesOf(fewMovable())...)
	all = append(all, crowdsOf(2, fewTables())...)
	all = append(all, crowdsOf(3, [][]int{aOrAll, bOrAll, cOrAll, allFor9, abFor10, aFor10, bFor10})...)
	all = append(all, crowdsOf(3, [][]int{noughts, oddAB, oddAC, oddBC, joinedBC, aFor4, abFor8})...)
	all = append(all, crowdsOf(4, [][]int{allFor9, aFor4, bFor4, cFor4, abFor10})...)
	return append(all, crowdsOf(4, [][]int{abFor2, aFor4, bFor4, abFor10})...)
}

// fewBidders are those of the tables of at most so many bidders as LeastCore is told of.
func fewBidders(bundles [][][]int) [][][]int {
	return slices.DeleteFunc(bundles, func(tables [][]int) bool { return len(tables) > impl.MaxFew })
}

// wrongPays are numbers that are no payments of n bidders: too few, too many, or out of range.
func wrongPays(n int) [][]int {
	wrong := [][]int{nil, {}, make([]int, n-1), make([]int, n+1), slices.Repeat([]int{5}, n+1), make([]int, 1000)}
	for _, x := range []int{-1, impl.MaxBid + 1, impl.MaxPrice, math.MinInt, math.MaxInt} {
		for i := range n {
			wrong = append(wrong, with(make([]int, n), i, x), with(slices.Repeat([]int{impl.MaxBid}, n), i, x), with(slices.Repeat([]int{-x}, n), i, x))
		}
		wrong = append(wrong, slices.Repeat([]int{x}, n))
	}
	return wrong
}

func TestCoreLimits(t *testing.T) {
	if impl.MaxFew != 3 || impl.MaxCrowd != 4 || impl.MaxBid != 30 || impl.Things != 3 {
		t.Error("limits are not those of the document")
	}
}

func TestWorthWith(t *testing.T) {
	for _, c := range []struct {
		tables [][]int
		want   []int
	}{
		// None, and one bidder, of whom all things are worth what they are alone.
		{[][]int{noughts}, []int{0, 0}}, {[][]int{sums7}, []int{0, 7}}, {[][]int{each30}, []int{0, 30}}, {[][]int{allFor30}, []int{0, 30}},
		{[][]int{abFor10, a6xorB3}, []int{0, 10, 6, 10}}, {[][]int{aFor10, bFor10}, []int{0, 10, 10, 20}}, {[][]int{each30, allFor9}, []int{0, 30, 9, 30}},
		{[][]int{abFor10, a6xorB3, b6orC2}, []int{0, 10, 6, 10, 8, 12, 14, 14}}, {[][]int{abFor10, aFor10, bFor10}, []int{0, 10, 10, 10, 10, 10, 20, 20}},
		{[][]int{aOrAll, bOrAll, cOrAll}, []int{0, 12, 12, 12, 12, 12, 12, 15}},
		// As many bidders as there may be.
		{[][]int{noughts, noughts, noughts, noughts}, make([]int, 16)},
		{[][]int{each30, each30, each30, each30}, []int{0, 30, 30, 60, 30, 60, 60, 90, 30, 60, 60, 90, 60, 90, 90, 90}},
		{[][]int{allFor9, aFor4, bFor4, cFor4}, []int{0, 9, 4, 9, 4, 9, 8, 9, 4, 9, 8, 9, 8, 9, 12, 12}},
		{[][]int{noughts, noughts, noughts, aFor2}, []int{0, 0, 0, 0, 0, 0, 0, 0, 2, 2, 2, 2, 2, 2, 2, 2}},
	} {
		for set, want := range c.want {
			if n := impl.WorthWith(c.tables, set); n != want {
				t.Errorf("WorthWith(%v, %d) = %d, want %d", c.tables, set, n, want)
			}
		}
	}
	for _, tables := range append(someBundles(), coreBundles()...) {
		for set, want := range wantWorths(tables) {
			if n := impl.WorthWith(tables, set); n != want {
				t.Fatalf("WorthWith(%v, %d) = %d, want %d", tables, set, n, want)
			}
		}
	}
}

func TestWorthWithOthers(t *testing.T) {
	for _, tables := range wrongBundles() {
		for _, set := range append(upTo(16), -1, 31, math.MinInt, math.MaxInt) {
			if n := impl.WorthWith(tables, set); n != -1 {
				t.Errorf("WorthWith(%v, %d) = %d", tables, set, n)
			}
		}
	}
	// Sets with bidders that there are not, be they with some that there are, or without.
	for n := 1; n <= impl.MaxCrowd; n++ {
		for _, tables := range crowdsOf(n, [][]int{noughts, sums7, allFor30}) {
			for _, set := range []int{-1, -2, -1 << n, 1 << n, 1<<n + 1, 2<<n - 1, 16, 31, math.MinInt, math.MinInt + 1, math.MaxInt} {
				if m := impl.WorthWith(tables, set); m != -1 {
					t.Errorf("WorthWith(%v, %d) = %d", tables, set, m)
				}
			}
		}
	}
}

func TestInCore(t *testing.T) {
	for _, c := range []struct {
		tables [][]int
		pays   []int
		want   bool
	}{
		// One bidder pays anything up to the own worth.
		{[][]int{noughts}, []int{0}, true}, {[][]int{noughts}, []int{1}, false}, {[][]int{noughts}, []int{30}, false}, {[][]int{sums7}, []int{0}, true}, {[][]int{sums7}, []int{3}, true}, {[][]int{sums7}, []int{7}, true}, {[][]int{sums7}, []int{8}, false}, {[][]int{each30}, []int{0}, true}, {[][]int{each30}, []int{30}, true}, {[][]int{allFor30}, []int{29}, true},
		// Who has nothing pays nothing, and others at least what they take from the one who has nothing.
		{[][]int{allFor9, noughts}, []int{0, 0}, true}, {[][]int{allFor9, noughts}, []int{9, 0}, true}, {[][]int{allFor9, noughts}, []int{0, 1}, false}, {[][]int{noughts, allFor9}, []int{0, 5}, true}, {[][]int{noughts, allFor9}, []int{5, 0}, false}, {[][]int{noughts, allFor9}, []int{0, 10}, false},
		{[][]int{abFor10, abFor8}, []int{8, 0}, true}, {[][]int{abFor10, abFor8}, []int{7, 0}, false}, {[][]int{abFor10, abFor8}, []int{10, 0}, true}, {[][]int{abFor10, abFor8}, []int{11, 0}, false}, {[][]int{abFor10, abFor8}, []int{8, 1}, false}, {[][]int{abFor10, abFor8}, []int{7, 1}, false}, {[][]int{abFor8, abFor10}, []int{0, 8}, true}, {[][]int{abFor8, abFor10}, []int{8, 0}, false},
		// Tables that are the same.
		{[][]int{allFor9, allFor9}, []int{9, 0}, true}, {[][]int{allFor9, allFor9}, []int{8, 0}, false}, {[][]int{allFor9, allFor9}, []int{9, 1}, false}, {[][]int{allFor9, allFor9}, []int{0, 9}, false}, {[][]int{allFor9, allFor9, allFor9, allFor9}, []int{9, 0, 0, 0}, true}, {[][]int{allFor9, allFor9, allFor9, allFor9}, []int{8, 0, 0, 0}, false},
		{[][]int{a6xorB3, a6xorB3}, []int{3, 0}, true}, {[][]int{a6xorB3, a6xorB3}, []int{2, 0}, false}, {[][]int{a6xorB3, a6xorB3}, []int{2, 3}, false}, {[][]int{a6xorB3, a6xorB3}, []int{6, 3}, true}, {[][]int{a6xorB3, a6xorB3}, []int{3, 3}, true}, {[][]int{a6xorB3, a6xorB3}, []int{6, 4}, false}, {[][]int{a6xorB3, a6xorB3}, []int{7, 3}, false},
		// Tables of noughts, and the greatest ones, of as many bidders as there may be.
		{[][]int{noughts, noughts, noughts, noughts}, []int{0, 0, 0, 0}, true}, {[][]int{noughts, noughts, noughts, noughts}, []int{0, 0, 0, 1}, false}, {[][]int{noughts, noughts, noughts, noughts}, []int{1, 0, 0, 0}, false},
		{[][]int{each30, each30, each30, each30}, []int{30, 30, 30, 0}, true}, {[][]int{each30, each30, each30, each30}, []int{30, 29, 30, 0}, false}, {[][]int{each30, each30, each30, each30}, []int{30, 30, 30, 1}, false}, {[][]int{each30, each30, each30}, []int{0, 0, 0}, true}, {[][]int{each30, each30, each30}, []int{30, 0, 30}, true}, {[][]int{each30, each30, each30}, []int{30, 30, 30}, true},
		// Pivots of nothing are blocked by who wants both things together, for which the others pay together.
		{[][]int{abFor10, aFor10, bFor10}, []int{0, 0, 0}, false}, {[][]int{abFor10, aFor10, bFor10}, []int{0, 5, 4}, false}, {[][]int{abFor10, aFor10, bFor10}, []int{0, 9, 0}, false}, {[][]int{abFor10, aFor10, bFor10}, []int{0, 5, 5}, true}, {[][]int{abFor10, aFor10, bFor10}, []int{0, 0, 10}, true}, {[][]int{abFor10, aFor10, bFor10}, []int{0, 10, 0}, true}, {[][]int{abFor10, aFor10, bFor10}, []int{0, 10, 10}, true}, {[][]int{abFor10, aFor10, bFor10}, []int{0, 0, 11}, false}, {[][]int{abFor10, aFor10, bFor10}, []int{1, 5, 5}, false}, {[][]int{abFor10, aFor10, bFor10}, []int{1, 5, 4}, false},
		{[][]int{aFor10, abFor8, bFor10, abFor10}, []int{5, 0, 5, 0}, true}, {[][]int{aFor10, abFor8, bFor10, abFor10}, []int{4, 0, 4, 0}, false}, {[][]int{aFor10, abFor8, bFor10, abFor10}, []int{5, 0, 4, 0}, false}, {[][]int{aFor10, abFor8, bFor10, abFor10}, []int{5, 1, 4, 0}, false},
		{[][]int{allFor9, aFor4, bFor4, cFor4}, []int{0, 3, 3, 3}, true}, {[][]int{allFor9, aFor4, bFor4, cFor4}, []int{0, 1, 4, 4}, true}, {[][]int{allFor9, aFor4, bFor4, cFor4}, []int{0, 3, 2, 3}, false}, {[][]int{allFor9, aFor4, bFor4, cFor4}, []int{0, 0, 4, 4}, false}, {[][]int{allFor9, aFor4, bFor4, cFor4}, []int{0, 5, 4, 4}, false},
		// Each two pay together at least what the third one would give for all things more than for the own one.
		{[][]int{aOrAll, bOrAll, cOrAll}, []int{2, 2, 2}, false}, {[][]int{aOrAll, bOrAll, cOrAll}, []int{3, 4, 4}, true}, {[][]int{aOrAll, bOrAll, cOrAll}, []int{4, 4, 3}, true}, {[][]int{aOrAll, bOrAll, cOrAll}, []int{3, 3, 4}, false}, {[][]int{aOrAll, bOrAll, cOrAll}, []int{3, 4, 3}, false}, {[][]int{aOrAll, bOrAll, cOrAll}, []int{4, 3, 3}, false}, {[][]int{aOrAll, bOrAll, cOrAll}, []int{2, 5, 5}, true}, {[][]int{aOrAll, bOrAll, cOrAll}, []int{5, 5, 1}, false}, {[][]int{aOrAll, bOrAll, cOrAll}, []int{5, 5, 5}, true}, {[][]int{aOrAll, bOrAll, cOrAll}, []int{5, 6, 5}, false},
	} {
		if ok := impl.InCore(c.tables, c.pays); ok != c.want {
			t.Errorf("InCore(%v, %v) = %v", c.tables, c.pays, ok)
		}
	}
	in, out := 0, 0
	for _, tables := range append(someBundles(), coreBundles()...) {
		owns, worths := wantOwns(tables), wantWorths(tables)
		for _, pays := range paysNear(tables) {
			want := wantIn(owns, worths, pays)
			if ok := impl.InCore(tables, pays); ok != want {
				t.Fatalf("InCore(%v, %v) = %v", tables, pays, ok)
			}
			if want {
				in++
			} else {
				out++
			}
		}
	}
	if in == 0 || out == 0 {
		t.Errorf("%d payments were in the core, and %d were not", in, out)
	}
}

func TestInCoreOthers(t *testing.T) {
	refused := func(tables [][]int, pays []int) {
		t.Helper()
		if impl.InCore(tables, pays) {
			t.Errorf("InCore(%v, %v) = true", tables, pays)
		}
	}
	for _, tables := range wrongBundles() {
		for n := range impl.MaxCrowd + 2 {
			refused(tables, make([]int, n))
		}
		refused(tables, nil)
		refused(tables, make([]int, min(len(tables), 1000)))
	}
	for n := 1; n <= impl.MaxCrowd; n++ {
		for _, tables := range crowdsOf(n, [][]int{noughts, each30, a6xorB3, allFor30}) {
			for _, pays := range wrongPays(n) {
				refused(tables, pays)
			}
			// One number fewer, or more, than what is in the core.
			owns := wantOwns(tables)
			if !impl.InCore(tables, owns) {
				t.Errorf("InCore(%v, %v) = false", tables, owns)
			}
			refused(tables, owns[:n-1])
			refused(tables, append(owns, 0))
		}
	}
}

func TestLeastCore(t *testing.T) {
	for _, c := range []struct {
		tables [][]int
		pays   []int
		sum    int
	}{
		// One bidder, and bidders for nothing.
		{[][]int{noughts}, []int{0}, 0}, {[][]int{sums7}, []int{0}, 0}, {[][]int{each30}, []int{0}, 0}, {[][]int{allFor30}, []int{0}, 0}, {[][]int{noughts, noughts, noughts}, []int{0, 0, 0}, 0}, {[][]int{noughts, allFor9, noughts}, []int{0, 0, 0}, 0},
		// Tables that are the same.
		{[][]int{allFor9, allFor9}, []int{9, 0}, 9}, {[][]int{allFor9, allFor9, allFor9}, []int{9, 0, 0}, 9}, {[][]int{allFor30, allFor30}, []int{30, 0}, 30}, {[][]int{a6xorB3, a6xorB3}, []int{3, 0}, 3}, {[][]int{a6xorB3, a6xorB3, a6xorB3}, []int{6, 3, 0}, 9}, {[][]int{sums7, sums7}, []int{7, 0}, 7}, {[][]int{each5, each5, each5}, []int{0, 0, 0}, 0}, {[][]int{each30, each30, each30}, []int{0, 0, 0}, 0},
		// Pivots that are in the core.
		{[][]int{abFor10, abFor8}, []int{8, 0}, 8}, {[][]int{abFor8, abFor10}, []int{0, 8}, 8}, {[][]int{abFor10, a6xorB3, b6orC2}, []int{0, 4, 6}, 10}, {[][]int{abFor10, a6xorB3}, []int{6, 0}, 6},
		// Pivots that are blocked: of several the lesser number for the first one.
		{[][]int{abFor10, aFor10, bFor10}, []int{0, 0, 10}, 10}, {[][]int{aFor10, abFor10, bFor10}, []int{0, 0, 10}, 10}, {[][]int{aFor10, bFor10, abFor11}, []int{1, 10, 0}, 11}, {[][]int{aFor10, abFor11, bFor10}, []int{1, 0, 10}, 11}, {[][]int{bFor10, abFor2, aFor10}, []int{0, 0, 2}, 2}, {[][]int{abFor2, aFor2, bFor2}, []int{0, 0, 2}, 2},
		{[][]int{aOrAll, bOrAll, cOrAll}, []int{3, 4, 4}, 11}, {[][]int{cOrAll, aOrAll, bOrAll}, []int{3, 4, 4}, 11}, {[][]int{aFor4, bFor4, sumTable([]int{0, 0, 1})}, []int{0, 0, 0}, 0},
	} {
		if pays, n := impl.LeastCore(c.tables); !slices.Equal(pays, c.pays) || n != c.sum {
			t.Errorf("LeastCore(%v) = %v, %d, want %v, %d", c.tables, pays, n, c.pays, c.sum)
		}
	}
	for _, tables := range fewBidders(append(someBundles(), coreBundles()...)) {
		want, least := wantLeastCore(tables)
		if pays, n := impl.LeastCore(tables); !slices.Equal(pays, want) || n != least {
			t.Fatalf("LeastCore(%v) = %v, %d, want %v, %d", tables, pays, n, want, least)
		}
	}
}

func TestIsNested(t *testing.T) {
	for _, c := range []struct {
		tables [][]int
		want   bool
	}{
		// One bidder, and two, always.
		{[][]int{noughts}, true}, {[][]int{allFor30}, true}, {[][]int{each30}, true}, {[][]int{abFor10, abFor8}, true}, {[][]int{abFor10, aFor10}, true}, {[][]int{aOrAll, bOrAll}, true}, {[][]int{allFor9, aFor4}, true}, {[][]int{oddAB, oddAC}, true},
		// Tables that are the same.
		{[][]int{noughts, noughts, noughts, noughts}, true}, {[][]int{allFor9, allFor9, allFor9, allFor9}, true}, {[][]int{each30, each30, each30, each30}, true}, {[][]int{sums7, sums7, sums7}, true}, {[][]int{a6xorB3, a6xorB3, a6xorB3}, true},
		// Things that belong together: two more add more than each one of them.
		{[][]int{abFor10, aFor10, bFor10}, false}, {[][]int{aFor10, bFor10, abFor10}, false}, {[][]int{abFor2, aFor10, bFor10}, false}, {[][]int{aFor10, bFor10, noughts}, true}, {[][]int{aOrAll, bOrAll, cOrAll}, false}, {[][]int{abFor10, abFor8, aFor2}, true}, {[][]int{abFor10, abFor8, allFor9}, true},
		// Four bidders, of whom each three are nested, and others.
		{[][]int{allFor9, aFor4, bFor4, cFor4}, false}, {[][]int{aFor4, bFor4, allFor9, cFor4}, false}, {[][]int{allFor9, aFor4, bFor4}, true}, {[][]int{allFor9, aFor4, cFor4}, true}, {[][]int{allFor9, bFor4, cFor4}, true}, {[][]int{aFor4, bFor4, cFor4}, true}, {[][]int{noughts, abFor10, aFor10, bFor10}, false}, {[][]int{abFor10, aFor10, bFor10, noughts}, false}, {[][]int{a6xorB3, noughts, b6orC2, a6xorB3}, true},
	} {
		if ok := impl.IsNested(c.tables); ok != c.want {
			t.Errorf("IsNested(%v) = %v", c.tables, ok)
		}
	}
	nested, others := 0, 0
	for _, tables := range append(someBundles(), coreBundles()...) {
		want := wantNested(tables)
		if ok := impl.IsNested(tables); ok != want {
			t.Fatalf("IsNested(%v) = %v", tables, ok)
		}
		if want {
			nested++
		} else {
			others++
		}
	}
	if nested == 0 || others == 0 {
		t.Errorf("%d tables were nested, and %d were not", nested, others)
	}
}

func TestLeastCoreAndIsNestedOthers(t *testing.T) {
	for _, tables := range wrongBundles() {
		if pays, n := impl.LeastCore(tables); pays != nil || n != -1 {
			t.Errorf("LeastCore(%v) = %v, %d", tables, pays, n)
		}
		if impl.IsNested(tables) {
			t.Errorf("IsNested(%v) = true", tables)
		}
	}
	// One bidder more than LeastCore is told of.
	for _, tables := range append(crowdsOf(4, [][]int{noughts, each30, aFor10}), fewFours()...) {
		if pays, n := impl.LeastCore(tables); pays != nil || n != -1 {
			t.Errorf("LeastCore(%v) = %v, %d", tables, pays, n)
		}
	}
}

func TestP56MoreBiddersAreWorthNoLess(t *testing.T) {
	more, same := 0, 0
	for _, tables := range append(someBundles(), coreBundles()...) {
		n := len(tables)
		if all := impl.WorthWith(tables, 1<<n-1); all != impl.SplitWorth(tables, 7) {
			t.Fatalf("WorthWith(%v) of all is %d, but SplitWorth is %d", tables, all, impl.SplitWorth(tables, 7))
		}
		for set := range 1 << n {
			worth := impl.WorthWith(tables, set)
			if worth < 0 {
				t.Fatalf("WorthWith(%v, %d) = %d", tables, set, worth)
			}
			for i := range n {
				if set>>i%2 == 1 {
					continue
				}
				with := impl.WorthWith(tables, set+1<<i)
				if with < worth {
					t.Fatalf("WorthWith(%v, %d) = %d, but with bidder %d it is %d", tables, set, worth, i, with)
				}
				if with > worth {
					more++
				} else {
					same++
				}
			}
		}
	}
	if more == 0 || same == 0 {
		t.Errorf("one bidder more was worth more %d times, and the same %d times", more, same)
	}
}

func TestP57InTheCoreAllPayAtLeastTheirPivots(t *testing.T) {
	in, above, blocked := 0, 0, 0
	for _, tables := range append(someBundles(), coreBundles()...) {
		pivots := impl.PivotPays(tables)
		sets, _ := impl.BestSplit(tables)
		if len(pivots) != len(tables) || len(sets) != len(tables) {
			t.Fatalf("of %v PivotPays is %v, and BestSplit %v", tables, pivots, sets)
		}
		owns := make([]int, len(tables))
		for i, own := range tables {
			owns[i] = own[sets[i]]
		}
		if !impl.InCore(tables, owns) {
			t.Fatalf("InCore(%v, %v) = false, but it is what the own sets are worth", tables, owns)
		}
		if !impl.InCore(tables, pivots) {
			blocked++
		}
		for _, pays := range paysNear(tables) {
			if !impl.InCore(tables, pays) {
				continue
			}
			in++
			for i := range tables {
				if pays[i] < pivots[i] {
					t.Fatalf("InCore(%v, %v) holds, but PivotPays is %v", tables, pays, pivots)
				}
				if pays[i] > pivots[i] && pivots[i] > 0 {
					above++
				}
			}
		}
	}
	if in == 0 || above == 0 || blocked == 0 {
		t.Errorf("%d payments were in the core, %d above pivots, and %d pivots were blocked", in, above, blocked)
	}
}

func TestP58TheLeastCoreIsInTheCore(t *testing.T) {
	same, more := 0, 0
	for _, tables := range fewBidders(append(someBundles(), coreBundles()...)) {
		pays, n := impl.LeastCore(tables)
		pivots := impl.PivotPays(tables)
		if len(pays) != len(tables) || sum(pays) != n || !impl.InCore(tables, pays) {
			t.Fatalf("LeastCore(%v) = %v, %d, of which InCore is %v", tables, pays, n, impl.InCore(tables, pays))
		}
		if n < sum(pivots) || n > sum(pivots) && impl.InCore(tables, pivots) {
			t.Fatalf("LeastCore(%v) = %v, %d, but PivotPays is %v, of which InCore is %v", tables, pays, n, pivots, impl.InCore(tables, pivots))
		}
		if n == sum(pivots) {
			same++
		} else {
			more++
		}
	}
	if same == 0 || more == 0 {
		t.Errorf("the least core was the pivots %d times, and more %d times", same, more)
	}
	// Of more bidders than LeastCore is told of, too.
	nested, inside, blocked := 0, 0, 0
	for _, tables := range append(someBundles(), coreBundles()...) {
		in := impl.InCore(tables, impl.PivotPays(tables))
		switch {
		case impl.IsNested(tables):
			if !in {
				t.Fatalf("IsNested(%v) holds, but PivotPays %v is not in the core", tables, impl.PivotPays(tables))
			}
			nested++
		case in:
			inside++
		default:
			blocked++
		}
	}
	if nested == 0 || inside == 0 || blocked == 0 {
		t.Errorf("%d tables were nested, and of others %d pivots were in the core, and %d were blocked", nested, inside, blocked)
	}
}

func TestP59WhereThingsMayBeMovedMoreBiddersAddLessToMore(t *testing.T) {
	more := 0
	for _, tables := range append(movableCrowds(), movableBundles()...) {
		checkMovableCrowd(t, tables)
		if !impl.IsNested(tables) {
			t.Fatalf("IsNested(%v) = false", tables)
		}
		if len(tables) > 2 && sum(impl.AddsOf(tables)) > 0 {
			more++
		}
	}
	if more == 0 {
		t.Error("of no more than two bidders one added something")
	}
	// Where things may not be moved, they add more to more or not.
	nested, others := 0, 0
	for _, tables := range coreBundles() {
		if slices.ContainsFunc(tables, func(tab []int) bool { return !impl.SwapsByMoves(tab) }) {
			if impl.IsNested(tables) {
				nested++
			} else {
				others++
			}
		}
	}
	if nested == 0 || others == 0 {
		t.Errorf("of tables whose things may not be moved %d were nested, and %d not", nested, others)
	}
}

func TestP87PricesThatClearAreInTheCore(t *testing.T) {
	above, fixed := 0, 0
	check := func(tables [][]int, p []int) {
		t.Helper()
		sets, _ := impl.BestSplit(tables)
		costs := make([]int, len(tables))
		for i, own := range tables {
			if !slices.Contains(impl.DemandAt(own, p), sets[i]) {
				t.Fatalf("IsClear(%v, %v) holds, but of BestSplit %v bidder %d wants %v", tables, p, sets, i, impl.DemandAt(own, p))
			}
			costs[i] = sum(aloneIn(sets[i], p))
			if !impl.SwapsByMoves(own) {
				fixed++
			}
		}
		if !impl.InCore(tables, costs) {
			t.Fatalf("IsClear(%v, %v) holds, but what the sets %v cost, %v, is not in the core", tables, p, sets, costs)
		}
		if sum(costs) > sum(impl.PivotPays(tables)) {
			above++
		}
	}
	for at, tables := range append(coreBundles(), movableCrowds()...) {
		climb, _ := impl.ClimbPrices(tables)
		prices := [][]int{climb, impl.LeastPrices(tables), impl.MostPrices(tables)}
		if at%3 == 0 {
			prices = append(prices, impl.ClearPrices(tables, impl.MaxTop)...)
		}
		for _, p := range prices {
			if impl.IsClear(tables, p) {
				check(tables, p)
			}
		}
	}
	if above == 0 || fixed == 0 {
		t.Errorf("sets cost more than pivots %d times, and were of things that may not be moved %d times", above, fixed)
	}
}

func TestP94TheLeastCoreIsBetweenPivotsAndTheOwnWorth(t *testing.T) {
	less, paid := 0, 0
	for _, tables := range fewBidders(append(movableCrowds(), movableBundles()...)) {
		checkMovableCrowd(t, tables)
		pays, n := impl.LeastCore(tables)
		if len(pays) != len(tables) || !slices.Equal(pays, impl.PivotPays(tables)) {
			t.Fatalf("LeastCore(%v) = %v, %d, but PivotPays is %v", tables, pays, n, impl.PivotPays(tables))
		}
		sets, _ := impl.BestSplit(tables)
		climb, _ := impl.ClimbPrices(tables)
		for i, own := range tables {
			cost := sum(aloneIn(sets[i], climb))
			if cost < pays[i] || pays[i] > own[sets[i]] {
				t.Fatalf("LeastCore(%v) = %v, but by ClimbPrices %v bidder %d pays %d, and has %d", tables, pays, climb, i, cost, own[sets[i]])
			}
			if pays[i] < cost {
				less++
			}
		}
		paid += n
	}
	if less == 0 || paid == 0 {
		t.Errorf("by climbing more was paid %d times, and by the least core %d in all", less, paid)
	}
}

// callCore calls all functions of the chapter.
func callCore(tables [][]int, set int, pays []int) {
	impl.WorthWith(tables, set)
	impl.InCore(tables, pays)
	impl.LeastCore(tables)
	impl.IsNested(tables)
}

func TestCoreKeepsArguments(t *testing.T) {
	bundles := append(wrongBundles()[:40], crowdsOf(2, fewTables())...)
	bundles = append(append(bundles, fewFours()...), [][]int{noughts}, [][]int{each30}, [][]int{aOrAll, bOrAll, cOrAll}, [][]int{abFor10, aFor10, bFor10})
	for _, tables := range bundles {
		lists := [][]int{nil, {0}, {5, 3}, {1, 0, 31}, {0, 5, 5}, {0, 0, 0, 0}, {30, 30, 30, 30}, {-1, 0}, {0, 0, 0, 0, 0}}
		if impl.PivotPays(tables) != nil {
			lists = append(lists, wantOwns(tables), impl.PivotPays(tables))
		}
		for at, list := range lists {
			r, pays := roomyRows(tables), roomy(list)
			callCore(r, at-1, pays)
			callCore(r, 1<<min(len(tables), 5)-1, pays)
			if !roomyRowsAreKept(r, tables) || !roomyIsKept(pays, list) {
				t.Fatalf("the tables %v and the payments %v become %v and %v", tables, list, r, pays)
			}
		}
	}
}

func TestCoreOfArgumentsInTheSameMemory(t *testing.T) {
	own := slices.Clone(a6xorB3)
	tables := [][]int{own, own, own}
	// The numbers of the sets a, b and both are payments of all, too.
	pays := own[1:4]
	for range 2 {
		callCore(tables, 5, pays)
		if !slices.Equal(own, a6xorB3) || !sameRows(tables, [][]int{own, own, own}) {
			t.Fatalf("tables and payments in the same memory become %v and %v", tables, pays)
		}
		least, n := impl.LeastCore(tables)
		if !slices.Equal(least, []int{6, 3, 0}) || n != 9 || impl.InCore(tables, pays) || !impl.InCore(tables[:2], pays[:2]) || impl.WorthWith(tables, 5) != 9 || !impl.IsNested(tables) {
			t.Fatalf("of %v LeastCore is %v, %d, InCore of %v is %v, and WorthWith of the first and the last one %d", tables, least, n, pays, impl.InCore(tables, pays), impl.WorthWith(tables, 5))
		}
	}
}

func TestCoreSharesNoMemory(t *testing.T) {
	least := func(tables [][]int) []int {
		pays, _ := impl.LeastCore(tables)
		return pays
	}
	wantLeastOf := func(tables [][]int) []int {
		pays, _ := wantLeastCore(tables)
		return pays
	}
	lists := []listMaker{{"LeastCore", least, wantLeastOf}}
	for _, tables := range append(crowdsOf(2, fewTables()), [][]int{noughts}, [][]int{each30}, [][]int{aOrAll, bOrAll, cOrAll}, [][]int{abFor10, aFor10, bFor10}) {
		checkListsApart(t, lists, tables)
	}
}

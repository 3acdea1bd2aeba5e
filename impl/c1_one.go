package impl

import (
	"iter"
	"slices"
)

// MaxBid is the greatest bid.
const MaxBid = 30

// MaxBidders is the largest number of bidders.
const MaxBidders = 6

// MaxFew is the largest number of bidders of whom all bids are tried.
const MaxFew = 3

// MaxTop is the greatest bid of those that are tried.
const MaxTop = 5

// A sale returns what each bidder pays when the bidder at has the thing, at being -1 when no one has it.
type sale func(bids []int, at int, reserve int) []int

// ValidBids reports whether numbers are bids.
func ValidBids(bids []int) bool {
	return areAll(bids, MaxBidders, isBid)
}

// SaleBy returns who gets the thing, and what all pay.
func SaleBy(kind string, bids []int, reserve int) (int, []int) {
	pays := saleOf(kind)
	if pays == nil || !ValidBids(bids) || !isBid(reserve) {
		return -1, nil
	}
	at := winnerOf(bids, reserve)
	return at, pays(bids, at, reserve)
}

// LeastToWin returns the least bid with which a bidder has the thing.
func LeastToWin(bids []int, i int, reserve int) (int, bool) {
	if !isBidder(bids, i) || !isBid(reserve) {
		return 0, false
	}
	tried := slices.Clone(bids)
	for b := range MaxBid + 1 {
		tried[i] = b
		if winnerOf(tried, reserve) == i {
			return b, true
		}
	}
	return 0, false
}

// GainOf returns what a bidder has of a sale.
func GainOf(kind string, bids []int, i int, value int, reserve int) (int, bool) {
	pays := saleOf(kind)
	if pays == nil || !isBidder(bids, i) || !isBid(value) || !isBid(reserve) {
		return 0, false
	}
	return gainBy(pays, bids, i, value, reserve), true
}

// BestBid returns the bid by which a bidder has most.
func BestBid(kind string, bids []int, i int, value int, reserve int) (int, int, bool) {
	pays := saleOf(kind)
	if pays == nil || !isBidder(bids, i) || !isBid(value) || !isBid(reserve) {
		return 0, 0, false
	}
	bid, gain := bestUpTo(MaxBid, pays, bids, i, value, reserve)
	return bid, gain, true
}

// IsTrue reports whether truth is best by a kind.
func IsTrue(kind string, n int, top int) bool {
	pays := saleOf(kind)
	if pays == nil || n < 1 || n > MaxFew || !isTop(top) {
		return false
	}
	for values := range allLists(n, top) {
		// One bid above the top, since a bidder may have to go beyond it to have the thing.
		if !allRest(top+1, pays, values, values) {
			return false
		}
	}
	return true
}

// RestsOf returns the bids at which no one has more of another one.
func RestsOf(kind string, values []int, top int) [][]int {
	pays := saleOf(kind)
	if pays == nil || !ValidBids(values) || len(values) > MaxFew || !isTop(top) {
		return nil
	}
	var rests [][]int
	for bids := range allLists(len(values), top) {
		if allRest(top, pays, bids, values) {
			rests = append(rests, bids)
		}
	}
	return rests
}

// areAll reports whether there are elements, at most so many, and all of them are what is told.
func areAll[T any](list []T, most int, is func(T) bool) bool {
	if len(list) < 1 || len(list) > most {
		return false
	}
	for _, x := range list {
		if !is(x) {
			return false
		}
	}
	return true
}

// isBid reports whether a number is in the range of bids, which is that of reserves and values, too.
func isBid(b int) bool {
	return b >= 0 && b <= MaxBid
}

// isBidder reports whether the bids are valid and there is a bidder i among them.
func isBidder(bids []int, i int) bool {
	return ValidBids(bids) && i >= 0 && i < len(bids)
}

// isTop reports whether all bids up to a number may be tried.
func isTop(top int) bool {
	return top >= 0 && top <= MaxTop
}

// saleOf returns the sale of a kind, nil if there is no such kind.
func saleOf(kind string) sale {
	switch kind {
	case "first":
		return priceOfRank(1)
	case "second":
		return priceOfRank(2)
	case "third":
		return priceOfRank(3)
	case "all":
		return allPay
	}
	return nil
}

// priceOfRank returns the sale in which only the winner pays: the bid of a rank, or the reserve.
// The bid of rank 1 is the winner's own, which is never below the reserve.
func priceOfRank(rank int) sale {
	return func(bids []int, at int, reserve int) []int {
		pays := make([]int, len(bids))
		if at >= 0 {
			pays[at] = max(reserve, bidOfRank(bids, rank))
		}
		return pays
	}
}

// allPay is the sale in which each bidder pays the own bid, even if no one has the thing.
func allPay(bids []int, _ int, _ int) []int {
	return slices.Clone(bids)
}

// bidOfRank returns the greatest bid for rank 1, the second greatest one for rank 2, and so on, 0 if there are fewer.
func bidOfRank(bids []int, rank int) int {
	if rank > len(bids) {
		return 0
	}
	sorted := slices.Clone(bids)
	slices.Sort(sorted)
	return sorted[len(sorted)-rank]
}

// winnerOf returns the first bidder with the greatest bid, -1 if this is below the reserve.
func winnerOf(bids []int, reserve int) int {
	at := 0
	for i, b := range bids {
		if b > bids[at] {
			at = i
		}
	}
	if bids[at] < reserve {
		return -1
	}
	return at
}

// gainBy returns what the bidder i has of a sale: the value, if the thing is won, less what is paid.
func gainBy(pays sale, bids []int, i int, value int, reserve int) int {
	at := winnerOf(bids, reserve)
	gain := -pays(bids, at, reserve)[i]
	if at == i {
		gain += value
	}
	return gain
}

// bestUpTo returns the least bid in 0..top by which the bidder i gains the most, and this gain.
func bestUpTo(top int, pays sale, bids []int, i int, value int, reserve int) (int, int) {
	tried := slices.Clone(bids)
	tried[i] = 0
	bid, most := 0, gainBy(pays, tried, i, value, reserve)
	for b := 1; b <= top; b++ {
		tried[i] = b
		if gain := gainBy(pays, tried, i, value, reserve); gain > most {
			bid, most = b, gain
		}
	}
	return bid, most
}

// allRest reports whether at the bids, without reserve, no bidder gains more by another bid in 0..top.
func allRest(top int, pays sale, bids []int, values []int) bool {
	for i, value := range values {
		if _, most := bestUpTo(top, pays, bids, i, value, 0); most > gainBy(pays, bids, i, value, 0) {
			return false
		}
	}
	return true
}

// allLists goes through all lists of n numbers in 0..top, in the order of the first number, then of the second one, and so on.
// Each slice is new, so that it may be kept.
func allLists(n int, top int) iter.Seq[[]int] {
	return func(yield func([]int) bool) {
		list := make([]int, n)
		for yield(slices.Clone(list)) && nextList(list, top) {
		}
	}
}

// nextList turns numbers in 0..top into those that follow, and reports whether there are any.
func nextList(list []int, top int) bool {
	for i := len(list) - 1; i >= 0; i-- {
		if list[i] < top {
			list[i]++
			return true
		}
		list[i] = 0
	}
	return false
}

package tests

import (
	"math"
	"regexp"
	"slices"
	"strconv"
	"strings"
	"testing"

	"loop.example/salesbybids/impl"
)

// allSets are all sets of things.
var allSets = upTo(7)

// wrongSets are numbers that are no set of things.
var wrongSets = []int{-1, 8, 9, 15, -8, math.MinInt, math.MaxInt}

// parts are the parts of a set, itself among them.
func parts(set int) []int {
	var all []int
	for part := range set + 1 {
		if part&set == part {
			all = append(all, part)
		}
	}
	return all
}

// wantValidTable is what the document says of ValidTable, each set compared with all of its parts.
func wantValidTable(t []int) bool {
	if len(t) != 8 || t[0] != 0 {
		return false
	}
	for set, worth := range t {
		if worth < 0 || worth > 30 {
			return false
		}
		for _, part := range parts(set) {
			if t[part] > worth {
				return false
			}
		}
	}
	return true
}

// tablesWith are all tables with some of the numbers.
func tablesWith(numbers ...int) [][]int {
	var all [][]int
	for _, l := range listsOf(7, numbers...) {
		if t := append([]int{0}, l...); wantValidTable(t) {
			all = append(all, t)
		}
	}
	return all
}

// tableBy is the table by which each set but none is worth what is told of it.
func tableBy(worth func(set int) int) []int {
	t := make([]int, 8)
	for set := 1; set < 8; set++ {
		t[set] = worth(set)
	}
	return t
}

// aloneIn are the numbers of the things in a set, told those of a, b and c.
func aloneIn(set int, numbers []int) []int {
	var all []int
	for thing, x := range numbers {
		if set&(1<<thing) != 0 {
			all = append(all, x)
		}
	}
	return all
}

// sumTable is the table by which each set is worth the sum of what its things are.
func sumTable(numbers []int) []int {
	return tableBy(func(set int) int { return sum(aloneIn(set, numbers)) })
}

// oneTable is the table by which each set is worth the greatest of what its things are.
func oneTable(numbers []int) []int {
	return tableBy(func(set int) int { return slices.Max(aloneIn(set, numbers)) })
}

// someTables are tables of noughts and of one number, all with few numbers and both ends of the range, some by sums and by the best thing, and some others.
func someTables() [][]int {
	all := append(tablesWith(0, 7, 30), tablesWith(0, 1, 2, 3)...)
	for _, numbers := range listsOf(3, 0, 1, 4, 10) {
		all = append(all, sumTable(numbers), oneTable(numbers))
	}
	return append(all, [][]int{
		{0, 3, 0, 5, 0, 3, 0, 5}, {0, 3, 4, 7, 0, 3, 4, 7}, {0, 0, 0, 0, 0, 0, 0, 30}, {0, 0, 0, 10, 0, 10, 10, 10}, {0, 1, 2, 3, 4, 5, 6, 7},
		{0, 24, 25, 27, 26, 28, 29, 30}, {0, 10, 11, 15, 12, 16, 17, 18}, {0, 5, 5, 9, 5, 9, 9, 12}, {0, 5, 5, 9, 5, 9, 9, 14}, {0, 6, 4, 6, 3, 9, 7, 9},
	}...)
}

// wrongTables are numbers that are no table: too few, too many, out of range, something for none, or less for more.
func wrongTables() [][]int {
	wrong := [][]int{nil, {}, {0}, {0, 1, 2, 3}, make([]int, 7), make([]int, 9), make([]int, 16), make([]int, 1000), {0, 1, 1, 1, 1, 1, 1}, {0, 1, 1, 1, 1, 1, 1, 1, 1}}
	for _, x := range []int{-1, 31, math.MinInt, math.MaxInt} {
		for _, set := range allSets {
			wrong = append(wrong, with(make([]int, 8), set, x), with([]int{0, 30, 30, 30, 30, 30, 30, 30}, set, x))
		}
		wrong = append(wrong, []int{0, x, x, x, x, x, x, x}, []int{x, x, x, x, x, x, x, x})
	}
	wrong = append(wrong, []int{1, 1, 1, 1, 1, 1, 1, 1}, []int{30, 30, 30, 30, 30, 30, 30, 30}, []int{1, 0, 0, 0, 0, 0, 0, 0}, []int{1, 2, 3, 4, 5, 6, 7, 8})
	// Each set, in turn, is worth less than one of its parts.
	for _, set := range allSets {
		for _, part := range parts(set) {
			if part > 0 && part < set {
				t := tableBy(func(s int) int {
					if part&s == part {
						return 5
					}
					return 0
				})
				wrong = append(wrong, with(t, set, 4))
			}
		}
	}
	return append(wrong, []int{0, 2, 0, 1, 0, 2, 0, 2}, []int{0, 0, 0, 0, 5, 5, 5, 4}, []int{0, 30, 30, 30, 30, 30, 30, 29}, []int{0, 9, 9, 9, 9, 9, 8, 9})
}

// fewTables are tables of bidders for nothing, for all things, for one thing, for each one, and for two things together, of which some are the same.
func fewTables() [][]int {
	return [][]int{
		{0, 0, 0, 0, 0, 0, 0, 0}, {0, 0, 0, 0, 0, 0, 0, 30}, {0, 5, 0, 5, 0, 5, 0, 5}, {0, 5, 5, 5, 5, 5, 5, 5}, {0, 5, 5, 10, 5, 10, 10, 15},
		{0, 0, 0, 10, 0, 0, 0, 10}, {0, 6, 3, 6, 0, 6, 3, 6}, {0, 0, 6, 6, 2, 2, 8, 8}, {0, 5, 5, 9, 5, 9, 9, 12}, {0, 0, 0, 10, 0, 10, 10, 10},
	}
}

// someBundles are the tables of one up to four bidders: all pairs and threes of a few, some fours, and others.
func someBundles() [][][]int {
	all := crowdsOf(1, someTables())
	all = append(all, crowdsOf(2, append(tablesWith(0, 7), fewTables()...))...)
	all = append(all, crowdsOf(3, fewTables())...)
	all = append(all, crowdsOf(4, fewTables()[:5])...)
	return append(all, [][][]int{
		{{0, 0, 0, 10, 0, 0, 0, 10}, {0, 6, 3, 6, 0, 6, 3, 6}, {0, 0, 6, 6, 2, 2, 8, 8}},
		{{0, 30, 30, 30, 30, 30, 30, 30}, {0, 30, 30, 30, 30, 30, 30, 30}, {0, 30, 30, 30, 30, 30, 30, 30}, {0, 30, 30, 30, 30, 30, 30, 30}},
		{{0, 0, 0, 0, 0, 0, 0, 0}, {0, 0, 0, 0, 0, 0, 0, 0}, {0, 0, 0, 0, 0, 0, 0, 0}, {0, 0, 0, 0, 0, 0, 0, 1}},
		{{0, 1, 2, 3, 4, 5, 6, 7}, {0, 4, 2, 6, 1, 5, 3, 7}, {0, 2, 4, 6, 1, 3, 5, 7}, {0, 10, 10, 10, 10, 10, 10, 10}},
		{{0, 9, 8, 14, 7, 13, 12, 18}, {0, 8, 9, 13, 7, 12, 14, 18}, {0, 7, 8, 12, 9, 14, 13, 18}, {0, 0, 0, 16, 0, 16, 16, 27}},
		{{0, 0, 0, 20, 0, 0, 0, 20}, {0, 0, 0, 0, 0, 0, 20, 20}, {0, 0, 0, 0, 0, 20, 0, 20}, {0, 7, 7, 7, 7, 7, 7, 7}},
	}...)
}

// wrongBundles are tables that are not those of bidders: none, too many, or one that is no table.
func wrongBundles() [][][]int {
	zero, one := make([]int, 8), []int{0, 5, 0, 5, 0, 5, 0, 5}
	wrong := [][][]int{nil, {}, {zero, zero, zero, zero, zero}, {one, one, one, one, one}, make([][]int, 4), make([][]int, 1000)}
	for _, t := range wrongTables() {
		wrong = append(wrong, [][]int{t}, [][]int{t, one}, [][]int{one, t}, [][]int{one, zero, one, t})
	}
	return wrong
}

// An offer is a set and its number, of which a text of offers is made.
type offer struct{ set, number int }

// textOf is the text of offers with a word between them.
func textOf(word string, offers []offer) string {
	var all []string
	for _, o := range offers {
		letters := []string{"", "a", "b", "ab", "c", "ac", "bc", "abc"}[o.set]
		all = append(all, letters+":"+strconv.Itoa(o.number))
	}
	return strings.Join(all, " "+word+" ")
}

// byXor is the table of offers by xor: the greatest number of those for parts.
func byXor(offers []offer) []int {
	return tableBy(func(set int) int {
		best := 0
		for _, o := range offers {
			if slices.Contains(parts(set), o.set) {
				best = max(best, o.number)
			}
		}
		return best
	})
}

// bestSum is the greatest sum of some of the offers for things of the set that have none in common, each one tried with and without.
func bestSum(offers []offer, set int) int {
	if len(offers) == 0 {
		return 0
	}
	o, best := offers[0], bestSum(offers[1:], set)
	if slices.Contains(parts(set), o.set) {
		best = max(best, o.number+bestSum(offers[1:], set-o.set))
	}
	return best
}

// byOr is the table of offers by or, which may have numbers that are too great.
func byOr(offers []offer) []int {
	return tableBy(func(set int) int { return bestSum(offers, set) })
}

// offerForm and textForm are what texts are like, but for how many offers there are; textForm without the text that is empty.
const offerForm = `(?:abc|ab|ac|bc|a|b|c):(?:30|[12][0-9]|[0-9])`

var textForm = regexp.MustCompile(`\A(?:` + offerForm + `(?: xor ` + offerForm + `)*|` + offerForm + `(?: or ` + offerForm + `)*)\z`)

// wantTableOf is what the document says of TableOf, nil if there is no table.
func wantTableOf(s string) []int {
	if s == "" {
		return make([]int, 8)
	}
	if !textForm.MatchString(s) {
		return nil
	}
	var offers []offer
	for _, found := range regexp.MustCompile(`([abc]+):([0-9]+)`).FindAllStringSubmatch(s, -1) {
		set := 0
		for i, letter := range []string{"a", "b", "c"} {
			if strings.Contains(found[1], letter) {
				set += 1 << i
			}
		}
		number, _ := strconv.Atoi(found[2])
		offers = append(offers, offer{set, number})
	}
	t := byXor(offers)
	if strings.Contains(s, " or ") {
		t = byOr(offers)
	}
	if len(offers) > 7 || !wantValidTable(t) {
		return nil
	}
	return t
}

// offersOf are all offers with some of the numbers.
func offersOf(numbers ...int) []offer {
	var all []offer
	for set := 1; set < 8; set++ {
		for _, x := range numbers {
			all = append(all, offer{set, x})
		}
	}
	return all
}

// someOffers are lists of one up to seven offers: all of one and of two with few numbers, all of three with one number, and some more.
func someOffers() [][]offer {
	var all [][]offer
	add := func(n int, from []offer) {
		for _, places := range listsOf(n, upTo(len(from)-1)...) {
			var list []offer
			for _, p := range places {
				list = append(list, from[p])
			}
			all = append(all, list)
		}
	}
	add(1, offersOf(upTo(30)...))
	add(2, offersOf(0, 3, 5, 30))
	add(3, offersOf(4, 11))
	add(4, []offer{{1, 6}, {2, 9}, {3, 14}, {5, 8}, {6, 16}, {7, 22}})
	add(7, []offer{{1, 5}, {6, 8}, {7, 11}})
	seven := []offer{{1, 4}, {2, 5}, {3, 11}, {4, 6}, {5, 9}, {6, 12}, {7, 16}}
	for n := range seven {
		all = append(all, seven[n:], seven[:n+1])
	}
	return all
}

// someTexts are texts of tables.
func someTexts() []string {
	texts := []string{""}
	for _, offers := range someOffers() {
		for _, word := range []string{"xor", "or"} {
			if s := textOf(word, offers); wantTableOf(s) != nil {
				texts = append(texts, s)
			}
		}
	}
	return texts
}

// wrongTexts are texts that are none, and some without a table.
func wrongTexts() []string {
	return []string{
		// No offers, and spaces too many.
		" ", "  ", "xor", "or", " xor ", " or ", " a:1", "a:1 ", "a :1", "a: 1", "a b:1", "a:1\n", "\ta:1", "a:1\x00", "\x00",
		// No or other things, letters out of order or twice.
		":", ":1", "::1", "a", "abc", "1", "30", "0", "d:1", "A:1", "AB:1", "ad:1", "abcd:1", "x:1", "a1:1", "a,b:1", "ba:1", "ca:1", "cb:1", "acb:1", "bac:1", "cba:1", "aa:1", "abb:1", "aba:1", "bcb:1", "abca:1", "ä:1", "\xff:1", "a\xff:1", "\xffa:1", "aа:1", "á:1",
		// No numbers, out of range, or not in decimal.
		"a:", "ab:", "a:31", "a:32", "a:40", "a:100", "a:300", "a:-1", "a:-0", "a:+1", "a:+0", "a:01", "a:00", "a:030", "a:1.0", "a:1e1", "a:0x1", "a:0b1", "a:1_0", "a:x", "a:1a", "a:a", "a:1:1", "a:1:", "a::1", "a:1b:2", "a:18446744073709551617", "a:9223372036854775808", "a:-9223372036854775809", "a:٣", "a:１", "a:1\xff",
		// Other words, mixed words, and words at an end.
		"a:1 and b:2", "a:1 b:2", "a:1,b:2", "a:1 XOR b:2", "a:1 Or b:2", "a:1 xo b:2", "a:1 xxor b:2", "a:1 orr b:2", "a:1 nor b:2", "a:1 x or b:2", "a:1 | b:2", "a:1 xor b:2 or c:3", "a:1 or b:2 xor c:3", "a:1 xor b:2 or c:3 xor a:4", "a:1 or b:2 xor c:3 or a:4", "a:1 xor b:2 xor c:3 or ab:4", "a:1 xor", "a:1 or", "a:1 xor ", "a:1 or ", "xor a:1", "or a:1", " xor a:1", " or a:1", "a:1 xor b:2 xor", "a:1 or b:2 or ", "a:1 or or b:2", "a:1 xor xor b:2", "a:1 or  or b:2", "a:1 xor  xor b:2", "a:1 or xor b:2", "a:1 xor or b:2",
		// Spaces too many or too few.
		"a:1  xor b:2", "a:1 xor  b:2", "a:1  or b:2", "a:1 or  b:2", "a:1xor b:2", "a:1 xorb:2", "a:1or b:2", "a:1 orb:2", "a:1xorb:2", "a:1orb:2", "a:1\txor\tb:2", "a:1\nor\nb:2", " a:1 xor b:2", "a:1 xor b:2 ", "a:1 or b :2", "a:1 xor b: 2", "a:1\u00a0or\u00a0b:2", "a:1 or\u2003b:2",
		// A wrong offer among others.
		"a:1 xor ba:2", "ba:1 xor a:2", "a:1 or b:31", "a:1 or :2 or c:3", "a:1 xor b xor c:3", "a:1 xor b:2 xor c:03",
		// Too many offers.
		strings.Repeat("a:1 xor ", 7) + "a:1", strings.Repeat("a:1 or ", 7) + "a:1", strings.Repeat("a:0 xor ", 8) + "a:0", strings.Repeat("a:0 or ", 1000) + "b:0", strings.Repeat("a:1 xor ", 7) + "b",
		// Worth more than the greatest bid.
		"a:20 or b:20", "a:30 or b:1", "a:30 or bc:1", "a:10 or b:10 or c:11", "a:1 or ab:30 or c:1", "a:0 or b:1 or ac:30", "abc:30 or a:16 or bc:15",
		strings.Repeat("a", 1000) + ":1", "a:" + strings.Repeat("1", 1000), "a:" + strings.Repeat("0", 1000), strings.Repeat(" ", 1000), strings.Repeat("a:1 ", 1000),
	}
}

// bentTexts are all texts that a text becomes by one byte less, and by one of the bytes more, or in place of another one.
func bentTexts(s, bytes string) []string {
	bent := []string{s}
	for at := range len(s) + 1 {
		if at < len(s) {
			bent = append(bent, s[:at]+s[at+1:])
		}
		for i := range len(bytes) {
			bent = append(bent, s[:at]+bytes[i:i+1]+s[at:])
			if at < len(s) {
				bent = append(bent, s[:at]+bytes[i:i+1]+s[at+1:])
			}
		}
	}
	return bent
}

// wantShow is what the document says of ShowTable, each set compared with all of its parts that are less than it.
func wantShow(t []int) string {
	var offers []offer
	for set := 1; set < 8; set++ {
		most := 0
		for _, part := range parts(set) {
			if part != set {
				most = max(most, t[part])
			}
		}
		if t[set] > most {
			offers = append(offers, offer{set, t[set]})
		}
	}
	return textOf("xor", offers)
}

// wantSplit is what the document says of SplitWorth, found by trying all parts for the first bidder, 0 without bidders.
func wantSplit(tables [][]int, set int) int {
	if len(tables) == 0 {
		return 0
	}
	most := 0
	for _, part := range parts(set) {
		most = max(most, tables[0][part]+wantSplit(tables[1:], set-part))
	}
	return most
}

// wantBest is what the document says of BestSplit: a goes from the first bidder to none, and in each case b, and c.
func wantBest(tables [][]int) ([]int, int) {
	n := len(tables)
	var best []int
	most := -1
	for a := range n + 1 {
		for b := range n + 1 {
			for c := range n + 1 {
				has := make([]int, n+1)
				has[a] += 1
				has[b] += 2
				has[c] += 4
				worth := 0
				for i, t := range tables {
					worth += t[has[i]]
				}
				if worth > most {
					best, most = has[:n], worth
				}
			}
		}
	}
	return best, most
}

// wantModest is what the document says of IsModest.
func wantModest(t []int) bool {
	for _, a := range allSets {
		for _, b := range allSets {
			if t[a]+t[b] < t[a|b]+t[a&b] {
				return false
			}
		}
	}
	return true
}

func TestBundlesLimits(t *testing.T) {
	if impl.Things != 3 || impl.MaxOffers != 7 || impl.MaxBid != 30 || impl.MaxCrowd != 4 {
		t.Error("limits are not those of the document")
	}
}

func TestValidTable(t *testing.T) {
	for _, list := range [][]int{make([]int, 8), {0, 30, 30, 30, 30, 30, 30, 30}, {0, 0, 0, 0, 0, 0, 0, 30}, {0, 1, 2, 3, 4, 5, 6, 7}, {0, 5, 5, 5, 5, 5, 5, 5}, {0, 3, 0, 5, 0, 3, 0, 5}} {
		if !impl.ValidTable(list) {
			t.Errorf("ValidTable(%v) = false", list)
		}
	}
	for _, list := range wrongTables() {
		if impl.ValidTable(list) {
			t.Errorf("ValidTable(%v) = true", list)
		}
	}
	for _, list := range listsOf(8, 0, 1, 2) {
		if ok := impl.ValidTable(list); ok != wantValidTable(list) {
			t.Fatalf("ValidTable(%v) = %v", list, ok)
		}
	}
	for _, list := range someTables() {
		if !impl.ValidTable(list) || impl.ValidTable(list[:7]) || impl.ValidTable(append(list[:8:8], 30)) {
			t.Fatalf("ValidTable(%v) = %v, or it holds with one number fewer or more", list, impl.ValidTable(list))
		}
	}
}

func TestTableOf(t *testing.T) {
	for _, c := range []struct {
		s    string
		want []int
	}{
		{"", []int{0, 0, 0, 0, 0, 0, 0, 0}},
		{"a:0", []int{0, 0, 0, 0, 0, 0, 0, 0}},
		{"a:30", []int{0, 30, 0, 30, 0, 30, 0, 30}},
		{"b:10", []int{0, 0, 10, 10, 0, 0, 10, 10}},
		{"c:9", []int{0, 0, 0, 0, 9, 9, 9, 9}},
		{"ac:9", []int{0, 0, 0, 0, 0, 9, 0, 9}},
		{"abc:9", []int{0, 0, 0, 0, 0, 0, 0, 9}},
		{"a:3 xor b:4", []int{0, 3, 4, 4, 0, 3, 4, 4}},
		{"a:3 or b:4", []int{0, 3, 4, 7, 0, 3, 4, 7}},
		{"a:30 xor b:30", []int{0, 30, 30, 30, 0, 30, 30, 30}},
		{"a:20 or b:10", []int{0, 20, 10, 30, 0, 20, 10, 30}},
		{"ab:9 xor a:3", []int{0, 3, 0, 9, 0, 3, 0, 9}},
		// Offers for one thing twice are never taken together.
		{"a:3 or a:5", []int{0, 5, 0, 5, 0, 5, 0, 5}},
		{"a:20 or a:20", []int{0, 20, 0, 20, 0, 20, 0, 20}},
		{"ab:20 or bc:20", []int{0, 0, 0, 20, 0, 0, 20, 20}},
		{"ab:5 or bc:6 or c:4", []int{0, 0, 0, 5, 4, 4, 6, 9}},
		{"ab:5 xor bc:6 xor c:4", []int{0, 0, 0, 5, 4, 4, 6, 6}},
		{"ab:9 or a:6 or b:5", []int{0, 6, 5, 11, 0, 6, 5, 11}},
		{"ab:9 or a:6 or b:1", []int{0, 6, 1, 9, 0, 6, 1, 9}},
		{"abc:1 xor a:5", []int{0, 5, 0, 5, 0, 5, 0, 5}},
		{"a:1 or b:2 or c:3 or ab:4 or ac:5 or bc:6 or abc:7", []int{0, 1, 2, 4, 3, 5, 6, 7}},
		{"a:10 or b:10 or c:10", []int{0, 10, 10, 20, 10, 20, 20, 30}},
		{strings.Repeat("a:30 or ", 6) + "a:30", []int{0, 30, 0, 30, 0, 30, 0, 30}},
	} {
		if tab, ok := impl.TableOf(c.s); !ok || !slices.Equal(tab, c.want) {
			t.Errorf("TableOf(%q) = %v, %v, want %v", c.s, tab, ok, c.want)
		}
	}
	for _, offers := range someOffers() {
		for word, want := range map[string][]int{"xor": byXor(offers), "or": byOr(offers)} {
			s := textOf(word, offers)
			if !wantValidTable(want) {
				want = nil
			}
			if tab, ok := impl.TableOf(s); ok != (want != nil) || !slices.Equal(tab, want) {
				t.Fatalf("TableOf(%q) = %v, %v, want %v", s, tab, ok, want)
			}
		}
	}
}

func TestTableOfOthers(t *testing.T) {
	for _, s := range wrongTexts() {
		if tab, ok := impl.TableOf(s); tab != nil || ok {
			t.Errorf("TableOf(%q) = %v, %v", s, tab, ok)
		}
	}
}

func TestTableOfBentTexts(t *testing.T) {
	tables, others := 0, 0
	check := func(s string) {
		want := wantTableOf(s)
		tab, ok := impl.TableOf(s)
		if ok != (want != nil) || !slices.Equal(tab, want) || !ok && tab != nil {
			t.Fatalf("TableOf(%q) = %v, %v, want %v", s, tab, ok, want)
		}
		if ok {
			tables++
		} else {
			others++
		}
	}
	for n := range 6 {
		for _, places := range listsOf(n, 0, 1, 2, 3, 4, 5) {
			var s []byte
			for _, p := range places {
				s = append(s, "ac:03 "[p])
			}
			check(string(s))
		}
	}
	for _, s := range append([]string{"a:3", "ab:12", "abc:30", "a:3 xor bc:4", "a:3 or b:14 or c:13", "ac:20 or b:10", "a:1 xor b:2 xor c:3 xor ab:4 xor ac:5 xor bc:6 xor abc:7"}, wrongTexts()...) {
		if len(s) < 100 {
			for _, bent := range bentTexts(s, " :abcdorx0123-+") {
				check(bent)
			}
		}
	}
	if tables == 0 || others == 0 {
		t.Errorf("there were %d texts of tables and %d others", tables, others)
	}
}

func TestShowTable(t *testing.T) {
	for _, c := range []struct {
		t    []int
		want string
	}{
		{make([]int, 8), ""},
		{[]int{0, 0, 0, 0, 0, 0, 0, 9}, "abc:9"},
		{[]int{0, 3, 0, 5, 0, 3, 0, 5}, "a:3 xor ab:5"},
		{[]int{0, 3, 4, 7, 0, 3, 4, 7}, "a:3 xor b:4 xor ab:7"},
		{[]int{0, 3, 4, 4, 0, 3, 4, 4}, "a:3 xor b:4"},
		{[]int{0, 1, 2, 3, 4, 5, 6, 7}, "a:1 xor b:2 xor ab:3 xor c:4 xor ac:5 xor bc:6 xor abc:7"},
		{[]int{0, 30, 30, 30, 30, 30, 30, 30}, "a:30 xor b:30 xor c:30"},
		{[]int{0, 0, 0, 10, 0, 10, 10, 10}, "ab:10 xor ac:10 xor bc:10"},
		{[]int{0, 0, 0, 0, 1, 1, 1, 30}, "c:1 xor abc:30"},
	} {
		if s := impl.ShowTable(c.t); s != c.want {
			t.Errorf("ShowTable(%v) = %q, want %q", c.t, s, c.want)
		}
	}
	for _, tab := range someTables() {
		if s := impl.ShowTable(tab); s != wantShow(tab) {
			t.Fatalf("ShowTable(%v) = %q, want %q", tab, s, wantShow(tab))
		}
	}
	for _, tab := range wrongTables() {
		if s := impl.ShowTable(tab); s != "" {
			t.Errorf("ShowTable(%v) = %q", tab, s)
		}
	}
}

func TestSplitWorth(t *testing.T) {
	for _, c := range []struct {
		tables    [][]int
		set, want int
	}{
		{[][]int{make([]int, 8)}, 7, 0}, {[][]int{{0, 3, 0, 5, 0, 3, 0, 5}}, 0, 0}, {[][]int{{0, 3, 0, 5, 0, 3, 0, 5}}, 1, 3}, {[][]int{{0, 3, 0, 5, 0, 3, 0, 5}}, 6, 0}, {[][]int{{0, 3, 0, 5, 0, 3, 0, 5}}, 7, 5},
		{[][]int{{0, 0, 0, 10, 0, 0, 0, 10}, {0, 6, 3, 6, 0, 6, 3, 6}, {0, 0, 6, 6, 2, 2, 8, 8}}, 7, 14},
		{[][]int{{0, 0, 0, 10, 0, 0, 0, 10}, {0, 6, 3, 6, 0, 6, 3, 6}, {0, 0, 6, 6, 2, 2, 8, 8}}, 3, 12},
		{[][]int{{0, 0, 0, 10, 0, 0, 0, 10}, {0, 6, 3, 6, 0, 6, 3, 6}, {0, 0, 6, 6, 2, 2, 8, 8}}, 6, 8},
		{[][]int{{0, 0, 0, 10, 0, 0, 0, 10}, {0, 6, 3, 6, 0, 6, 3, 6}, {0, 0, 6, 6, 2, 2, 8, 8}}, 4, 2},
		{[][]int{{0, 30, 0, 30, 0, 30, 0, 30}, {0, 0, 30, 30, 0, 0, 30, 30}, {0, 0, 0, 0, 30, 30, 30, 30}, {0, 30, 30, 30, 30, 30, 30, 30}}, 7, 90},
	} {
		if n := impl.SplitWorth(c.tables, c.set); n != c.want {
			t.Errorf("SplitWorth(%v, %d) = %d, want %d", c.tables, c.set, n, c.want)
		}
	}
	for _, tables := range someBundles() {
		for _, set := range allSets {
			if n := impl.SplitWorth(tables, set); n != wantSplit(tables, set) {
				t.Fatalf("SplitWorth(%v, %d) = %d, want %d", tables, set, n, wantSplit(tables, set))
			}
		}
	}
}

func TestBestSplit(t *testing.T) {
	zero, all, one := make([]int, 8), []int{0, 0, 0, 0, 0, 0, 0, 9}, []int{0, 6, 3, 6, 0, 6, 3, 6}
	for _, c := range []struct {
		tables [][]int
		sets   []int
		worth  int
	}{
		// What is worth nothing to anyone goes to the first bidder, not to none.
		{[][]int{zero}, []int{7}, 0},
		{[][]int{zero, zero, zero, zero}, []int{7, 0, 0, 0}, 0},
		{[][]int{all}, []int{7}, 9},
		{[][]int{zero, all}, []int{0, 7}, 9},
		{[][]int{all, all, all}, []int{7, 0, 0}, 9},
		{[][]int{one, one}, []int{5, 2}, 9},
		{[][]int{zero, one}, []int{6, 1}, 6},
		{[][]int{zero, one, one}, []int{4, 1, 2}, 9},
		{[][]int{{0, 0, 0, 10, 0, 0, 0, 10}, one, {0, 0, 6, 6, 2, 2, 8, 8}}, []int{0, 1, 6}, 14},
		// Splits as good as each other: the bidder of a is the least, then that of b, then that of c.
		{[][]int{{0, 5, 5, 5, 5, 5, 5, 5}, {0, 5, 5, 5, 5, 5, 5, 5}}, []int{3, 4}, 10},
		{[][]int{{0, 5, 5, 5, 5, 5, 5, 5}, {0, 5, 5, 5, 5, 5, 5, 5}, {0, 5, 5, 5, 5, 5, 5, 5}, {0, 5, 5, 5, 5, 5, 5, 5}}, []int{1, 2, 4, 0}, 15},
		{[][]int{{0, 1, 2, 3, 4, 5, 6, 7}, {0, 1, 2, 3, 4, 5, 6, 7}}, []int{7, 0}, 7},
		{[][]int{{0, 0, 0, 0, 0, 0, 8, 8}, {0, 8, 0, 8, 0, 8, 0, 8}}, []int{6, 1}, 16},
	} {
		if sets, n := impl.BestSplit(c.tables); n != c.worth || !slices.Equal(sets, c.sets) {
			t.Errorf("BestSplit(%v) = %v, %d, want %v, %d", c.tables, sets, n, c.sets, c.worth)
		}
	}
	for _, tables := range someBundles() {
		sets, n := impl.BestSplit(tables)
		if best, most := wantBest(tables); n != most || !slices.Equal(sets, best) {
			t.Fatalf("BestSplit(%v) = %v, %d, want %v, %d", tables, sets, n, best, most)
		}
	}
}

func TestSplitOthers(t *testing.T) {
	for _, tables := range wrongBundles() {
		for _, set := range append([]int{-1, 8}, allSets...) {
			if n := impl.SplitWorth(tables, set); n != -1 {
				t.Errorf("SplitWorth(%v, %d) = %d", tables, set, n)
			}
		}
		if sets, n := impl.BestSplit(tables); sets != nil || n != -1 {
			t.Errorf("BestSplit(%v) = %v, %d", tables, sets, n)
		}
	}
	for _, set := range wrongSets {
		for _, tables := range crowdsOf(2, fewTables()) {
			if n := impl.SplitWorth(tables, set); n != -1 {
				t.Errorf("SplitWorth(%v, %d) = %d", tables, set, n)
			}
		}
	}
}

func TestKindsOfTables(t *testing.T) {
	for _, c := range []struct {
		t                []int
		sum, one, modest bool
	}{
		{make([]int, 8), true, true, true},
		{[]int{0, 0, 0, 10, 0, 0, 0, 10}, false, false, false},
		{[]int{0, 6, 3, 6, 0, 6, 3, 6}, false, true, true},
		{[]int{0, 0, 6, 6, 2, 2, 8, 8}, true, false, true},
		{[]int{0, 5, 0, 5, 0, 5, 0, 5}, true, true, true},
		{[]int{0, 30, 30, 30, 30, 30, 30, 30}, false, true, true},
		{[]int{0, 1, 2, 3, 4, 5, 6, 7}, true, false, true},
		{[]int{0, 1, 2, 3, 4, 5, 6, 8}, false, false, false},
		{[]int{0, 1, 2, 3, 4, 5, 6, 6}, false, false, true},
		{[]int{0, 0, 0, 0, 0, 0, 0, 1}, false, false, false},
		// No set is worth more than its things, but c is worth more with a and b than with one of them.
		{[]int{0, 5, 5, 5, 5, 9, 9, 10}, false, false, false},
		{[]int{0, 5, 5, 9, 5, 9, 9, 12}, false, false, true},
		{[]int{0, 5, 5, 9, 5, 9, 9, 14}, false, false, false},
		{[]int{0, 5, 5, 5, 5, 5, 5, 6}, false, false, false},
	} {
		if sum, one, modest := impl.IsSum(c.t), impl.IsOne(c.t), impl.IsModest(c.t); sum != c.sum || one != c.one || modest != c.modest {
			t.Errorf("IsSum, IsOne and IsModest of %v are %v, %v and %v", c.t, sum, one, modest)
		}
	}
	for _, tab := range someTables() {
		alone := []int{tab[1], tab[2], tab[4]}
		if ok := impl.IsSum(tab); ok != slices.Equal(tab, sumTable(alone)) {
			t.Fatalf("IsSum(%v) = %v", tab, ok)
		}
		if ok := impl.IsOne(tab); ok != slices.Equal(tab, oneTable(alone)) {
			t.Fatalf("IsOne(%v) = %v", tab, ok)
		}
		if ok := impl.IsModest(tab); ok != wantModest(tab) {
			t.Fatalf("IsModest(%v) = %v", tab, ok)
		}
		if (impl.IsSum(tab) || impl.IsOne(tab)) && !impl.IsModest(tab) {
			t.Fatalf("IsModest(%v) = false", tab)
		}
	}
	for _, tab := range wrongTables() {
		if impl.IsSum(tab) || impl.IsOne(tab) || impl.IsModest(tab) {
			t.Errorf("IsSum, IsOne and IsModest of %v are %v, %v and %v", tab, impl.IsSum(tab), impl.IsOne(tab), impl.IsModest(tab))
		}
	}
}

func TestP25TablesAreShownAndRead(t *testing.T) {
	for _, tab := range someTables() {
		if read, ok := impl.TableOf(impl.ShowTable(tab)); !ok || !slices.Equal(read, tab) {
			t.Fatalf("TableOf(%q) = %v, %v, but the table is %v", impl.ShowTable(tab), read, ok, tab)
		}
	}
}

func TestP26TablesThatAreReadAreShownAsShort(t *testing.T) {
	shorter := 0
	for _, s := range someTexts() {
		tab, ok := impl.TableOf(s)
		if !ok || !impl.ValidTable(tab) {
			t.Fatalf("TableOf(%q) = %v, %v", s, tab, ok)
		}
		shown := impl.ShowTable(tab)
		if again, ok := impl.TableOf(shown); !ok || !slices.Equal(again, tab) {
			t.Fatalf("TableOf(%q) = %v, %v, but TableOf(%q) is %v", shown, again, ok, s, tab)
		}
		if !strings.Contains(s, " or ") && len(shown) > len(s) {
			t.Fatalf("ShowTable(%v) = %q, but %q is shorter", tab, shown, s)
		}
		if len(shown) < len(s) {
			shorter++
		}
	}
	if shorter == 0 {
		t.Error("no text was longer than it had to be")
	}
}

func TestP27TextsOfTablesHaveNoOfferTooMuch(t *testing.T) {
	offers := 0
	for _, tab := range someTables() {
		all := strings.Split(impl.ShowTable(tab), " xor ")
		if all[0] == "" {
			continue
		}
		// The last offer, and each other one as well.
		for at := range all {
			fewer := strings.Join(slices.Delete(slices.Clone(all), at, at+1), " xor ")
			if other, ok := impl.TableOf(fewer); !ok || slices.Equal(other, tab) {
				t.Fatalf("TableOf(%q) = %v, %v, but all of %q are needed", fewer, other, ok, all)
			}
			offers++
		}
	}
	if offers == 0 {
		t.Error("there were no offers")
	}
}

func TestP28SplitsOfAllAreBestSplits(t *testing.T) {
	for _, tables := range someBundles() {
		all := impl.SplitWorth(tables, 7)
		if sets, n := impl.BestSplit(tables); n != all || len(sets) != len(tables) {
			t.Fatalf("BestSplit(%v) = %v, %d, but SplitWorth is %d", tables, sets, n, all)
		}
		for _, set := range allSets {
			n := impl.SplitWorth(tables, set)
			for _, part := range parts(set) {
				if fewer := impl.SplitWorth(tables, part); fewer < 0 || fewer > n {
					t.Fatalf("SplitWorth(%v, %d) = %d, but %d of %d", tables, part, fewer, n, set)
				}
			}
			for i := range tables {
				if rest := others(tables, i); len(rest) > 0 && impl.SplitWorth(rest, set) > n {
					t.Fatalf("SplitWorth(%v, %d) = %d, but %d without bidder %d", tables, set, n, impl.SplitWorth(rest, set), i)
				}
			}
		}
	}
}

func TestP29BestSplitsHaveNoThingTwice(t *testing.T) {
	for _, tables := range someBundles() {
		sets, n := impl.BestSplit(tables)
		if len(sets) != len(tables) {
			t.Fatalf("BestSplit(%v) = %v, %d", tables, sets, n)
		}
		given, worth := 0, 0
		for i, set := range sets {
			if set < 0 || set > 7 || given&set != 0 {
				t.Fatalf("BestSplit(%v) = %v, %d", tables, sets, n)
			}
			given |= set
			worth += tables[i][set]
		}
		if worth != n {
			t.Fatalf("BestSplit(%v) = %v, %d, but these are worth %d", tables, sets, n, worth)
		}
	}
}

func TestP32ModestTablesAreNoMoreThanTheirParts(t *testing.T) {
	modest, others := 0, 0
	for _, tab := range someTables() {
		if !impl.IsModest(tab) {
			others++
			continue
		}
		modest++
		for set, worth := range tab {
			if worth > sum(aloneIn(set, []int{tab[1], tab[2], tab[4]})) {
				t.Fatalf("IsModest(%v) = true, but set %d is worth more than its things", tab, set)
			}
		}
	}
	if modest == 0 || others == 0 {
		t.Errorf("there were %d modest tables and %d others", modest, others)
	}
}

func TestP90OffersSideBySideAreTheGreatest(t *testing.T) {
	var texts []string
	for _, tab := range append(tablesWith(0, 7), fewTables()...) {
		texts = append(texts, impl.ShowTable(tab))
	}
	texts = append(texts, "a:0", "ab:3 xor a:9", "c:30", "a:1 xor a:2 xor a:3 xor a:4 xor a:5 xor a:6", "bc:2 xor ac:12")
	read := 0
	for _, one := range texts {
		for _, other := range texts {
			// A text without offers has none beside which a word could be, and some have too many offers together.
			if one == "" || other == "" || strings.Count(one+other, ":") > impl.MaxOffers {
				continue
			}
			a, _ := impl.TableOf(one)
			b, _ := impl.TableOf(other)
			both, ok := impl.TableOf(one + " xor " + other)
			if !ok || len(both) != 8 {
				t.Fatalf("TableOf(%q) = %v, %v", one+" xor "+other, both, ok)
			}
			for set, worth := range both {
				if worth != max(a[set], b[set]) {
					t.Fatalf("TableOf(%q) = %v, but of both alone %v and %v", one+" xor "+other, both, a, b)
				}
			}
			read++
		}
	}
	if read == 0 {
		t.Error("no two texts were read")
	}
}

func TestBundlesKeepArguments(t *testing.T) {
	lists := append(wrongTables()[:20], someTables()[:200]...)
	for _, list := range lists {
		r := roomy(list)
		impl.ValidTable(r)
		impl.ShowTable(r)
		impl.IsSum(r)
		impl.IsOne(r)
		impl.IsModest(r)
		if !roomyIsKept(r, list) {
			t.Fatalf("the table %v becomes %v", list, r)
		}
	}
	for _, tables := range append(wrongBundles()[:40], crowdsOf(3, fewTables())...) {
		for _, set := range []int{-1, 0, 3, 5, 7, 8} {
			r := roomyRows(tables)
			impl.SplitWorth(r, set)
			impl.BestSplit(r)
			if !roomyRowsAreKept(r, tables) {
				t.Fatalf("the tables %v become %v", tables, r)
			}
		}
	}
}

func TestBundlesShareNoMemory(t *testing.T) {
	for _, s := range []string{"", "a:3", "a:3 or b:4", "a:3 xor ab:5", "a:1 or b:2 or c:3"} {
		one, _ := impl.TableOf(s)
		kept, _ := impl.TableOf(s)
		scribble(one)
		again, ok := impl.TableOf(s)
		if want := wantTableOf(s); !ok || !slices.Equal(kept, want) || !slices.Equal(again, want) {
			t.Fatalf("tables of %q share memory", s)
		}
	}
	for _, tables := range append(crowdsOf(2, fewTables()), crowdsOf(1, fewTables())...) {
		r := roomyRows(tables)
		one, _ := impl.BestSplit(r)
		kept, _ := impl.BestSplit(r)
		scribble(one)
		again, _ := impl.BestSplit(r)
		if best, _ := wantBest(tables); !roomyRowsAreKept(r, tables) || !slices.Equal(kept, best) || !slices.Equal(again, best) {
			t.Fatalf("the result of BestSplit(%v) shares memory with it, or with another one", tables)
		}
	}
}

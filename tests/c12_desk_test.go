package tests

import (
	"fmt"
	"regexp"
	"slices"
	"strconv"
	"strings"
	"sync"
	"testing"

	"loop.example/salesbybids/impl"
)

// payKinds are all kinds of PaysBy.
var payKinds = []string{"pivot", "each", "climb", "core"}

// otherPayKinds are texts that are no kinds of PaysBy.
var otherPayKinds = []string{"", " ", "x", "Pivot", "EACH", "climb ", " core", "pivots", "eac", "cor", "pivot each", "core,each", "first", "second", "all", "0", "none", "clear", "each\n", "\x00", "\xff", "köre", strings.Repeat("core", 1000)}

// Tables for two things together, of whose bidders each two want a thing in common, and for one of two things, with which no prices are clear either; and those of which all crowds are tried.
var (
	acFor10  = []int{0, 0, 0, 0, 0, 10, 0, 10}
	bcFor10  = []int{0, 0, 0, 0, 0, 0, 10, 10}
	abFor3   = []int{0, 0, 0, 3, 0, 0, 0, 3}
	a2xorB2  = []int{0, 2, 2, 2, 0, 2, 2, 2}
	deskMore = [][]int{abFor3, a2xorB2, abFor10, acFor10, bcFor10, a6xorB3}
)

// wantCosts is what the own sets by BestSplit cost at the prices that climb, nil if a bidder wants others at them, or a thing of none is not free.
func wantCosts(tables [][]int) []int {
	p, _ := wantClimb(tables)
	sets, _ := wantBest(tables)
	var wanted [][]int
	costs := make([]int, len(tables))
	for i, t := range tables {
		wanted = append(wanted, wantDemand(t, p))
		costs[i] = sum(aloneIn(sets[i], p))
	}
	if !splitClears(wanted, append(slices.Clone(sets), 7-sum(sets)), p) {
		return nil
	}
	return costs
}

// wantPays is what the document says of PaysBy, nil if there is nothing by the kind.
func wantPays(tables [][]int, kind string) []int {
	switch kind {
	case "pivot":
		return wantPivotPays(tables)
	case "each":
		return wantOwns(tables)
	case "climb":
		return wantCosts(tables)
	}
	if len(tables) > 3 {
		return nil
	}
	pays, _ := wantLeastCore(tables)
	return pays
}

// deskBundles are tables of one up to four bidders, of whom prices that climb are clear or not.
func deskBundles() [][][]int {
	all := append(someBundles(), coreBundles()...)
	return append(append(all, crowdsOf(3, deskMore)...), crowdsOf(4, deskMore[1:5])...)
}

// paysOf are what the bidders pay by a kind, of whom there must be payments.
func paysOf(t *testing.T, tables [][]int, kind string) []int {
	t.Helper()
	pays, ok := impl.PaysBy(tables, kind)
	if !ok || len(pays) != len(tables) {
		t.Fatalf("PaysBy(%v, %q) = %v, %v", tables, kind, pays, ok)
	}
	return pays
}

// anyAbove reports whether one of the numbers is greater than that at its place of the others.
func anyAbove(numbers, others []int) bool {
	for i, x := range numbers {
		if x > others[i] {
			return true
		}
	}
	return false
}

// What lines are like that are answered with a sale, or by bidders, and those that are wrong if they are none of these.
const (
	bidForm   = `(?:30|[12][0-9]|[0-9])`
	priceForm = `(?:40|[123][0-9]|[0-9])`
	rowForm   = bidForm + `(?:,` + bidForm + `){0,4}`
)

var (
	oneForm   = regexp.MustCompile(`\Aone (first|second|third|all) (` + bidForm + `(?:,` + bidForm + `){0,5})\z`)
	unitsForm = regexp.MustCompile(`\Aunits ([0-5]) (` + rowForm + `(?:/` + rowForm + `){0,3})\z`)
	paysForm  = regexp.MustCompile(`\Apays (pivot|each|climb|core)\z`)
	clearForm = regexp.MustCompile(`\Aclear (` + priceForm + `,` + priceForm + `,` + priceForm + `)\z`)
	aloneForm = regexp.MustCompile(`\A(?:split|show|prices)\z`)
	wrongForm = regexp.MustCompile(`\A(?:offer|one|units|pays|clear)(?: |\z)`)
)

// readNumbers are the numbers of a text, with a comma between two of them.
func readNumbers(text string) []int {
	var numbers []int
	for _, s := range strings.Split(text, ",") {
		x, _ := strconv.Atoi(s)
		numbers = append(numbers, x)
	}
	return numbers
}

// shownNumbers is the text of numbers, with a comma between two of them.
func shownNumbers(numbers []int) string {
	return strings.ReplaceAll(strings.Trim(fmt.Sprint(numbers), "[]"), " ", ",")
}

// wantSets is the text of the sets of BestSplit.
func wantSets(tables [][]int) string {
	sets, _ := wantBest(tables)
	var all []string
	for _, set := range sets {
		all = append(all, []string{"-", "a", "b", "ab", "c", "ac", "bc", "abc"}[set])
	}
	return strings.Join(all, ",")
}

// wantSold is what the document says of a line of units, told the number and the rows.
func wantSold(number, text string) string {
	k, _ := strconv.Atoi(number)
	var rows [][]int
	for _, s := range strings.Split(text, "/") {
		r := readNumbers(s)
		for u := 1; u < len(r); u++ {
			if r[u] > r[u-1] {
				return "wrong"
			}
		}
		rows = append(rows, r)
	}
	return shownNumbers(wantAward(rows, k)) + ":" + shownNumbers(wantPivots(rows, k))
}

// wantByBidders is what the document says of a line of pays, clear, split, show and prices that is so, told the tables of bidders, of whom there are some.
func wantByBidders(tables [][]int, line string) string {
	if found := clearForm.FindStringSubmatch(line); found != nil {
		if wantClear(tables, readNumbers(found[1])) {
			return "yes"
		}
		return "no"
	}
	if found := paysForm.FindStringSubmatch(line); found != nil {
		if pays := wantPays(tables, found[1]); pays != nil {
			return shownNumbers(pays)
		}
		return "none"
	}
	p, _ := wantClimb(tables)
	return map[string]string{"split": wantSets(tables), "show": wantShow(tables[len(tables)-1]), "prices": shownNumbers(p)}[line]
}

// wantAnswer is what the document says of a line, and the tables of bidders behind it, told those ahead.
func wantAnswer(tables [][]int, line string) (string, [][]int) {
	if text, ok := strings.CutPrefix(line, "offer "); ok {
		t := wantTableOf(text)
		switch {
		case t == nil:
			return "wrong", tables
		case len(tables) == 4:
			return "full", tables
		}
		return "done", append(tables, t)
	}
	if found := oneForm.FindStringSubmatch(line); found != nil {
		at, pays := wantSale(found[1], readNumbers(found[2]), 0)
		return strconv.Itoa(at) + ":" + shownNumbers(pays), tables
	}
	if found := unitsForm.FindStringSubmatch(line); found != nil {
		return wantSold(found[1], found[2]), tables
	}
	switch {
	case !paysForm.MatchString(line) && !clearForm.MatchString(line) && !aloneForm.MatchString(line):
		if wrongForm.MatchString(line) {
			return "wrong", tables
		}
		return "what", tables
	case len(tables) == 0:
		return "none", tables
	}
	return wantByBidders(tables, line), tables
}

// wantDesk is what the document says of RunDesk.
func wantDesk(lines []string) string {
	if len(lines) > 20 {
		return ""
	}
	var tables [][]int
	answers := ""
	for _, line := range lines {
		var answer string
		answer, tables = wantAnswer(tables, line)
		answers += answer + "\n"
	}
	return answers
}

// checkDesk fails if the answers to lines are not those that the document says, and returns them.
func checkDesk(t *testing.T, lines ...string) string {
	t.Helper()
	out := impl.RunDesk(lines)
	if want := wantDesk(lines); out != want {
		t.Fatalf("RunDesk(%q) = %q, want %q", lines, out, want)
	}
	return out
}

// offersBy are lines of offer for all of the tables.
func offersBy(tables [][]int) []string {
	var lines []string
	for _, tab := range tables {
		lines = append(lines, "offer "+wantShow(tab))
	}
	return lines
}

// goodLines are lines that are answered neither by wrong nor by what, of each word.
func goodLines() []string {
	return []string{
		"offer ", "offer a:6 xor b:4", "offer a:5 xor b:2", "offer c:3", "offer ab:10", "offer a:2 or b:3 or c:4", "offer abc:30", "offer a:0", "offer bc:7 xor a:7", "offer a:3 or a:5",
		"split", "show", "prices", "pays pivot", "pays each", "pays climb", "pays core", "clear 0,0,0", "clear 3,0,0", "clear 6,3,0", "clear 40,40,40", "clear 1,20,39",
		"one first 5", "one second 3,7,5", "one third 3,7,7,5", "one all 30,0", "one second 0,0,0,0,0,30", "units 0 5", "units 3 9,5/8,7,2/6", "units 5 30,30,30,30,30/0,0,0,0,0/1/2,1", "units 2 7,7/7",
	}
}

// wrongLines are lines that are answered by wrong.
func wrongLines() []string {
	lines := []string{
		// Words alone, and with a space and no text behind it.
		"offer", "one", "units", "pays", "clear", "one ", "units ", "pays ", "clear ", "one  ", "units  ", "pays  ", "clear  ", "offer  ", "offer offer", "one one", "pays pays pivot",
		// Kinds that there are not, none, in the place of others, or with more behind them.
		"one x 3,7", "one First 3,7", "one pivot 3,7", "one  3,7", "one 3,7", "one first", "one first ", "one ,first 3", "one firstsecond 3", "one second,3,7", "one second:3,7", "pays x", "pays Pivot", "pays first", "pays pivot ", "pays  pivot", "pays pivot,core", "pays pivot core", "pays 3", "pays climb\n",
		// Numbers with leading zeros, with a sign, out of range, or not in decimal.
		"one first 03", "one first 3,00", "one first +3", "one first -3", "one first -0", "one first 3,-1", "one first 31", "one first 30,31", "one first 3.0", "one first 0x3", "one first 1e1", "one first 1_0", "one first x", "one first 3,x", "one first 18446744073709551619", "one first 9223372036854775808", "one first ٣",
		"units 03 5", "units +3 5", "units -1 5", "units -0 5", "units 6 5", "units x 5", "units 3x 5", "units 3,4 5", "units 3/4 5", "units 18446744073709551617 5", "units 3 05", "units 3 +5", "units 3 -5", "units 3 31", "units 3 30/31", "units 3 5,-1", "units 3 x", "units 3 5/x", "units 3.0 5",
		"clear 01,0,0", "clear 0,00,0", "clear +1,0,0", "clear -1,0,0", "clear 0,0,-0", "clear 41,0,0", "clear 0,41,0", "clear 0,0,41", "clear 100,0,0", "clear a,b,c", "clear 1.5,0,0", "clear 18446744073709551616,0,0", "clear none",
		// Commas and slashes at the ends, and two together.
		"one first ,3", "one first 3,", "one first 3,,7", "one first ,", "one first 3/7", "units 3 ,5", "units 3 5,", "units 3 5,,4", "units 3 ,", "units 3 /", "units 3 /5", "units 3 5/", "units 3 5//4", "units 3 5/,4", "units 3 5,/4", "units 3 9,5/8,7,2/6/", "clear ,0,0,0", "clear 0,0,0,", "clear 0,,0", "clear ,,", "clear 0/0/0", "clear ,",
		// Spaces too many or too few, and other ones.
		"one  first 3,7", "one first  3,7", "one first 3,7 ", "one first 3, 7", "one first 3 ,7", "one first3,7", "one first\t3", "units  3 5", "units 3  5", "units 3 5 ", "units 3 5, 4", "units 3 5 /4", "units 3 5/ 4", "units 35", "units 3\n5", "clear  0,0,0", "clear 0,0,0 ", "clear 0, 0,0", "clear 0 0 0", "clear 0,0,0\n", "clear 0,0,0 0,0,0",
		// Rows without a number, numbers without rows, rows that rise, and too many of all.
		"units 3", "units 3 ", "units", "units 3 5/ ", "units 3 5,6", "units 3 9,5/8,7,8", "units 3 0,1", "units 3 6,5,4,3,2,1", "units 3 0,0,0,0,0,0", "units 3 5/5/5/5/5", "one first 1,2,3,4,5,6,7", "one all 0,0,0,0,0,0,0", "clear 0,0", "clear 0", "clear 1,2", "clear 0,0,0,0", "clear " + strings.Repeat("0,", 1000) + "0", "units 3 " + strings.Repeat("5/", 1000) + "5", "one first " + strings.Repeat("1", 1000),
	}
	for _, s := range wrongTexts() {
		lines = append(lines, "offer "+s)
	}
	return lines
}

// otherLines are lines that are answered by what.
func otherLines() []string {
	return []string{
		"", " ", "  ", "x", "\n", "\x00", "\xff", "offe", "offers", "offera:1", "offer\ta:1", "offer\n", "Offer a:1", "OFFER", " offer a:1", "offer:a:1", "offer,", "on", "ones", "one\tfirst 3", "One first 3", " one first 3", "unit", "unit 3 5", "units3 5", " units 3 5", "pay", "pay pivot", "payspivot", " pays pivot", "Pays pivot", "cleared", "clear0,0,0", " clear 0,0,0",
		// Words that take no text, with one, or with a space alone.
		"split ", "split x", " split", "split  ", "split\n", "Split", "splits", "spli", "split,", "split split", "show ", "show 1", "show x", " show", "shows", "show\t", "show a:1", "prices ", "prices x", "prices 0,0,0", " prices", "price", "Prices", "prices\n", "prices\x00",
		"none", "done", "what", "wrong", "full", "yes", "a:1", "3,7", "pivot", "first 3,7", "splitshow", "split/show", "xor", strings.Repeat("x", 1000), strings.Repeat(" ", 1000), strings.Repeat("split ", 1000),
	}
}

// mixedDesks are lists of lines of all sorts, from none up to as many as there may be: each one takes all the lines in turn that are as many apart as it is told.
func mixedDesks() [][]string {
	pool := append(append(goodLines(), goodLines()...), "offer ", "offer a:1 xor b:2", "offer x", "one x", "units", "pays x", "clear 1,2", "", "split x", "show x", "prices ")
	var desks [][]string
	for start := range 3 {
		for step := range pool {
			var lines []string
			for i := range (start*40 + step) % (impl.MaxDesk + 1) {
				lines = append(lines, pool[(start*29+i*(step+1))%len(pool)])
			}
			desks = append(desks, lines)
		}
	}
	return append(desks, nil, []string{""}, goodLines()[:20], goodLines()[10:30], wrongLines()[:20], otherLines()[:20], make([]string, impl.MaxDesk))
}

func TestDeskLimits(t *testing.T) {
	if impl.MaxDesk != 20 || impl.MaxCrowd != 4 || impl.MaxFew != 3 || impl.MaxBidders != 6 || impl.MaxPrice != 40 {
		t.Error("limits are not those of the document")
	}
}

func TestPaysBy(t *testing.T) {
	for _, c := range []struct {
		tables                   [][]int
		pivot, each, climb, core []int
	}{
		// One bidder, and bidders for nothing.
		{[][]int{noughts}, []int{0}, []int{0}, []int{0}, []int{0}}, {[][]int{sums7}, []int{0}, []int{7}, []int{0}, []int{0}}, {[][]int{each30}, []int{0}, []int{30}, []int{0}, []int{0}}, {[][]int{noughts, noughts, noughts}, []int{0, 0, 0}, []int{0, 0, 0}, []int{0, 0, 0}, []int{0, 0, 0}},
		// Tables that are the same, and the greatest ones.
		{[][]int{allFor30, allFor30}, []int{30, 0}, []int{30, 0}, []int{30, 0}, []int{30, 0}}, {[][]int{sums7, sums7}, []int{7, 0}, []int{7, 0}, []int{7, 0}, []int{7, 0}}, {[][]int{each30, each30, each30}, []int{0, 0, 0}, []int{30, 30, 30}, []int{0, 0, 0}, []int{0, 0, 0}},
		// Each kind is another one: what is left of worth, more than pivots by climbing, and more than pivots in the core.
		{[][]int{abFor10, a6xorB3}, []int{6, 0}, []int{10, 0}, []int{9, 0}, []int{6, 0}}, {[][]int{abFor10, aFor10, bFor10}, []int{0, 0, 0}, []int{0, 10, 10}, []int{0, 5, 5}, []int{0, 0, 10}}, {firstTables(), []int{0, 2, 0}, []int{4, 5, 3}, []int{0, 2, 0}, []int{0, 2, 0}},
		// Prices that climb are not clear.
		{[][]int{abFor3, a2xorB2}, []int{2, 0}, []int{3, 0}, nil, []int{2, 0}}, {[][]int{a2xorB2, abFor3}, []int{0, 2}, []int{0, 3}, nil, []int{0, 2}}, {[][]int{abFor10, acFor10, bcFor10}, []int{10, 0, 0}, []int{10, 0, 0}, nil, []int{10, 0, 0}}, {[][]int{abFor10, acFor10, bcFor10, abFor10}, []int{10, 0, 0, 0}, []int{10, 0, 0, 0}, nil, nil},
		// As many bidders as there may be are more than the core is told for.
		{[][]int{noughts, noughts, noughts, noughts}, []int{0, 0, 0, 0}, []int{0, 0, 0, 0}, []int{0, 0, 0, 0}, nil}, {[][]int{each30, each30, each30, each30}, []int{30, 30, 30, 0}, []int{30, 30, 30, 0}, []int{30, 30, 30, 0}, nil}, {[][]int{allFor9, aFor4, bFor4, cFor4}, []int{0, 1, 1, 1}, []int{0, 4, 4, 4}, []int{0, 3, 3, 3}, nil},
	} {
		for at, want := range [][]int{c.pivot, c.each, c.climb, c.core} {
			if pays, ok := impl.PaysBy(c.tables, payKinds[at]); ok != (want != nil) || !slices.Equal(pays, want) {
				t.Errorf("PaysBy(%v, %q) = %v, %v, want %v", c.tables, payKinds[at], pays, ok, want)
			}
		}
	}
	paid, none := map[string]int{}, map[string]int{}
	for _, tables := range append(deskBundles(), movableCrowds()...) {
		for _, kind := range payKinds {
			want := wantPays(tables, kind)
			pays, ok := impl.PaysBy(tables, kind)
			if ok != (want != nil) || !slices.Equal(pays, want) {
				t.Fatalf("PaysBy(%v, %q) = %v, %v, want %v", tables, kind, pays, ok, want)
			}
			if ok {
				paid[kind]++
			} else {
				none[kind]++
			}
		}
	}
	if len(paid) != 4 || none["climb"] == 0 || none["core"] == 0 || len(none) != 2 {
		t.Errorf("there were payments %v, and none %v", paid, none)
	}
}

func TestPaysByOthers(t *testing.T) {
	refused := func(tables [][]int, kind string) {
		t.Helper()
		if pays, ok := impl.PaysBy(tables, kind); ok || pays != nil {
			t.Errorf("PaysBy(%v, %.20q) = %v, %v", tables, kind, pays, ok)
		}
	}
	for _, tables := range wrongBundles() {
		for _, kind := range slices.Concat(payKinds, []string{"", "x"}) {
			refused(tables, kind)
		}
	}
	for _, tables := range append(fewFours(), [][]int{noughts}, [][]int{each30, sums7}, [][]int{abFor10, aFor10, bFor10}) {
		for _, kind := range otherPayKinds {
			refused(tables, kind)
		}
	}
	// One bidder more than the core is told for, and prices that climb but are not clear.
	for _, tables := range append(crowdsOf(4, [][]int{noughts, each30, aFor10}), fewFours()...) {
		refused(tables, "core")
	}
	for _, tables := range [][][]int{{abFor3, a2xorB2}, {a2xorB2, abFor3}, {abFor3, noughts, a2xorB2}, {abFor10, acFor10, bcFor10}, {noughts, abFor10, acFor10, bcFor10}} {
		if prices, _ := impl.ClimbPrices(tables); impl.IsClear(tables, prices) {
			t.Errorf("IsClear(%v, %v) = true", tables, prices)
		}
		refused(tables, "climb")
	}
}

func TestRunDesk(t *testing.T) {
	for _, c := range []struct {
		lines []string
		want  string
	}{
		// No lines, and lines that are empty.
		{nil, ""}, {[]string{}, ""}, {[]string{""}, "what\n"}, {[]string{"", "", ""}, "what\nwhat\nwhat\n"},
		// No bidders: what is so is answered by none, and other texts by wrong.
		{[]string{"split", "show", "prices", "pays pivot", "pays each", "pays climb", "pays core", "clear 0,0,0", "clear 40,40,40"}, strings.Repeat("none\n", 9)},
		{[]string{"pays x", "pays", "clear 1,2", "clear 41,0,0", "clear", "offer x", "split x", "show "}, "wrong\nwrong\nwrong\nwrong\nwrong\nwrong\nwhat\nwhat\n"},
		{[]string{"offer x", "split", "offer ", "split", "offer", "show"}, "wrong\nnone\ndone\nabc\nwrong\n\n"},
		// A bidder for nothing has all things, and is shown as nothing.
		{[]string{"offer ", "split", "show", "prices", "pays pivot", "pays each", "pays climb", "pays core", "clear 0,0,0", "clear 0,0,1"}, "done\nabc\n\n0,0,0\n0\n0\n0\n0\nyes\nno\n"},
		// Sets of no things, all things, and two of them.
		{[]string{"offer ab:3", "offer a:2 xor b:2", "split", "pays climb", "pays pivot", "prices", "show"}, "done\ndone\nabc,-\nnone\n2,0\n1,1,0\na:2 xor b:2\n"},
		{[]string{"offer a:1", "offer b:30 or c:20", "offer ", "split", "show", "prices"}, "done\nwrong\ndone\nabc,-\n\n0,0,0\n"},
		{[]string{"offer ", "offer a:1 or c:1", "offer b:1", "split", "offer b:2 or c:2", "split", "show", "pays pivot", "pays core"}, "done\ndone\ndone\n-,ac,b\ndone\n-,a,-,bc\nb:2 xor c:2 xor bc:4\n0,0,0,2\nnone\n"},
		// As many bidders as there may be, and one more, who is asked for a table all the same.
		{[]string{"offer a:1", "offer a:2", "offer a:3", "offer a:4", "offer a:5", "offer x", "offer ", "offer", "show", "split", "pays pivot", "pays core", "pays climb"}, "done\ndone\ndone\ndone\nfull\nwrong\nfull\nwrong\na:4\nbc,-,-,a\n0,0,0,3\nnone\n0,0,0,3\n"},
		// One thing: each kind, one bidder, as many as there may be and one more, bids that are the same, and of nothing.
		{[]string{"one first 3,7,5", "one second 3,7,5", "one third 3,7,5", "one all 3,7,5", "one first 30", "one second 30", "one third 5,30", "one all 0"}, "1:0,7,0\n1:0,5,0\n1:0,3,0\n1:3,7,5\n0:30\n0:0\n1:0,0\n0:0\n"},
		{[]string{"one second 1,2,3,4,5,6", "one second 1,2,3,4,5,6,7", "one first 7,7,7", "one second 0,0", "one first 31", "one first 30,30"}, "5:0,0,0,0,0,5\nwrong\n0:7,0,0\n0:0,0\nwrong\n0:30,0\n"},
		// Units: none, more than there are numbers, rows of one number, as many of all as there may be, and one more.
		{[]string{"units 0 5/3", "units 5 5/3", "units 1 5/3", "units 1 5", "units 3 9,5/8,7,2/6", "units 5 5,4,3,2,1/5,4,3,2,1/0/30"}, "0,0:0,0\n1,1:0,0\n1,0:3,0\n1:0\n1,2,0:6,11,0\n2,2,0,1:5,5,0,3\n"},
		{[]string{"units 6 5", "units 1 5/5/5/5/5", "units 1 6,5,4,3,2,1", "units 1 5,6", "units 1 5/", "units 1 ", "units 1"}, strings.Repeat("wrong\n", 7)},
		// Neither bids nor units are offers, so that there are still no bidders.
		{[]string{"one first 3,7", "split", "units 1 5/3", "show", "offer c:30", "one first 3,7", "units 1 5/3", "show"}, "1:0,7\nnone\n1,0:3,0\nnone\ndone\n1:0,7\n1,0:3,0\nc:30\n"},
	} {
		if out := impl.RunDesk(c.lines); out != c.want {
			t.Errorf("RunDesk(%q) = %q, want %q", c.lines, out, c.want)
		}
		checkDesk(t, c.lines...)
	}
	// As many lines as there may be, and one more.
	if out := impl.RunDesk(make([]string, impl.MaxDesk)); out != strings.Repeat("what\n", impl.MaxDesk) {
		t.Errorf("RunDesk of as many lines as there may be = %q", out)
	}
	for _, line := range goodLines() {
		checkDesk(t, slices.Repeat([]string{line}, impl.MaxDesk)...)
		for _, n := range []int{impl.MaxDesk + 1, impl.MaxDesk + 2, 2 * impl.MaxDesk, 1000} {
			if out := impl.RunDesk(slices.Repeat([]string{line}, n)); out != "" {
				t.Errorf("RunDesk of %d lines of %q = %q", n, line, out)
			}
		}
	}
}

func TestRunDeskOfBidders(t *testing.T) {
	asked := []string{"split", "show", "prices", "pays pivot", "pays each", "pays climb", "pays core"}
	for at, tables := range append(deskBundles(), bundlesOf(fewMovable())...) {
		if at%3 > 0 && len(tables) > 1 {
			continue
		}
		lines := append(offersBy(tables), asked...)
		for _, p := range [][]int{{0, 0, 0}, wantLeast(tables), wantMost(tables), {40, 40, 40}} {
			lines = append(lines, "clear "+shownNumbers(p))
		}
		climb, _ := wantClimb(tables)
		lines = append(lines, "clear "+shownNumbers(climb), "offer a:1", "split", "show")
		checkDesk(t, lines...)
	}
	// Each bidder is told of when those ahead are there already.
	for _, tables := range append(fewFours(), [][]int{abFor10, aFor10, bFor10}, firstTables()) {
		var lines []string
		for _, line := range offersBy(tables) {
			lines = append(lines, line, "split", "pays core", "prices", "show")
		}
		checkDesk(t, lines...)
	}
}

func TestRunDeskOfSales(t *testing.T) {
	var lines []string
	for _, bids := range someBids() {
		for _, kind := range saleKinds {
			lines = append(lines, "one "+kind+" "+shownNumbers(bids))
		}
	}
	for _, rows := range someDemands() {
		var all []string
		for _, r := range rows {
			all = append(all, shownNumbers(r))
		}
		// Some have rows of no numbers, which are wrong here.
		for _, k := range slices.Concat(allUnits, wrongUnits) {
			lines = append(lines, "units "+strconv.Itoa(k)+" "+strings.Join(all, "/"))
		}
	}
	for _, list := range append(wrongBids(), beyond) {
		lines = append(lines, "one second "+shownNumbers(list))
	}
	for _, p := range slices.Concat(wrongPrices(), endPrices, somePrices()) {
		lines = append(lines, "clear "+shownNumbers(p))
	}
	for _, kind := range slices.Concat(otherKinds, otherPayKinds, saleKinds) {
		lines = append(lines, "one "+kind+" 3,7", "pays "+kind)
	}
	for some := range slices.Chunk(lines, impl.MaxDesk) {
		checkDesk(t, some...)
	}
	for some := range slices.Chunk(lines, impl.MaxDesk-2) {
		checkDesk(t, append([]string{"offer a:6 xor b:4", "offer ab:9"}, some...)...)
	}
}

func TestRunDeskOfWrongLines(t *testing.T) {
	for _, c := range []struct {
		answer string
		lines  []string
	}{{"wrong", wrongLines()}, {"what", otherLines()}} {
		for _, line := range c.lines {
			if out := checkDesk(t, line); out != c.answer+"\n" {
				t.Errorf("RunDesk of %.80q = %q", line, out)
			}
			if out := checkDesk(t, "offer ac:5", line, "show", "split", "offer b:1 xor c:2", line, "show", "split"); out != "done\n"+c.answer+"\nac:5\nabc\ndone\n"+c.answer+"\nb:1 xor c:2\nac,b\n" {
				t.Errorf("RunDesk of %.80q among others = %q", line, out)
			}
		}
	}
	// Lines that are nearly so, alone, with bidders, and with as many of them as there may be.
	four := []string{"offer a:6 xor b:4", "offer a:5 xor b:2", "offer c:3", "offer "}
	answers := map[string]int{}
	for _, line := range append(goodLines(), "one", "units", "offer", "pays", "clear") {
		for _, bent := range bentTexts(line, " ,/:abcdorx013-+") {
			for _, answer := range strings.Split(checkDesk(t, bent, four[0], bent, "show"), "\n") {
				answers[answer]++
			}
			checkDesk(t, append(four[:4:4], bent, "split")...)
		}
	}
	for _, answer := range []string{"wrong", "what", "done", "none", "yes", "no", "abc", "0,0,0", "a:6 xor b:4"} {
		if answers[answer] == 0 {
			t.Errorf("no line was answered by %s", answer)
		}
	}
}

func TestP74AllKindsPayAtMostTheOwnWorth(t *testing.T) {
	less, above, inside, unclear := 0, 0, 0, 0
	for at, tables := range append(deskBundles(), movableCrowds()...) {
		most, least := paysOf(t, tables, "each"), paysOf(t, tables, "pivot")
		some := [][]int{most, least}
		if climb, ok := impl.PaysBy(tables, "climb"); ok {
			if some = append(some, climb); !impl.InCore(tables, climb) {
				t.Fatalf("PaysBy(%v) by climb is %v, which is not in the core", tables, climb)
			}
			if anyAbove(climb, least) {
				above++
			}
		} else {
			unclear++
		}
		if len(tables) <= impl.MaxFew {
			some = append(some, paysOf(t, tables, "core"))
		}
		for _, pays := range paysNear(tables) {
			if at%3 == 0 && impl.InCore(tables, pays) {
				some = append(some, pays)
				inside++
			}
		}
		for _, pays := range some {
			if len(pays) != len(tables) || anyAbove(pays, most) || anyAbove(least, pays) {
				t.Fatalf("of %v PaysBy pivot is %v, and each %v, but one pays %v", tables, least, most, pays)
			}
			if anyAbove(most, pays) && anyAbove(pays, least) {
				less++
			}
		}
	}
	if less == 0 || above == 0 || inside == 0 || unclear == 0 {
		t.Errorf("payments were between %d times, above pivots by climbing %d times, in the core %d times, and %d prices were not clear", less, above, inside, unclear)
	}
}

func TestP75EachLineHasAnAnswer(t *testing.T) {
	lengths := map[int]int{}
	check := func(lines []string) {
		t.Helper()
		all := impl.RunDesk(lines)
		for n := range len(lines) + 1 {
			out := impl.RunDesk(lines[:n])
			if strings.Count(out, "\n") != n || !strings.HasPrefix(all, out) || n > 0 && !strings.HasSuffix(out, "\n") {
				t.Fatalf("RunDesk(%q) = %q, but of all %d lines it is %q", lines[:n], out, len(lines), all)
			}
		}
		lengths[len(lines)]++
	}
	for _, lines := range mixedDesks() {
		check(lines)
		checkDesk(t, lines...)
	}
	for _, all := range [][]string{goodLines(), wrongLines(), otherLines()} {
		for some := range slices.Chunk(all, impl.MaxDesk) {
			check(some)
		}
	}
	for n := range impl.MaxDesk + 1 {
		if lengths[n] == 0 {
			t.Errorf("there were no desks of %d lines", n)
		}
	}
}

func TestP94TheLeastCoreIsPaidBetweenPivotAndEach(t *testing.T) {
	more, less := 0, 0
	for _, tables := range fewBidders(append(deskBundles(), movableCrowds()...)) {
		core := paysOf(t, tables, "core")
		pivot, each := paysOf(t, tables, "pivot"), paysOf(t, tables, "each")
		least, _ := impl.LeastCore(tables)
		if !slices.Equal(core, least) || anyAbove(pivot, core) || anyAbove(core, each) {
			t.Fatalf("of %v PaysBy core is %v, LeastCore %v, pivot %v, and each %v", tables, core, least, pivot, each)
		}
		if anyAbove(core, pivot) {
			more++
		}
		if anyAbove(each, core) {
			less++
		}
	}
	if more == 0 || less == 0 {
		t.Errorf("by the core more than pivots was paid %d times, and less than the own worth %d times", more, less)
	}
	dearer, fours := 0, 0
	for _, tables := range append(movableCrowds(), movableBundles()...) {
		checkMovableCrowd(t, tables)
		pivot, climb := paysOf(t, tables, "pivot"), paysOf(t, tables, "climb")
		if len(tables) > impl.MaxFew {
			fours++
		} else if core := paysOf(t, tables, "core"); !slices.Equal(core, pivot) {
			t.Fatalf("of %v PaysBy core is %v, but pivot %v", tables, core, pivot)
		}
		if anyAbove(pivot, climb) {
			t.Fatalf("of %v PaysBy climb is %v, but pivot %v", tables, climb, pivot)
		}
		if anyAbove(climb, pivot) {
			dearer++
		}
	}
	if dearer == 0 || fours == 0 {
		t.Errorf("by climbing more was paid %d times, and there were four bidders %d times", dearer, fours)
	}
}

// callDesk calls all functions of the chapter.
func callDesk(tables [][]int, lines []string) {
	for _, kind := range slices.Concat(payKinds, []string{"x"}) {
		impl.PaysBy(tables, kind)
	}
	impl.RunDesk(lines)
}

func TestDeskKeepsArguments(t *testing.T) {
	bundles := append(wrongBundles()[:40], crowdsOf(2, fewTables())...)
	desks := append(mixedDesks(), make([]string, impl.MaxDesk+1), wrongLines())
	for at, tables := range append(append(bundles, fewFours()...), [][]int{noughts}, [][]int{abFor10, acFor10, bcFor10}, [][]int{abFor10, aFor10, bFor10}) {
		lines := desks[at%len(desks)]
		// Room behind the lines that is filled, so that a write into it is seen.
		r, said := roomyRows(tables), append(slices.Clone(lines), "room", "behind")
		callDesk(r, said[:len(lines)])
		if !roomyRowsAreKept(r, tables) || !slices.Equal(said, append(slices.Clone(lines), "room", "behind")) {
			t.Fatalf("the tables %v and the lines %q become %v and %q", tables, lines, r, said)
		}
	}
}

func TestDeskOfArgumentsInTheSameMemory(t *testing.T) {
	own := slices.Clone(a6xorB3)
	tables := [][]int{own, own, own}
	for range 2 {
		callDesk(tables, nil)
		if !slices.Equal(own, a6xorB3) || !sameRows(tables, [][]int{own, own, own}) {
			t.Fatalf("tables in the same memory become %v", tables)
		}
		for _, kind := range payKinds {
			if pays := paysOf(t, tables, kind); !slices.Equal(pays, []int{6, 3, 0}) {
				t.Fatalf("PaysBy(%v, %q) = %v", tables, kind, pays)
			}
		}
	}
	// Bidders with the same text do not share what is told of them either.
	checkDesk(t, "offer a:6 xor b:3", "offer a:6 xor b:3", "split", "offer a:6 xor b:3", "split", "pays pivot", "show", "prices")
}

func TestDeskSharesNoMemory(t *testing.T) {
	var lists []listMaker
	for _, kind := range payKinds {
		of := func(tables [][]int) []int {
			pays, _ := impl.PaysBy(tables, kind)
			return pays
		}
		lists = append(lists, listMaker{"PaysBy " + kind, of, func(tables [][]int) []int { return wantPays(tables, kind) }})
	}
	for _, tables := range append(append(crowdsOf(2, fewTables()), fewFours()...), [][]int{noughts}, [][]int{each30}, [][]int{abFor10, aFor10, bFor10}) {
		checkListsApart(t, lists, tables)
	}
	// No bidders of one desk are at another one.
	for range 2 {
		if out := impl.RunDesk([]string{"show", "offer a:1", "show"}); out != "none\ndone\na:1\n" {
			t.Fatalf("RunDesk of a new desk = %q", out)
		}
	}
}

func TestDesksRunSideBySide(t *testing.T) {
	desks := mixedDesks()
	var all sync.WaitGroup
	for at := range 8 {
		all.Go(func() {
			for i := range 10 {
				lines := desks[(at*11+i)%len(desks)]
				if out := impl.RunDesk(lines); out != wantDesk(lines) {
					t.Errorf("RunDesk(%q) = %q", lines, out)
				}
			}
		})
	}
	all.Wait()
}

package tests

import (
	"slices"
	"testing"
)

// sameRows reports whether two lists of rows are the same.
func sameRows(a, b [][]int) bool {
	return slices.EqualFunc(a, b, slices.Equal[[]int])
}

// listsOf returns all lists of n of the numbers, in the order of the first place, then of the second one, and so on.
func listsOf(n int, numbers ...int) [][]int {
	lists := [][]int{nil}
	for range n {
		var longer [][]int
		for _, l := range lists {
			for _, x := range numbers {
				longer = append(longer, append(slices.Clone(l), x))
			}
		}
		lists = longer
	}
	return lists
}

// upTo returns the numbers 0..top.
func upTo(top int) []int {
	var numbers []int
	for x := range top + 1 {
		numbers = append(numbers, x)
	}
	return numbers
}

// with returns a copy of a list with another number at a place.
func with(list []int, i, x int) []int {
	c := slices.Clone(list)
	c[i] = x
	return c
}

// roomy returns a copy of a list with room behind it that is filled, so that a write into the room is seen.
func roomy(list []int) []int {
	r := append(slices.Clone(list), 77, 78, 79)
	return r[:len(list)]
}

// roomyIsKept reports whether a list made by roomy, and the room behind it, are as they were.
func roomyIsKept(r, list []int) bool {
	return slices.Equal(r[:len(list)+3], append(slices.Clone(list), 77, 78, 79))
}

// scribble overwrites a list and all the room behind it.
func scribble(list []int) {
	list = list[:cap(list)]
	for i := range list {
		list[i] = -99
	}
}

// checkRowsApart fails if two rows share memory, room behind them included.
func checkRowsApart(t *testing.T, rows [][]int) {
	t.Helper()
	was := make([][]int, len(rows))
	for i, r := range rows {
		was[i] = slices.Clone(r)
	}
	for i := range rows {
		scribble(rows[i])
		for j := i + 1; j < len(rows); j++ {
			if !slices.Equal(rows[j], was[j]) {
				t.Fatalf("rows %d and %d share memory", i, j)
			}
		}
	}
	for i := range rows {
		for j, x := range rows[i] {
			if x != -99 {
				t.Fatalf("row %d has %d at %d after it was overwritten", i, x, j)
			}
		}
	}
}

// roomyRows returns a copy of rows with room behind each one, and behind all, that is filled.
func roomyRows(rows [][]int) [][]int {
	var r [][]int
	for _, row := range rows {
		r = append(r, roomy(row))
	}
	r = append(r, []int{87}, []int{88, 88})
	return r[:len(rows)]
}

// roomyRowsAreKept reports whether rows made by roomyRows, and the room behind them, are as they were.
func roomyRowsAreKept(r, rows [][]int) bool {
	for i, row := range rows {
		if len(r[i]) != len(row) || !roomyIsKept(r[i], row) {
			return false
		}
	}
	return sameRows(r[len(rows):len(rows)+2], [][]int{{87}, {88, 88}})
}

// A listMaker makes a list of rows: what a function of the program returns, and what the document says of it.
type listMaker struct {
	name     string
	of, want func(rows [][]int) []int
}

// checkListsApart fails if a list that one of the makers makes of the rows shares memory with these, or with another list made of them.
func checkListsApart(t *testing.T, makers []listMaker, rows [][]int) {
	t.Helper()
	r := roomyRows(rows)
	for _, one := range makers {
		list := one.of(r)
		for _, other := range makers {
			kept := other.of(r)
			scribble(list)
			if !roomyRowsAreKept(r, rows) || !slices.Equal(kept, other.want(rows)) || !slices.Equal(other.of(r), other.want(rows)) {
				t.Fatalf("the result of %s of %v shares memory with it, or with that of %s", one.name, rows, other.name)
			}
		}
	}
}

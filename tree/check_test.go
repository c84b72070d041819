package tree

import (
	"math"
	"slices"
	"testing"

	"bulwark/api"
)

const (
	most   = math.MaxInt
	lowest = math.MinInt
)

// verdict is what Check answers.
type verdict struct {
	at int
	e  api.Errno
}

// checked is what Check answers.
func checked(parents []int) verdict {
	at, e := Check(parents)
	return verdict{at, e}
}

var (
	valid = verdict{0, api.OK}
	few   = verdict{0, api.ErrAcct}
	room  = verdict{16, api.ErrRoom}
)

// fault is the verdict on a list whose first fault is the account v.
func fault(v int) verdict { return verdict{v, api.ErrAcct} }

// lone are n accounts without a parent.
func lone(n int) []int { return slices.Repeat([]int{-1}, n) }

// after are the accounts of the list, House and Rounding ahead of them.
func after(parents ...int) []int { return append([]int{-1, -1}, parents...) }

// with is the list with another parent of an account.
func with(list []int, v, parent int) []int {
	list = slices.Clone(list)
	list[v] = parent
	return list
}

// chain are n accounts of which each one from the third on has the one ahead of it as its parent, if start does not begin another path there.
func chain(n int, start ...int) []int {
	list := lone(n)
	for v := 3; v < n; v++ {
		if !slices.Contains(start, v) {
			list[v] = v - 1
		}
	}
	return list
}

// TestCounts is that there are 2 to 16 accounts.
func TestCounts(t *testing.T) {
	for n := range 300 {
		want := valid
		switch {
		case n < 2:
			want = few
		case n > 16:
			want = room
		}
		if got := checked(lone(n)); got != want {
			t.Errorf("Check of %d accounts: %v, want %v", n, got, want)
		}
	}
	if got := checked(nil); got != few {
		t.Errorf("Check of nil: %v", got)
	}
	for _, n := range []int{1 << 16, 1<<16 + 2, 1 << 20, 1<<20 + 16} {
		if got := checked(lone(n)); got != room {
			t.Errorf("Check of %d accounts: %v", n, got)
		}
	}
}

// lists are lists of parents, each with the verdict on it.
var lists = []struct {
	parents []int
	want    verdict
}{
	// The chapter's examples.
	{[]int{-1, -1, -1, 2, 3}, valid},
	{[]int{-1, -1, 0}, fault(2)},
	{[]int{-1, -1, 3, -1}, fault(2)},
	{[]int{-1}, few},

	// One account, whatever its parent.
	{[]int{0}, few},
	{[]int{7}, few},
	{[]int{most}, few},

	// House and Rounding with a parent.
	{[]int{0, -1}, fault(0)},
	{[]int{1, -1}, fault(0)},
	{[]int{2, -1, -1}, fault(0)},
	{[]int{-2, -1}, fault(0)},
	{[]int{-1, 0}, fault(1)},
	{[]int{-1, 1}, fault(1)},
	{[]int{-1, 2}, fault(1)},
	{[]int{-1, 2, -1}, fault(1)},
	{[]int{-1, -2}, fault(1)},
	{[]int{1, 0}, fault(0)},
	{[]int{0, 0}, fault(0)},
	{[]int{2, 2, -1}, fault(0)},

	// House and Rounding as a parent.
	{after(0), fault(2)},
	{after(1), fault(2)},
	{after(-1, 0), fault(3)},
	{after(-1, 1), fault(3)},
	{after(-1, 2, 0), fault(4)},
	{after(-1, 2, 1), fault(4)},
	{with(lone(16), 15, 0), fault(15)},
	{with(lone(16), 15, 1), fault(15)},

	// Parents of each kind.
	{after(-1), valid},
	{after(-2), fault(2)},
	{after(-3), fault(2)},
	{after(lowest), fault(2)},
	{after(lowest + 1), fault(2)},
	{after(2), fault(2)},
	{after(3), fault(2)},
	{after(most), fault(2)},
	{after(most - 1), fault(2)},
	{after(-1, 2), valid},
	{after(-1, 3), fault(3)},
	{after(-1, 4), fault(3)},
	{after(-1, 4, -1), fault(3)},
	{after(-1, 5, -1), fault(3)},
	{after(-1, -2), fault(3)},
	{after(-1, 15), fault(3)},
	{after(-1, 16), fault(3)},
	{after(-1, 17), fault(3)},
	{after(-1, 255), fault(3)},
	{after(-1, 256+2), fault(3)},
	{after(-1, 1<<32+2), fault(3)},
	{after(-1, 1<<32-1), fault(3)},
	{after(-1, most), fault(3)},
	{after(-1, lowest), fault(3)},
	{after(-1, lowest+2), fault(3)},
	{with(lone(16), 15, 2), valid},
	{with(lone(16), 15, 14), valid},
	{with(lone(16), 15, 15), fault(15)},
	{with(lone(16), 15, 16), fault(15)},
	{with(lone(16), 15, -2), fault(15)},
	{with(lone(16), 14, 15), fault(14)},

	// Paths of up to five accounts.
	{chain(3), valid},
	{chain(4), valid},
	{chain(5), valid},
	{chain(6), valid},
	{chain(7), fault(6)},
	{chain(8), fault(6)},
	{chain(16), fault(6)},
	{chain(7, 6), valid},
	{chain(9, 5), valid},
	{chain(10, 5), fault(9)},
	{chain(14, 6, 10), valid},
	{chain(16, 6, 10, 14), valid},
	{chain(16, 6, 10), fault(14)},
	{after(-1, 2, 3, 4, 4), valid},
	{after(-1, 2, 3, 4, 4, 3, 2), valid},
	{after(-1, 2, 3, 4, 4, 6), fault(7)},
	{after(-1, -1, 2, 3, 4, 5), valid},
	{after(-1, -1, 2, 3, 4, 6), valid},
	{after(-1, -1, 2, 3, 4, 6, 7), fault(8)},
	{after(-1, -1, 3, 3, 5, 6), valid},
	{after(-1, 2, 3, 4, -1, 6, 7, 8, 5), fault(10)},
	{after(-1, 2, 3, 4, -1, 6, 7, 8, 9), fault(10)},
	{after(-1, 2, 3, 4, -1, 6, 7, 8, 8), valid},
	{with(chain(16, 6, 10, 14), 15, 9), fault(15)},
	{with(chain(16, 6, 10, 14), 15, 13), fault(15)},
	{with(chain(16, 6, 10, 14), 15, 12), valid},

	// The fifth account of a path behind another fault, ahead of another one, and two of them.
	{with(chain(8), 0, 1), fault(0)},
	{with(chain(8), 1, 0), fault(1)},
	{with(chain(8), 2, 2), fault(2)},
	{with(chain(8), 5, 1), fault(5)},
	{with(chain(8), 5, 5), fault(5)},
	{with(chain(8), 5, -2), fault(5)},
	{with(chain(9, 7), 7, 0), fault(6)},
	{with(chain(9, 7), 7, most), fault(6)},
	{after(-1, 2, 3, 4, 5, 5), fault(6)},
	{after(-1, 2, 3, 4, -1, 5, 5), fault(7)},

	// Several faults.
	{after(0, 0), fault(2)},
	{after(-1, 0, 1, 9), fault(3)},
	{after(3, 2), fault(2)},
	{after(-1, 4, 3), fault(3)},
	{after(4, -1, 2), fault(2)},
	{[]int{-1, 0, 0}, fault(1)},
	{[]int{0, -1, 0}, fault(0)},
	{[]int{1, -1, 2, lowest}, fault(0)},
	{make([]int, 2), fault(0)},
	{make([]int, 16), fault(0)},
	{slices.Repeat([]int{most}, 16), fault(0)},
	{slices.Repeat([]int{lowest}, 16), fault(0)},

	// More accounts than there may be, with faults.
	{make([]int, 17), room},
	{with(lone(17), 0, 1), room},
	{with(lone(17), 2, 1), room},
	{with(lone(17), 3, 3), room},
	{with(lone(17), 16, 16), room},
	{with(lone(17), 16, 0), room},
	{with(lone(17), 16, -2), room},
	{chain(17), room},
	{chain(100), room},
	{slices.Repeat([]int{most}, 17), room},
	{slices.Repeat([]int{lowest}, 1000), room},
}

// TestCheck is P10.1 for Check.
func TestCheck(t *testing.T) {
	for _, c := range lists {
		if got := checked(c.parents); got != c.want {
			t.Errorf("Check(%v): %v, want %v", c.parents, got, c.want)
		}
	}
}

// TestFirstFault is that the first of two faults is told, wherever they stand, of whichever kinds they are.
func TestFirstFault(t *testing.T) {
	kinds := []func(v int) int{
		func(int) int { return 0 },
		func(int) int { return 1 },
		func(int) int { return -2 },
		func(v int) int { return v },
		func(v int) int { return v + 1 },
		func(int) int { return most },
		func(int) int { return lowest },
	}
	for first := range 16 {
		for second := first; second < 16; second++ {
			for _, a := range kinds {
				for _, b := range kinds {
					list := with(with(lone(16), second, b(second)), first, a(first))
					if got := checked(list); got != fault(first) {
						t.Fatalf("Check(%v): %v, want %v", list, got, fault(first))
					}
				}
			}
		}
	}
}

// TestParents is P10.1 for Parents: as many as there are accounts, in their order, whatever they are and whatever else the accounts have.
func TestParents(t *testing.T) {
	for _, list := range [][]int{nil, {}, {-1}, {0}, {5}, {-1, -1}, {-1, -1, -1, 2, 3}, {3, 2, 1, 0}, {most, lowest, -2, 0, 17}, chain(16), lone(17), chain(5000)} {
		var accts []api.Acct
		for v, parent := range list {
			accts = append(accts, api.Acct{Parent: parent, Cash: []int{v + 100, 7}, Flag: v%2 == 0, Last: v + 200})
		}
		got := Parents(accts)
		if !slices.Equal(got, list) {
			t.Errorf("Parents of accounts with %v: %v", list, got)
		}
		for v := range accts {
			accts[v] = api.Acct{Parent: accts[v].Parent}
		}
		if got := Parents(accts); !slices.Equal(got, list) {
			t.Errorf("Parents of bare accounts with %v: %v", list, got)
		}
	}
	if got := Parents([]api.Acct{}); len(got) != 0 {
		t.Errorf("Parents of no accounts: %v", got)
	}
}

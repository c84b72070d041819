package locate

import (
	"math"
	"slices"
	"testing"

	"bulwark/api"
)

const (
	most   = math.MaxInt
	least  = math.MinInt
	topQty = 1000000000
)

// loc is a reservation.
func loc(acct, instr, qty int) api.Loc { return api.Loc{Acct: acct, Instr: instr, Qty: qty} }

// apart are reservations of n accounts, one of each, in three instruments.
func apart(n int) []api.Loc {
	var locs []api.Loc
	for k := range n {
		locs = append(locs, loc(2+k, 2-k%3, 10*k+1))
	}
	return locs
}

// many are n reservations, three of each account, in instruments with odd numbers up to 11.
func many(n int) []api.Loc {
	var locs []api.Loc
	for k := range n {
		locs = append(locs, loc(2+k/3, 1+2*(k%3)+k/3%4*2, k+1))
	}
	return locs
}

// changed is the list with another element in one place.
func changed[T any](list []T, at int, change func(*T)) []T {
	list = slices.Clone(list)
	change(&list[at])
	return list
}

// doubled is the list with a copy of an element behind another one.
func doubled[T any](list []T, k, behind int) []T {
	return slices.Insert(slices.Clone(list), behind+1, list[k])
}

// exchanged is the list with two of its elements in each other's place.
func exchanged[T any](list []T, j, k int) []T {
	list = slices.Clone(list)
	list[j], list[k] = list[k], list[j]
	return list
}

// checkGood fails unless that is the answer of Good.
func checkGood(t *testing.T, avail []int, locs []api.Loc, accts, instrs int, want bool) {
	t.Helper()
	if Good(avail, locs, accts, instrs) != want {
		t.Errorf("Good(%v, %v, %d, %d) is not %t", avail, locs, accts, instrs, want)
	}
}

// bound is a number, and whether the lists can be valid with it.
type bound struct {
	x    int
	want bool
}

// The bounds of what there is of an instrument, and of what is reserved.
var (
	stocks   = []bound{{least, false}, {least + 1, false}, {-1 << 32, false}, {-topQty, false}, {-2, false}, {-1, false}, {0, true}, {1, true}, {2, true}, {topQty - 1, true}, {topQty, true}, {topQty + 1, false}, {topQty + 2, false}, {1 << 32, false}, {1<<32 + 1, false}, {most, false}}
	reserves = []bound{{least, false}, {least + 1, false}, {-1 << 32, false}, {-topQty, false}, {-2, false}, {-1, false}, {0, false}, {1, true}, {2, true}, {topQty - 1, true}, {topQty, true}, {topQty + 1, false}, {topQty + 2, false}, {1 << 32, false}, {1<<32 + 1, false}, {most, false}}
)

// instrsOf are the bounds of the number of an instrument where there are n of them.
func instrsOf(n int) []bound {
	return []bound{{least, false}, {-n, false}, {-2, false}, {-1, false}, {0, true}, {n - 1, true}, {n, false}, {n + 1, false}, {1 << 32, false}, {most, false}}
}

// TestGoodSupply is P14.1 for Good where one number of the supply is at its bounds or beyond them.
func TestGoodSupply(t *testing.T) {
	for _, locs := range [][]api.Loc{nil, {}, {loc(2, 0, 5)}, {loc(2, 0, 5), loc(3, 0, 6)}} {
		for n := 1; n <= 12; n++ {
			avail := slices.Repeat([]int{7}, n)
			checkGood(t, avail, locs, 4, n, true)
			for k := range n {
				for _, b := range stocks {
					checkGood(t, changed(avail, k, func(x *int) { *x = b.x }), locs, 4, n, b.want)
				}
			}
		}
	}
}

// TestGoodFields is P14.1 for Good of reservations that are valid but for one field of one of them.
func TestGoodFields(t *testing.T) {
	avail := []int{0, 5, topQty}
	for n := 1; n <= 14; n++ {
		locs := apart(n)
		checkGood(t, avail, locs, n+2, 3, true)
		for k := range n {
			for _, b := range instrsOf(3) {
				checkGood(t, avail, changed(locs, k, func(l *api.Loc) { l.Instr = b.x }), n+2, 3, b.want)
			}
			for _, b := range reserves {
				checkGood(t, avail, changed(locs, k, func(l *api.Loc) { l.Qty = b.x }), n+2, 3, b.want)
			}
		}
	}
}

// TestGoodAccounts is P14.1 for Good of reservations whose first or last account is at its bounds: they are in order whatever it is.
func TestGoodAccounts(t *testing.T) {
	avail := []int{0, 5, topQty}
	for n := 1; n <= 14; n++ {
		locs := apart(n)
		for _, b := range []bound{{least, false}, {least + 1, false}, {-2, false}, {-1, false}, {0, false}, {1, false}, {2, true}} {
			checkGood(t, avail, changed(locs, 0, func(l *api.Loc) { l.Acct = b.x }), n+2, 3, b.want)
		}
		for _, b := range []bound{{n + 1, true}, {n + 2, false}, {n + 3, false}, {1 << 32, false}, {most - 1, false}, {most, false}} {
			checkGood(t, avail, changed(locs, n-1, func(l *api.Loc) { l.Acct = b.x }), n+2, 3, b.want)
		}
	}
}

// counts are numbers of accounts and instruments.
var counts = []int{least, least + 1, -1 << 32, -16, -3, -2, -1, 0, 1, 2, 3, 4, 5, 12, 16, 1 << 32, most - 1, most}

// TestGoodCounts is P14.1 for Good with whatever numbers of accounts and instruments: the supply has a number for each instrument, no more and no fewer.
func TestGoodCounts(t *testing.T) {
	for _, accts := range counts {
		for _, instrs := range counts {
			for _, none := range [][]int{nil, {}} {
				checkGood(t, none, nil, accts, instrs, instrs == 0)
				checkGood(t, none, []api.Loc{}, accts, instrs, instrs == 0)
				checkGood(t, none, []api.Loc{loc(2, 0, 5)}, accts, instrs, false)
			}
			for n := 1; n <= 17; n++ {
				avail := slices.Repeat([]int{7}, n)
				checkGood(t, avail, nil, accts, instrs, instrs == n)
				checkGood(t, avail, []api.Loc{}, accts, instrs, instrs == n)
				checkGood(t, avail, []api.Loc{loc(2, 0, 5)}, accts, instrs, instrs == n && accts >= 3)
				checkGood(t, avail, []api.Loc{loc(2, 3, 5), loc(4, 0, 5)}, accts, instrs, instrs == n && n >= 4 && accts >= 5)
				checkGood(t, avail, []api.Loc{loc(most-1, 0, 5)}, accts, instrs, instrs == n && accts == most)
				checkGood(t, avail, []api.Loc{loc(most, 0, 5)}, accts, instrs, false)
				checkGood(t, avail, []api.Loc{loc(2, most, 5)}, accts, instrs, false)
				for _, acct := range []int{least, -1, 0, 1} {
					checkGood(t, avail, []api.Loc{loc(acct, 0, 5)}, accts, instrs, false)
				}
			}
		}
	}
}

// TestGoodLengths is P14.1 for Good of supplies that are shorter or longer, and of as many reservations as there may be, and of more.
func TestGoodLengths(t *testing.T) {
	for n := range 30 {
		for instrs := -1; instrs <= 30; instrs++ {
			checkGood(t, make([]int, n), nil, 16, instrs, n == instrs)
			checkGood(t, make([]int, n), []api.Loc{loc(2, 0, 1)}, 16, instrs, n == instrs && n > 0)
			checkGood(t, make([]int, n), []api.Loc{loc(2, 11, 1)}, 16, instrs, n == instrs && n > 11)
		}
	}
	avail := make([]int, 12)
	for n := range 60 {
		checkGood(t, avail, many(n), 40, 12, n <= 32)
	}
	checkGood(t, avail, many(100000), most, 12, false)
	checkGood(t, make([]int, 100000), nil, 16, 100000, true)
}

// TestGoodTwice is P14.1 for Good of reservations with a pair that is there twice, at whichever places, with the same quantity or not.
func TestGoodTwice(t *testing.T) {
	avail, locs := make([]int, 12), many(30)
	checkGood(t, avail, locs, 16, 12, true)
	for k := range locs {
		for behind := range locs {
			list := doubled(locs, k, behind)
			checkGood(t, avail, list, 16, 12, false)
			checkGood(t, avail, changed(list, behind+1, func(l *api.Loc) { l.Qty++ }), 16, 12, false)
			checkGood(t, avail, changed(list, behind+1, func(l *api.Loc) { l.Qty = 1 }), 16, 12, false)
		}
	}
}

// TestGoodExchanged is P14.1 for Good of reservations of which two are exchanged, neighbours and others, of one account and of two.
func TestGoodExchanged(t *testing.T) {
	avail, locs := make([]int, 12), many(30)
	for k := range locs {
		for j := range k {
			checkGood(t, avail, exchanged(locs, j, k), 16, 12, false)
		}
	}
	for _, n := range []int{2, 3, 30} {
		list := many(n)
		slices.Reverse(list)
		checkGood(t, avail, list, 16, 12, false)
	}
}

// TestGoodOrder is P14.1 for what comes first: the account, then the instrument, and nothing else.
func TestGoodOrder(t *testing.T) {
	avail := make([]int, 12)
	checkGood(t, avail, []api.Loc{loc(2, 3, 9), loc(2, 4, 1), loc(3, 0, 5), loc(3, 11, 5), loc(4, 2, 1)}, 5, 12, true)
	checkGood(t, avail, []api.Loc{loc(2, 3, 9), loc(3, 0, 5), loc(2, 4, 1)}, 5, 12, false)
	checkGood(t, avail, []api.Loc{loc(3, 0, 1), loc(2, 1, 5)}, 5, 12, false)
	checkGood(t, avail, []api.Loc{loc(2, 1, 1), loc(2, 0, 5)}, 5, 12, false)
	checkGood(t, avail, []api.Loc{loc(2, 1, 5), loc(2, 1, 5)}, 5, 12, false)
	checkGood(t, avail, []api.Loc{loc(2, 1, 5), loc(2, 1, 6)}, 5, 12, false)
	checkGood(t, avail, []api.Loc{loc(2, 1, 6), loc(2, 1, 5)}, 5, 12, false)
	checkGood(t, avail, []api.Loc{loc(2, 1, 5), loc(3, 1, 5)}, 5, 12, true)
}

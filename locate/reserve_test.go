package locate

import (
	"slices"
	"testing"

	"bulwark/api"
)

// stock12 is a supply of twelve instruments, and some are reservations of three accounts, the middle one with three of them.
var (
	stock12 = []int{10, 0, 4, topQty, topQty - 1, 1, 0, 500, topQty, 0, 3, 8}
	some    = []api.Loc{loc(2, 0, 5), loc(4, 1, 7), loc(4, 3, topQty), loc(4, 5, topQty-1), loc(9, 11, 1)}
)

// places are reservations that some lacks, with the place that each would have.
var places = []struct{ acct, instr, at int }{
	{least, 0, 0}, {least, 11, 0}, {-3, 4, 0}, {0, 0, 0}, {1, 7, 0}, {1, 11, 0},
	{2, 1, 1}, {2, 11, 1}, {3, 0, 1}, {3, 11, 1}, {4, 0, 1},
	{4, 2, 2}, {4, 4, 3},
	{4, 6, 4}, {4, 11, 4}, {5, 0, 4}, {8, 11, 4}, {9, 0, 4}, {9, 10, 4},
	{10, 0, 5}, {10, 11, 5}, {most, 0, 5}, {most, 11, 5}, {1<<32 + 2, 0, 5},
}

// with is a list with x in one place in place of what was there.
func with[T any](list []T, at int, x T) []T {
	return changed(list, at, func(y *T) { *y = x })
}

// lacking is a list without the element of one place.
func lacking[T any](list []T, at int) []T {
	return slices.Delete(slices.Clone(list), at, at+1)
}

// checkReserve fails unless that is the answer of Reserve.
func checkReserve(t *testing.T, avail []int, locs []api.Loc, acct, instr, qty int, wantAvail []int, want []api.Loc, wantErr api.Errno) {
	t.Helper()
	if a, l, e := Reserve(avail, locs, acct, instr, qty); !slices.Equal(a, wantAvail) || !slices.Equal(l, want) || e != wantErr {
		t.Errorf("Reserve(%v, %v, %d, %d, %d): %v, %v, %d, not %v, %v, %d", avail, locs, acct, instr, qty, a, l, e, wantAvail, want, wantErr)
	}
}

// checkSupply fails unless that is the answer of Supply.
func checkSupply(t *testing.T, avail []int, instr, qty int, want []int, wantErr api.Errno) {
	t.Helper()
	if got, e := Supply(avail, instr, qty); !slices.Equal(got, want) || e != wantErr {
		t.Errorf("Supply(%v, %d, %d): %v, %d, not %v, %d", avail, instr, qty, got, e, want, wantErr)
	}
}

// checkShort fails unless that is the answer of Short.
func checkShort(t *testing.T, pos, selling, qty, want int) {
	t.Helper()
	if got := Short(pos, selling, qty); got != want {
		t.Errorf("Short(%d, %d, %d): %d, not %d", pos, selling, qty, got, want)
	}
}

// TestExamples are the chapter's examples.
func TestExamples(t *testing.T) {
	one := []api.Loc{loc(2, 0, 4)}
	checkReserve(t, []int{10}, nil, 2, 0, 4, []int{6}, one, api.OK)
	checkReserve(t, []int{6}, one, 2, 0, 7, nil, nil, api.ErrLocate)
	checkReserve(t, []int{6}, one, 2, 0, -5, nil, nil, api.ErrQty)
	checkShort(t, 3, 2, -4, 3)
}

// TestHeld is P14.1 for Held of reservations that there are and of others: ahead of all, behind all, and between two.
func TestHeld(t *testing.T) {
	for _, c := range []struct{ acct, instr, want int }{
		{2, 0, 5}, {4, 1, 7}, {4, 3, topQty}, {4, 5, topQty - 1}, {9, 11, 1},
		{2, -1, 0}, {1, 0, 0}, {1, 11, 0}, {0, 0, 0}, {-2, 0, 0}, {least, least, 0}, {least, most, 0},
		{2, 1, 0}, {2, 5, 0}, {2, most, 0}, {3, 0, 0}, {3, 1, 0}, {4, least, 0}, {4, 0, 0},
		{4, 2, 0}, {4, 4, 0}, {4, 6, 0}, {4, 11, 0}, {5, 0, 0}, {5, 1, 0}, {5, 3, 0}, {9, 0, 0}, {9, 10, 0},
		{9, 12, 0}, {10, 0, 0}, {10, 11, 0}, {most, least, 0}, {most, most, 0},
		{1<<32 + 2, 0, 0}, {4, 1<<32 + 1, 0}, {0, 2, 0}, {1, 4, 0}, {11, 9, 0},
	} {
		if got := Held(some, c.acct, c.instr); got != c.want {
			t.Errorf("Held of %d, %d: %d, not %d", c.acct, c.instr, got, c.want)
		}
		for _, none := range [][]api.Loc{nil, {}} {
			if got := Held(none, c.acct, c.instr); got != 0 {
				t.Errorf("Held of %d, %d where there is none: %d", c.acct, c.instr, got)
			}
		}
	}
	for n := range 70 {
		locs := many(n)
		for k, l := range locs {
			if got := Held(locs, l.Acct, l.Instr); got != k+1 {
				t.Errorf("Held of %v, of %d: %d", l, n, got)
			}
			if got := Held(locs, l.Acct, l.Instr+1); got != 0 {
				t.Errorf("Held behind %v, of %d: %d", l, n, got)
			}
		}
	}
}

// noInstrs are numbers of which stock12 has no instrument.
var noInstrs = []int{least, least + 1, -1 << 32, -12, -2, -1, 12, 13, 24, 1 << 32, most - 1, most}

// wrongQtys are no quantities.
var wrongQtys = []int{least, least + 1, -1 << 62, -1 << 33, -topQty - 2, -topQty - 1, topQty + 1, topQty + 2, 2 * topQty, 1 << 32, 1<<32 + 1, 1 << 62, most - 1, most}

// TestSupply is P14.1 for Supply whose sum is within its bounds, at them and just beyond.
func TestSupply(t *testing.T) {
	for instr, x := range stock12 {
		for _, sum := range []int{0, 1, 7, x - 1, x, x + 1, topQty - 1, topQty} {
			if sum >= 0 && sum <= topQty {
				checkSupply(t, stock12, instr, sum-x, with(stock12, instr, sum), api.OK)
			}
		}
		for _, sum := range []int{-2, -1, topQty + 1, topQty + 2} {
			checkSupply(t, stock12, instr, sum-x, nil, api.ErrQty)
		}
	}
	checkSupply(t, []int{0}, 0, topQty, []int{topQty}, api.OK)
	checkSupply(t, []int{0}, 0, 0, []int{0}, api.OK)
	checkSupply(t, []int{0}, 0, -1, nil, api.ErrQty)
	checkSupply(t, []int{0}, 0, -topQty, nil, api.ErrQty)
	checkSupply(t, []int{topQty}, 0, -topQty, []int{0}, api.OK)
	checkSupply(t, []int{topQty}, 0, 1, nil, api.ErrQty)
	checkSupply(t, []int{topQty}, 0, topQty, nil, api.ErrQty)
	checkSupply(t, []int{1, 2, 3}, 1, 5, []int{1, 7, 3}, api.OK)
}

// TestSupplyWrong is P14.1 for Supply of what is no quantity, and of instruments that there aren't, which stands first.
func TestSupplyWrong(t *testing.T) {
	for _, qty := range wrongQtys {
		for instr := range stock12 {
			checkSupply(t, stock12, instr, qty, nil, api.ErrQty)
		}
	}
	for _, instr := range noInstrs {
		for _, qty := range append([]int{-topQty, -1, 0, 1, topQty}, wrongQtys...) {
			checkSupply(t, stock12, instr, qty, nil, api.ErrInstr)
		}
	}
	for _, none := range [][]int{nil, {}} {
		for _, instr := range append([]int{0, 1, 11}, noInstrs...) {
			checkSupply(t, none, instr, 1, nil, api.ErrInstr)
			checkSupply(t, none, instr, topQty+1, nil, api.ErrInstr)
		}
	}
	for n := 1; n < 15; n++ {
		checkSupply(t, make([]int, n), n-1, 1, with(make([]int, n), n-1, 1), api.OK)
		checkSupply(t, make([]int, n), n, 1, nil, api.ErrInstr)
	}
}

// TestReserveThere is P14.1 for Reserve of a reservation that there is: what it becomes, where what is left of the supply would allow anything.
func TestReserveThere(t *testing.T) {
	for k, l := range some {
		for _, sum := range []int{1, 2, 6, l.Qty - 1, l.Qty, l.Qty + 1, topQty - 1, topQty} {
			qty := sum - l.Qty
			avail := with(make([]int, 12), l.Instr, max(0, qty))
			after := with(make([]int, 12), l.Instr, max(0, -qty))
			if sum >= 1 && sum <= topQty {
				checkReserve(t, avail, some, l.Acct, l.Instr, qty, after, with(some, k, loc(l.Acct, l.Instr, sum)), api.OK)
			}
		}
		avail, after := make([]int, 12), with(make([]int, 12), l.Instr, l.Qty)
		checkReserve(t, avail, some, l.Acct, l.Instr, -l.Qty, after, lacking(some, k), api.OK)
		checkReserve(t, avail, some[k:k+1], l.Acct, l.Instr, -l.Qty, after, nil, api.OK)
		checkReserve(t, stock12, some, l.Acct, l.Instr, 0, stock12, some, api.OK)
		full := slices.Repeat([]int{topQty}, 12)
		for _, sum := range []int{-2, -1, topQty + 1, topQty + 2} {
			checkReserve(t, avail, some, l.Acct, l.Instr, sum-l.Qty, nil, nil, api.ErrQty)
			checkReserve(t, full, some, l.Acct, l.Instr, sum-l.Qty, nil, nil, api.ErrQty)
		}
	}
}

// TestReserveNew is P14.1 for Reserve of a reservation that there isn't: ahead of all, between two, behind all.
func TestReserveNew(t *testing.T) {
	for _, c := range places {
		for _, qty := range []int{1, 2, 12, topQty - 1, topQty} {
			one := loc(c.acct, c.instr, qty)
			for _, more := range []int{0, 1, topQty - qty} {
				avail, after := with(stock12, c.instr, qty+more), with(stock12, c.instr, more)
				checkReserve(t, avail, some, c.acct, c.instr, qty, after, slices.Insert(slices.Clone(some), c.at, one), api.OK)
				checkReserve(t, avail, nil, c.acct, c.instr, qty, after, []api.Loc{one}, api.OK)
				checkReserve(t, avail, []api.Loc{}, c.acct, c.instr, qty, after, []api.Loc{one}, api.OK)
			}
		}
		for _, qty := range []int{-1, -2, -topQty} {
			checkReserve(t, make([]int, 12), some, c.acct, c.instr, qty, nil, nil, api.ErrQty)
			checkReserve(t, stock12, some, c.acct, c.instr, qty, nil, nil, api.ErrQty)
			checkReserve(t, stock12, nil, c.acct, c.instr, qty, nil, nil, api.ErrQty)
		}
	}
}

// TestReserveNothing is P14.1 for Reserve of 0: everything unchanged, whether there is such a reservation or not, however many there are.
func TestReserveNothing(t *testing.T) {
	for _, locs := range [][]api.Loc{nil, {}, some, some[:1], many(31), many(32), many(33), many(100)} {
		for _, avail := range [][]int{stock12, make([]int, 12), slices.Repeat([]int{topQty}, 12)} {
			for _, l := range append(slices.Clone(some), locs...) {
				checkReserve(t, avail, locs, l.Acct, l.Instr, 0, avail, locs, api.OK)
			}
			for _, c := range places {
				checkReserve(t, avail, locs, c.acct, c.instr, 0, avail, locs, api.OK)
			}
		}
	}
}

// TestReserveLocate is P14.1 for ErrLocate: as much as there is can be reserved, and no more, whether there is such a reservation or not.
func TestReserveLocate(t *testing.T) {
	for _, x := range []int{0, 1, 2, 10, topQty / 2, topQty - 2, topQty - 1} {
		for _, held := range []int{0, 1, 2, topQty - x - 1} {
			if held+x+1 > topQty {
				continue
			}
			locs, rest := []api.Loc{loc(2, 0, 3), loc(3, 1, held), loc(3, 2, 4)}, []api.Loc{loc(2, 0, 3), loc(3, 1, held+x), loc(3, 2, 4)}
			if held == 0 {
				locs = lacking(locs, 1)
			}
			if held+x == 0 {
				rest = lacking(rest, 1)
			}
			avail := []int{topQty, x, topQty}
			checkReserve(t, avail, locs, 3, 1, x, []int{topQty, 0, topQty}, rest, api.OK)
			checkReserve(t, avail, locs, 3, 1, x+1, nil, nil, api.ErrLocate)
			checkReserve(t, avail, locs, 3, 1, topQty-held, nil, nil, api.ErrLocate)
		}
	}
}

// TestReserveBack is P14.1 for the other ErrQty: what is given back has room in the supply, up to MaxQty of it and no more.
func TestReserveBack(t *testing.T) {
	for _, back := range []int{1, 2, 7, topQty - 1, topQty} {
		for _, held := range []int{back, back + 1, topQty} {
			if held > topQty {
				continue
			}
			locs, rest := []api.Loc{loc(2, 0, 3), loc(3, 1, held), loc(3, 2, 4)}, []api.Loc{loc(2, 0, 3), loc(3, 1, held-back), loc(3, 2, 4)}
			if held == back {
				rest = lacking(rest, 1)
			}
			for _, x := range []int{0, 1, topQty - back - 1, topQty - back} {
				if x >= 0 && x+back <= topQty {
					checkReserve(t, []int{topQty, x, 0}, locs, 3, 1, -back, []int{topQty, x + back, 0}, rest, api.OK)
				}
			}
			for _, x := range []int{topQty - back + 1, topQty - back + 2, topQty} {
				if x <= topQty {
					checkReserve(t, []int{topQty, x, 0}, locs, 3, 1, -back, nil, nil, api.ErrQty)
				}
			}
		}
	}
}

// TestReserveRoom is P14.1 for Reserve where there are nearly as many reservations as there may be, just as many, and more: a new one has room only among less than 32.
func TestReserveRoom(t *testing.T) {
	avail := slices.Repeat([]int{topQty}, 13)
	for _, n := range []int{1, 15, 16, 30, 31, 32, 33, 34, 64, 100} {
		locs := many(n)
		for at := range n + 1 {
			one := loc(1, 5, 3)
			if at > 0 {
				one = loc(locs[at-1].Acct, locs[at-1].Instr+1, 3)
			}
			if n < 32 {
				checkReserve(t, avail, locs, one.Acct, one.Instr, 3, with(avail, one.Instr, topQty-3), slices.Insert(slices.Clone(locs), at, one), api.OK)
			} else {
				checkReserve(t, avail, locs, one.Acct, one.Instr, 1, nil, nil, api.ErrRoom)
				checkReserve(t, avail, locs, one.Acct, one.Instr, 3, nil, nil, api.ErrRoom)
				checkReserve(t, avail, locs, one.Acct, one.Instr, topQty, nil, nil, api.ErrRoom)
			}
		}
	}
}

// TestReserveFull is P14.1 for Reserve of a reservation that there is among as many as there may be, and more: no room is needed.
func TestReserveFull(t *testing.T) {
	for _, n := range []int{31, 32, 33, 70} {
		locs := many(n)
		for k, l := range locs {
			avail := slices.Repeat([]int{50}, 13)
			checkReserve(t, avail, locs, l.Acct, l.Instr, 3, with(avail, l.Instr, 47), with(locs, k, loc(l.Acct, l.Instr, l.Qty+3)), api.OK)
			checkReserve(t, avail, locs, l.Acct, l.Instr, -l.Qty, with(avail, l.Instr, 50+l.Qty), lacking(locs, k), api.OK)
			if l.Qty > 1 {
				checkReserve(t, avail, locs, l.Acct, l.Instr, -1, with(avail, l.Instr, 51), with(locs, k, loc(l.Acct, l.Instr, l.Qty-1)), api.OK)
			}
			checkReserve(t, avail, locs, l.Acct, l.Instr, -l.Qty-1, nil, nil, api.ErrQty)
			checkReserve(t, avail, locs, l.Acct, l.Instr, 51, nil, nil, api.ErrLocate)
		}
	}
}

// TestReserveErrors is P14.1 for which error of Reserve stands first.
func TestReserveErrors(t *testing.T) {
	full, none, all := many(32), make([]int, 12), slices.Repeat([]int{topQty}, 12)
	for _, instr := range noInstrs {
		for _, qty := range append([]int{-topQty, -1, 0, 1, topQty}, wrongQtys...) {
			checkReserve(t, stock12, some, 2, instr, qty, nil, nil, api.ErrInstr) // with any of the others
			checkReserve(t, none, full, 1, instr, qty, nil, nil, api.ErrInstr)
			checkReserve(t, all, []api.Loc{loc(2, instr, 5)}, 2, instr, qty, nil, nil, api.ErrInstr) // also of what is reserved
		}
	}
	for _, nothing := range [][]int{nil, {}} {
		checkReserve(t, nothing, some, 2, 0, 0, nil, nil, api.ErrInstr)
		checkReserve(t, nothing, nil, 2, -1, 1, nil, nil, api.ErrInstr)
	}
	for _, qty := range wrongQtys {
		checkReserve(t, none, some, 2, 1, qty, nil, nil, api.ErrQty)   // no quantity, and more than the supply
		checkReserve(t, all, some, 4, 3, qty, nil, nil, api.ErrQty)    // no quantity, and more than the supply can be
		checkReserve(t, none, full, 2, 0, qty, nil, nil, api.ErrQty)   // no quantity, and no room
		checkReserve(t, all, some, 2, 0, qty, nil, nil, api.ErrQty)    // no quantity, and the sum is beyond its bounds
		checkReserve(t, stock12, nil, 2, 0, qty, nil, nil, api.ErrQty) // no quantity
	}
	checkReserve(t, none, some, 4, 3, 1, nil, nil, api.ErrQty)           // the sum is too much, and there is nothing
	checkReserve(t, none, some, 2, 0, topQty, nil, nil, api.ErrQty)      // the same
	checkReserve(t, none, some, 2, 0, topQty-5, nil, nil, api.ErrLocate) // the sum is just MaxQty, but there is nothing
	checkReserve(t, all, some, 2, 0, -6, nil, nil, api.ErrQty)           // less than nothing, and the supply is too much
	checkReserve(t, all, some, 2, 0, -5, nil, nil, api.ErrQty)           // the supply is too much
	checkReserve(t, none, full, 1, 0, -1, nil, nil, api.ErrQty)          // less than nothing, where there is no room
	checkReserve(t, none, full, 1, 0, 1, nil, nil, api.ErrLocate)        // there is nothing, and no room
	checkReserve(t, with(none, 0, 1), full, 1, 0, 2, nil, nil, api.ErrLocate)
	checkReserve(t, with(none, 0, 1), full, 1, 0, 1, nil, nil, api.ErrRoom)
	checkReserve(t, none, full, 1, 0, 0, none, full, api.OK)
}

// TestReserveZeros is P14.1 for Reserve where the list has reservations of 0, for it is specified for all quantities up to MaxQty: they are there, and what becomes 0 is left out.
func TestReserveZeros(t *testing.T) {
	avail, locs := []int{9, 9}, []api.Loc{loc(2, 0, 0), loc(2, 1, 5), loc(3, 0, 0)}
	checkReserve(t, avail, locs, 2, 0, 5, []int{4, 9}, []api.Loc{loc(2, 0, 5), loc(2, 1, 5), loc(3, 0, 0)}, api.OK)
	checkReserve(t, avail, locs, 3, 0, 9, []int{0, 9}, []api.Loc{loc(2, 0, 0), loc(2, 1, 5), loc(3, 0, 9)}, api.OK)
	checkReserve(t, avail, locs, 2, 1, -5, []int{9, 14}, []api.Loc{loc(2, 0, 0), loc(3, 0, 0)}, api.OK)
	checkReserve(t, avail, locs, 2, 0, 0, avail, locs[1:], api.OK)
	checkReserve(t, avail, locs, 3, 0, 0, avail, locs[:2], api.OK)
	checkReserve(t, avail, locs, 2, 0, -1, nil, nil, api.ErrQty)
	checkReserve(t, avail, locs, 2, 0, 10, nil, nil, api.ErrLocate)
	full := with(many(32), 7, loc(many(32)[7].Acct, many(32)[7].Instr, 0))
	l := full[7]
	checkReserve(t, slices.Repeat([]int{4}, 12), full, l.Acct, l.Instr, 4, with(slices.Repeat([]int{4}, 12), l.Instr, 0), with(full, 7, loc(l.Acct, l.Instr, 4)), api.OK)
}

// TestReserveAccounts is P14.1 for Reserve of whichever account: it is not asked whether it can have reservations, nor whether the others' instruments exist.
func TestReserveAccounts(t *testing.T) {
	for _, acct := range []int{least, -1, 0, 1, 2, 15, 16, 1 << 32, most} {
		checkReserve(t, []int{5}, nil, acct, 0, 5, []int{0}, []api.Loc{loc(acct, 0, 5)}, api.OK)
		checkReserve(t, []int{5}, []api.Loc{loc(acct, 0, 5)}, acct, 0, -5, []int{10}, nil, api.OK)
	}
	checkReserve(t, []int{5}, []api.Loc{loc(2, -7, 1), loc(2, 99, 1)}, 2, 0, 2, []int{3}, []api.Loc{loc(2, -7, 1), loc(2, 0, 2), loc(2, 99, 1)}, api.OK)
}

// TestShort is P14.1 for Short: of nothing or what is bought it is 0, and otherwise what would be sold beyond the position, but at least 0.
func TestShort(t *testing.T) {
	const much = 1 << 40
	for _, c := range [][4]int{
		{3, 2, -4, 3}, {10, 2, -4, 0}, {6, 2, -4, 0}, {5, 2, -4, 1}, {7, 2, -4, 0}, {-1, 0, -1, 2}, {0, 0, -1, 1}, {1, 0, -1, 0}, {2, 0, -1, 0}, {0, 7, -1, 8},
		{topQty, 0, -topQty, 0}, {topQty - 1, 0, -topQty, 1}, {topQty, 1, -topQty, 1}, {topQty, 0, -1, 0}, {topQty, topQty, -1, 1}, {topQty, topQty - 1, -1, 0}, {topQty, topQty - 2, -1, 0},
		{-topQty, 0, -1, topQty + 1}, {-topQty, 0, -topQty, 2 * topQty}, {-topQty, much, -topQty, much + 2*topQty}, {topQty, much, -topQty, much}, {topQty, much, -1, much - topQty + 1}, {0, much, -1, much + 1},
	} {
		checkShort(t, c[0], c[1], c[2], c[3])
	}
	for _, pos := range []int{-topQty, -1, 0, 1, 5, topQty - 1, topQty} {
		for _, selling := range []int{0, 1, 5, topQty, much - 1, much} {
			for _, qty := range []int{0, 1, 2, topQty, topQty + 1, 1 << 32, most - 1, most} {
				checkShort(t, pos, selling, qty, 0)
			}
			for _, qty := range []int{-1, -2, -topQty + 1, -topQty} {
				want := 0
				if sold := selling + -1*qty; sold > pos {
					want = sold - pos
				}
				checkShort(t, pos, selling, qty, want)
			}
		}
	}
}

package book

import (
	"slices"
	"testing"

	"bulwark/api"
)

// some are positions of three accounts, the middle one with three of them.
var some = []api.Pos{pos(2, 0, -5), pos(4, 1, 7), pos(4, 3, topQty), pos(4, 5, -topQty), pos(9, 11, 1)}

// checkAdd fails unless that is the answer of Add.
func checkAdd(t *testing.T, list []api.Pos, acct, instr, qty int, want []api.Pos, wantErr api.Errno) {
	t.Helper()
	if got, e := Add(list, acct, instr, qty); !slices.Equal(got, want) || e != wantErr {
		t.Errorf("Add(%v, %d, %d, %d): %v, %d, not %v, %d", list, acct, instr, qty, got, e, want, wantErr)
	}
}

// TestQty is P13.1 for Qty of positions that there are and of others: ahead of all, behind all, and between two.
func TestQty(t *testing.T) {
	for _, c := range []struct{ acct, instr, want int }{
		{2, 0, -5}, {4, 1, 7}, {4, 3, topQty}, {4, 5, -topQty}, {9, 11, 1},
		{2, -1, 0}, {1, 0, 0}, {1, 11, 0}, {0, 0, 0}, {-2, 0, 0}, {least, least, 0}, {least, most, 0},
		{2, 1, 0}, {2, 5, 0}, {2, most, 0}, {3, 0, 0}, {3, 1, 0}, {4, least, 0}, {4, 0, 0},
		{4, 2, 0}, {4, 4, 0}, {4, 6, 0}, {4, 11, 0}, {5, 0, 0}, {5, 1, 0}, {5, 3, 0}, {9, 0, 0}, {9, 10, 0},
		{9, 12, 0}, {10, 0, 0}, {10, 11, 0}, {most, least, 0}, {most, most, 0},
		{1<<32 + 2, 0, 0}, {4, 1<<32 + 1, 0}, {0, 2, 0}, {1, 4, 0}, {11, 9, 0},
	} {
		if got := Qty(some, c.acct, c.instr); got != c.want {
			t.Errorf("Qty of %d, %d: %d, not %d", c.acct, c.instr, got, c.want)
		}
		for _, none := range [][]api.Pos{nil, {}} {
			if got := Qty(none, c.acct, c.instr); got != 0 {
				t.Errorf("Qty of %d, %d where there is none: %d", c.acct, c.instr, got)
			}
		}
	}
	for n := range 100 {
		for k, p := range manyPoss(n) {
			if got := Qty(manyPoss(n), p.Acct, p.Instr); got != k-1000 {
				t.Errorf("Qty of %v, of %d: %d", p, n, got)
			}
		}
	}
}

// TestAddExample is the chapter's example.
func TestAddExample(t *testing.T) {
	checkAdd(t, []api.Pos{pos(2, 0, -5)}, 2, 0, 5, nil, api.OK)
}

// TestAddThere is P13.1 for Add to a position that there is: its sum is 0, at the bounds and just beyond them.
func TestAddThere(t *testing.T) {
	with := func(k, qty int) []api.Pos {
		return changed(some, k, func(p *api.Pos) { p.Qty = qty })
	}
	for _, c := range []struct{ k, qty, sum int }{
		{0, 1, -4}, {0, -1, -6}, {0, 4, -1}, {0, 6, 1}, {0, topQty, topQty - 5}, {0, -topQty + 5, -topQty}, {0, -topQty + 6, -topQty + 1},
		{1, -6, 1}, {1, -8, -1}, {1, topQty - 7, topQty}, {1, topQty - 8, topQty - 1}, {1, -topQty, 7 - topQty},
		{2, -1, topQty - 1}, {2, -topQty + 1, 1}, {3, 1, -topQty + 1}, {3, topQty - 1, -1},
		{4, 1, 2}, {4, -2, -1}, {4, topQty - 1, topQty}, {4, -topQty, -topQty + 1},
	} {
		checkAdd(t, some, some[c.k].Acct, some[c.k].Instr, c.qty, with(c.k, c.sum), api.OK)
	}
	for _, c := range []struct{ k, qty int }{
		{0, -topQty + 4}, {0, -topQty + 3}, {0, -topQty}, {1, topQty - 6}, {1, topQty - 5}, {1, topQty},
		{2, 1}, {2, 2}, {2, topQty}, {3, -1}, {3, -2}, {3, -topQty}, {4, topQty},
	} {
		checkAdd(t, some, some[c.k].Acct, some[c.k].Instr, c.qty, nil, api.ErrQty)
	}
	for k, p := range some {
		rest := slices.Delete(slices.Clone(some), k, k+1)
		checkAdd(t, some, p.Acct, p.Instr, -p.Qty, rest, api.OK)
		checkAdd(t, some[k:k+1], p.Acct, p.Instr, -p.Qty, nil, api.OK)
	}
	checkAdd(t, []api.Pos{pos(2, 0, topQty)}, 2, 0, -topQty, nil, api.OK)
	checkAdd(t, []api.Pos{pos(2, 0, -topQty)}, 2, 0, topQty, nil, api.OK)
}

// places are positions that some lacks, with the place that each would have.
var places = []struct{ acct, instr, at int }{
	{least, least, 0}, {least, most, 0}, {-3, 4, 0}, {0, 0, 0}, {1, 7, 0}, {2, -1, 0},
	{2, 1, 1}, {2, 11, 1}, {3, 0, 1}, {3, 12, 1}, {4, 0, 1}, {4, least, 1},
	{4, 2, 2}, {4, 4, 3},
	{4, 6, 4}, {4, most, 4}, {5, 0, 4}, {8, 11, 4}, {9, 0, 4}, {9, 10, 4},
	{9, 12, 5}, {10, 0, 5}, {10, 11, 5}, {most, least, 5}, {most, most, 5},
}

// TestAddNew is P13.1 for Add to a position that there isn't: ahead of all, between two, behind all.
func TestAddNew(t *testing.T) {
	for _, c := range places {
		for _, qty := range []int{1, -1, 12, -topQty, topQty, -topQty + 1, topQty - 1} {
			want := slices.Insert(slices.Clone(some), c.at, pos(c.acct, c.instr, qty))
			checkAdd(t, some, c.acct, c.instr, qty, want, api.OK)
			checkAdd(t, nil, c.acct, c.instr, qty, []api.Pos{pos(c.acct, c.instr, qty)}, api.OK)
			checkAdd(t, []api.Pos{}, c.acct, c.instr, qty, []api.Pos{pos(c.acct, c.instr, qty)}, api.OK)
		}
	}
}

// wrongQtys are no quantities.
var wrongQtys = []int{least, least + 1, -1 << 33, -topQty - 2, -topQty - 1, topQty + 1, topQty + 2, 2 * topQty, 1 << 32, 1<<32 + 1, 1 << 62, most - 1, most}

// TestAddWrong is P13.1 for Add of what is no quantity: ErrQty to any position, also where the sum would be a quantity, or 0.
func TestAddWrong(t *testing.T) {
	for _, qty := range wrongQtys {
		for _, p := range some {
			checkAdd(t, some, p.Acct, p.Instr, qty, nil, api.ErrQty)
		}
		for _, c := range places {
			checkAdd(t, some, c.acct, c.instr, qty, nil, api.ErrQty)
		}
		checkAdd(t, nil, 2, 0, qty, nil, api.ErrQty)
	}
}

// TestAddNothing is P13.1 for Add of 0: the positions unchanged, whether there is such a position or not, however many there are.
func TestAddNothing(t *testing.T) {
	for _, list := range [][]api.Pos{nil, {}, some, some[:1], manyPoss(63), manyPoss(64), manyPoss(65), manyPoss(1000), {pos(2, 0, 0)}, {pos(2, 0, 0), pos(2, 1, 5)}} {
		for _, p := range some {
			checkAdd(t, list, p.Acct, p.Instr, 0, list, api.OK)
		}
		for _, c := range places {
			checkAdd(t, list, c.acct, c.instr, 0, list, api.OK)
		}
	}
}

// spaced are n positions in instruments with odd numbers.
func spaced(n int) []api.Pos {
	list := manyPoss(n)
	for k := range list {
		list[k].Instr = 2*list[k].Instr + 1
	}
	return list
}

// TestAddRoom is P13.1 for Add where there are nearly as many positions as there may be, just as many, and more: a new one has room only among less than 64.
func TestAddRoom(t *testing.T) {
	for _, n := range []int{1, 31, 32, 62, 63, 64, 65, 66, 100, 1000} {
		list := spaced(n)
		for at := range n + 1 {
			p := pos(1, 5, 3)
			if at > 0 {
				p = pos(list[at-1].Acct, list[at-1].Instr+1, 3)
			}
			if n < 64 {
				checkAdd(t, list, p.Acct, p.Instr, 3, slices.Insert(slices.Clone(list), at, p), api.OK)
			} else {
				checkAdd(t, list, p.Acct, p.Instr, 3, nil, api.ErrRoom)
				checkAdd(t, list, p.Acct, p.Instr, topQty, nil, api.ErrRoom)
				checkAdd(t, list, p.Acct, p.Instr, -topQty, nil, api.ErrRoom)
			}
		}
	}
}

// TestAddFull is P13.1 for Add to a position that there is among as many as there may be, and more: no room is needed.
func TestAddFull(t *testing.T) {
	for _, n := range []int{64, 65, 200} {
		list := spaced(n)
		for k, p := range list {
			checkAdd(t, list, p.Acct, p.Instr, 3, changed(list, k, func(p *api.Pos) { p.Qty += 3 }), api.OK)
			checkAdd(t, list, p.Acct, p.Instr, -p.Qty, slices.Delete(slices.Clone(list), k, k+1), api.OK)
			checkAdd(t, list, p.Acct, p.Instr, -topQty, nil, api.ErrQty)
		}
	}
}

// TestAddErrors is P13.1 for which error of Add stands first.
func TestAddErrors(t *testing.T) {
	full := spaced(64)
	for _, qty := range wrongQtys {
		checkAdd(t, full, 1, 1, qty, nil, api.ErrQty)  // no quantity, and no room
		checkAdd(t, full, 2, 1, qty, nil, api.ErrQty)  // no quantity, and the sum is none
		checkAdd(t, some, 4, 3, -qty, nil, api.ErrQty) // no quantity, where the sum may be one
		checkAdd(t, manyPoss(65), 1, 1, qty, nil, api.ErrQty)
	}
	checkAdd(t, full, 1, 1, 0, full, api.OK) // nothing to add, and no room
	checkAdd(t, full, 1, 1, 1, nil, api.ErrRoom)
	checkAdd(t, some, 4, 3, 0, some, api.OK)
	checkAdd(t, some, 4, 3, -topQty-1, nil, api.ErrQty)
	checkAdd(t, some, 4, 5, topQty+1, nil, api.ErrQty)
	checkAdd(t, some, 4, 3, -2*topQty, nil, api.ErrQty)
}

// TestAddZeros is P13.1 for Add where the list has positions of 0, for it is specified for all quantities up to MaxQty.
func TestAddZeros(t *testing.T) {
	list := []api.Pos{pos(2, 0, 0), pos(2, 1, 5), pos(3, 0, 0)}
	checkAdd(t, list, 2, 0, 5, []api.Pos{pos(2, 0, 5), pos(2, 1, 5), pos(3, 0, 0)}, api.OK)
	checkAdd(t, list, 3, 0, -topQty, []api.Pos{pos(2, 0, 0), pos(2, 1, 5), pos(3, 0, -topQty)}, api.OK)
	checkAdd(t, list, 2, 1, -5, []api.Pos{pos(2, 0, 0), pos(3, 0, 0)}, api.OK)
	checkAdd(t, list, 2, 2, -5, []api.Pos{pos(2, 0, 0), pos(2, 1, 5), pos(2, 2, -5), pos(3, 0, 0)}, api.OK)
}

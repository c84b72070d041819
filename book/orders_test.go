package book

import (
	"slices"
	"testing"

	"bulwark/api"
)

// open are orders of three accounts, the middle one with four of them.
var open = []api.Order{
	order(2, 9, 3, 10, 100),
	order(4, 1, 1, -10, 101),
	order(4, 5, 1, topQty, 102),
	order(4, 7, 0, -topQty, topPrice),
	order(4, topId, 1, -1, 1),
	order(9, 3, 11, 1, 7),
}

// openPlaces are orders that open lacks, with the place that each would have.
var openPlaces = []struct{ acct, id, at int }{
	{least, least, 0}, {least, most, 0}, {-3, 4, 0}, {0, 0, 0}, {1, 9, 0}, {1, topId, 0}, {2, least, 0}, {2, 1, 0}, {2, 8, 0},
	{2, 10, 1}, {2, most, 1}, {3, 1, 1}, {3, 9, 1}, {4, -1, 1}, {4, 0, 1},
	{4, 2, 2}, {4, 4, 2}, {4, 6, 3}, {4, 8, 4}, {4, 9, 4}, {4, topId - 1, 4},
	{4, topId + 1, 5}, {4, most, 5}, {5, 1, 5}, {5, 5, 5}, {8, topId, 5}, {9, 1, 5}, {9, 2, 5},
	{9, 4, 6}, {9, topId, 6}, {10, 3, 6}, {11, 9, 6}, {1<<32 + 2, 9, 6}, {most, least, 6}, {most, most, 6},
}

// checkPut fails unless that is the answer of Put.
func checkPut(t *testing.T, list []api.Order, o api.Order, want []api.Order, wantErr api.Errno) {
	t.Helper()
	if got, e := Put(list, o); !slices.Equal(got, want) || e != wantErr {
		t.Errorf("Put(%v, %v): %v, %d, not %v, %d", list, o, got, e, want, wantErr)
	}
}

// checkCut fails unless that is the answer of Cut.
func checkCut(t *testing.T, list []api.Order, acct, id, qty int, want []api.Order, wantLeft int, wantErr api.Errno) {
	t.Helper()
	if got, left, e := Cut(list, acct, id, qty); !slices.Equal(got, want) || left != wantLeft || e != wantErr {
		t.Errorf("Cut(%v, %d, %d, %d): %v, %d, %d, not %v, %d, %d", list, acct, id, qty, got, left, e, want, wantLeft, wantErr)
	}
}

// checkDrop fails unless that is the answer of Drop.
func checkDrop(t *testing.T, list []api.Order, acct, id int, want []api.Order, wantErr api.Errno) {
	t.Helper()
	if got, e := Drop(list, acct, id); !slices.Equal(got, want) || e != wantErr {
		t.Errorf("Drop(%v, %d, %d): %v, %d, not %v, %d", list, acct, id, got, e, want, wantErr)
	}
}

// TestFind is P13.1 for Find of orders that there are and of others: ahead of all, behind all, and between two.
func TestFind(t *testing.T) {
	for k, o := range open {
		if got := Find(open, o.Acct, o.Id); got != k {
			t.Errorf("Find of %v: %d, not %d", o, got, k)
		}
	}
	for _, c := range openPlaces {
		for _, list := range [][]api.Order{open, open[:1], open[5:], nil, {}} {
			if got := Find(list, c.acct, c.id); got != -1 {
				t.Errorf("Find of %d, %d in %v: %d", c.acct, c.id, list, got)
			}
		}
	}
	for n := range 100 {
		list := manyOrders(n)
		for k, o := range list {
			if got := Find(list, o.Acct, o.Id); got != k {
				t.Errorf("Find of %v, of %d: %d", o, n, got)
			}
			if got := Find(list, o.Acct, o.Id+1); got != -1 {
				t.Errorf("Find of one behind %v, of %d: %d", o, n, got)
			}
		}
	}
}

// TestPutExample is the chapter's example.
func TestPutExample(t *testing.T) {
	seven, nine := order(2, 7, 1, 5, 6), order(2, 9, 3, 10, 100)
	checkPut(t, []api.Order{nine}, seven, []api.Order{seven, nine}, api.OK)
}

// TestPut is P13.1 for Put of an order that there isn't: ahead of all, between two, behind all. Whether the order can be is not asked.
func TestPut(t *testing.T) {
	for _, c := range openPlaces {
		for _, o := range []api.Order{order(c.acct, c.id, 2, -7, 44), order(c.acct, c.id, 0, 0, 0), order(c.acct, c.id, -1, topQty+1, -1), order(c.acct, c.id, most, least, most)} {
			checkPut(t, open, o, slices.Insert(slices.Clone(open), c.at, o), api.OK)
			checkPut(t, nil, o, []api.Order{o}, api.OK)
			checkPut(t, []api.Order{}, o, []api.Order{o}, api.OK)
		}
	}
}

// TestPutTwice is P13.1 for Put of an order that there is, whatever else it has.
func TestPutTwice(t *testing.T) {
	for _, o := range open {
		checkPut(t, open, o, nil, api.ErrTwice)
		checkPut(t, open, order(o.Acct, o.Id, 5, 6, 7), nil, api.ErrTwice)
		checkPut(t, open, order(o.Acct, o.Id, 0, 0, 0), nil, api.ErrTwice)
		checkPut(t, []api.Order{o}, o, nil, api.ErrTwice)
	}
}

// TestPutRoom is P13.1 for Put where there are nearly as many orders as there may be, just as many, and more; of two errors ErrTwice stands first.
func TestPutRoom(t *testing.T) {
	for _, n := range []int{1, 15, 16, 30, 31, 32, 33, 34, 64, 65, 1000} {
		list := manyOrders(n)
		for at := range n + 1 {
			o := order(1, 5, 3, 4, 5)
			if at > 0 {
				o = order(list[at-1].Acct, list[at-1].Id+1, 3, 4, 5)
				checkPut(t, list, list[at-1], nil, api.ErrTwice)
				checkPut(t, list, order(list[at-1].Acct, list[at-1].Id, 3, 4, 5), nil, api.ErrTwice)
			}
			if n < 32 {
				checkPut(t, list, o, slices.Insert(slices.Clone(list), at, o), api.OK)
			} else {
				checkPut(t, list, o, nil, api.ErrRoom)
			}
		}
	}
}

// TestCutExample is the chapter's example.
func TestCutExample(t *testing.T) {
	checkCut(t, []api.Order{order(2, 9, 3, -10, 100)}, 2, 9, 3, []api.Order{order(2, 9, 3, -7, 100)}, 7, api.OK)
}

// TestCut is P13.1 for Cut of orders that buy and of ones that sell: what is left of one has its sign.
func TestCut(t *testing.T) {
	for k, o := range open {
		size, sign := o.Qty, 1
		if o.Qty < 0 {
			size, sign = -o.Qty, -1
		}
		for _, qty := range []int{1, 2, 3, size / 2, size - 3, size - 2, size - 1} {
			if 1 <= qty && qty < size {
				want := changed(open, k, func(o *api.Order) { o.Qty = sign * (size - qty) })
				checkCut(t, open, o.Acct, o.Id, qty, want, size-qty, api.OK)
			}
		}
		rest := slices.Delete(slices.Clone(open), k, k+1)
		checkCut(t, open, o.Acct, o.Id, size, rest, 0, api.OK)
		checkCut(t, []api.Order{o}, o.Acct, o.Id, size, nil, 0, api.OK)
		for _, qty := range []int{0, -1, -2, -size + 1, -size, -size - 1, -topQty, -topQty - 1, -1 << 32, least + 1, least, size + 1, size + 2, 2 * size, topQty + 1, 1<<32 + 1, most - 1, most} {
			if qty < 1 || qty > size {
				checkCut(t, open, o.Acct, o.Id, qty, nil, 0, api.ErrQty)
			}
		}
	}
}

// TestCutEach is P13.1 for Cut of an order of 10 by each number about it, whether it buys or sells.
func TestCutEach(t *testing.T) {
	for qty := -25; qty <= 25; qty++ {
		for _, sign := range []int{1, -1} {
			list := []api.Order{order(2, 8, 0, 3, 3), order(2, 9, 3, 10*sign, 100), order(2, 10, 0, -3, 3)}
			switch {
			case qty < 1 || qty > 10:
				checkCut(t, list, 2, 9, qty, nil, 0, api.ErrQty)
			case qty == 10:
				checkCut(t, list, 2, 9, qty, []api.Order{list[0], list[2]}, 0, api.OK)
			default:
				checkCut(t, list, 2, 9, qty, []api.Order{list[0], order(2, 9, 3, (10-qty)*sign, 100), list[2]}, 10-qty, api.OK)
			}
		}
	}
}

// TestCutNone is P13.1 for Cut of an order that there isn't: ErrOrder, also where the quantity is one that can't be.
func TestCutNone(t *testing.T) {
	for _, c := range openPlaces {
		for _, qty := range []int{1, 0, -1, 10, topQty, topQty + 1, least, most} {
			for _, list := range [][]api.Order{open, open[:1], nil, {}} {
				checkCut(t, list, c.acct, c.id, qty, nil, 0, api.ErrOrder)
			}
		}
	}
}

// TestCutZero is P13.1 for Cut of an order of 0, for it is specified for all quantities up to MaxQty: nothing can be taken from it.
func TestCutZero(t *testing.T) {
	for _, qty := range []int{least, -1, 0, 1, 2, topQty, most} {
		checkCut(t, []api.Order{order(2, 9, 3, 0, 100)}, 2, 9, qty, nil, 0, api.ErrQty)
	}
}

// TestCutLong is P13.1 for Cut and Drop of orders among more than there may be.
func TestCutLong(t *testing.T) {
	for _, n := range []int{31, 32, 33, 100} {
		list := manyOrders(n)
		for k, o := range list {
			rest := slices.Delete(slices.Clone(list), k, k+1)
			checkDrop(t, list, o.Acct, o.Id, rest, api.OK)
			checkCut(t, list, o.Acct, o.Id, o.Qty, rest, 0, api.OK)
			checkCut(t, list, o.Acct, o.Id, 6, changed(list, k, func(o *api.Order) { o.Qty -= 6 }), o.Qty-6, api.OK)
			checkDrop(t, list, o.Acct, o.Id+1, nil, api.ErrOrder)
		}
	}
}

// TestDrop is P13.1 for Drop of the first order, those in the midst, the last one, the only one, and of orders that there aren't.
func TestDrop(t *testing.T) {
	for k, o := range open {
		checkDrop(t, open, o.Acct, o.Id, slices.Delete(slices.Clone(open), k, k+1), api.OK)
		checkDrop(t, []api.Order{o}, o.Acct, o.Id, nil, api.OK)
	}
	for _, c := range openPlaces {
		for _, list := range [][]api.Order{open, open[:1], open[5:], nil, {}} {
			checkDrop(t, list, c.acct, c.id, nil, api.ErrOrder)
		}
	}
	checkDrop(t, []api.Order{order(2, 9, 0, 0, 0)}, 2, 9, nil, api.OK)
}

// TestSelling is P13.1 for Selling: orders of the account and the instrument that sell, and no others.
func TestSelling(t *testing.T) {
	list := []api.Order{
		order(2, 1, 1, -1, 5),
		order(2, 2, 1, 20, 5),
		order(2, 3, 1, -300, 7),
		order(2, 4, 2, -4000, 5),
		order(2, 5, 1, -50000, 1),
		order(2, 6, 3, 600000, 5),
		order(3, 1, 1, -7000000, 5),
		order(3, 2, 2, -80000000, 5),
		order(3, 3, 2, -topQty, 5),
		order(3, 4, 2, -topQty, 5),
		order(3, 5, 2, topQty, 5),
		order(3, 6, 0, 0, 5),
	}
	for _, c := range []struct{ acct, instr, want int }{
		{2, 0, 0}, {2, 1, 50301}, {2, 2, 4000}, {2, 3, 0}, {2, 4, 0}, {2, -1, 0}, {2, least, 0}, {2, most, 0},
		{3, 0, 0}, {3, 1, 7000000}, {3, 2, 2*topQty + 80000000}, {3, 3, 0},
		{1, 2, 0}, {1, 1, 0}, {4, 1, 0}, {0, 0, 0}, {-1, 1, 0}, {1<<32 + 2, 1, 0}, {2, 1<<32 + 1, 0}, {least, 1, 0}, {most, 1, 0},
	} {
		if got := Selling(list, c.acct, c.instr); got != c.want {
			t.Errorf("Selling of %d, %d: %d, not %d", c.acct, c.instr, got, c.want)
		}
		for _, none := range [][]api.Order{nil, {}} {
			if got := Selling(none, c.acct, c.instr); got != 0 {
				t.Errorf("Selling of %d, %d without an order: %d", c.acct, c.instr, got)
			}
		}
	}
}

// TestSellingMany is P13.1 for Selling of many orders at once: each of them counts.
func TestSellingMany(t *testing.T) {
	for _, n := range []int{1, 2, 31, 32, 33, 1000} {
		var list []api.Order
		for k := range n {
			list = append(list, order(2, k+1, 4, -topQty, 1))
		}
		if got := Selling(list, 2, 4); got != n*topQty {
			t.Errorf("Selling of %d orders: %d", n, got)
		}
		for k := range list {
			if got := Selling(changed(list, k, func(o *api.Order) { o.Qty = -3 }), 2, 4); got != (n-1)*topQty+3 {
				t.Errorf("Selling of %d orders, with less in %d: %d", n, k, got)
			}
		}
	}
}

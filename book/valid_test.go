package book

import (
	"math"
	"slices"
	"testing"

	"bulwark/api"
)

const (
	most     = math.MaxInt
	least    = math.MinInt
	topQty   = 1000000000
	topId    = 1099511627776
	topPrice = 100000000000000
)

// pos is a position.
func pos(acct, instr, qty int) api.Pos { return api.Pos{Acct: acct, Instr: instr, Qty: qty} }

// order is an order.
func order(acct, id, instr, qty, price int) api.Order {
	return api.Order{Acct: acct, Id: id, Instr: instr, Qty: qty, Price: price}
}

// possApart are positions of n accounts, one of each, in three instruments.
func possApart(n int) []api.Pos {
	var list []api.Pos
	for k := range n {
		list = append(list, pos(2+k, 2-k%3, 10*k+1))
	}
	return list
}

// ordersApart are orders of n accounts, one of each, in three instruments; their numbers descend.
func ordersApart(n int) []api.Order {
	var list []api.Order
	for k := range n {
		list = append(list, order(2+k, 900-k, 2-k%3, -10*k-1, 100+k))
	}
	return list
}

// manyPoss are n positions, twelve of each account.
func manyPoss(n int) []api.Pos {
	var list []api.Pos
	for k := range n {
		list = append(list, pos(2+k/12, k%12, k-1000))
	}
	return list
}

// manyOrders are n orders, three of each account.
func manyOrders(n int) []api.Order {
	var list []api.Order
	for k := range n {
		list = append(list, order(2+k/3, 7+2*(k%3), k%12, 5000-k, 1+k))
	}
	return list
}

// changed is the list with another element in one place.
func changed[T any](list []T, at int, change func(*T)) []T {
	list = slices.Clone(list)
	change(&list[at])
	return list
}

// checkPoss fails unless that is the answer of Poss.
func checkPoss(t *testing.T, list []api.Pos, accts, instrs int, want bool) {
	t.Helper()
	if Poss(list, accts, instrs) != want {
		t.Errorf("Poss(%v, %d, %d) is not %t", list, accts, instrs, want)
	}
}

// checkOrders fails unless that is the answer of Orders.
func checkOrders(t *testing.T, list []api.Order, accts, instrs int, want bool) {
	t.Helper()
	if Orders(list, accts, instrs) != want {
		t.Errorf("Orders(%v, %d, %d) is not %t", list, accts, instrs, want)
	}
}

// A number that a field has, and whether the element can be valid with it.
type bound struct {
	x    int
	want bool
}

// The bounds of the fields that hang on no number of accounts or instruments.
var (
	qtys   = []bound{{least, false}, {least + 1, false}, {-1 << 32, false}, {-topQty - 1, false}, {-topQty, true}, {-topQty + 1, true}, {-1, true}, {0, false}, {1, true}, {topQty - 1, true}, {topQty, true}, {topQty + 1, false}, {1 << 32, false}, {most, false}}
	ids    = []bound{{least, false}, {-topId, false}, {-1, false}, {0, false}, {1, true}, {2, true}, {topId - 1, true}, {topId, true}, {topId + 1, false}, {most, false}}
	prices = []bound{{least, false}, {-topPrice, false}, {-1, false}, {0, false}, {1, true}, {2, true}, {topPrice - 1, true}, {topPrice, true}, {topPrice + 1, false}, {most, false}}
)

// instrsOf are the bounds of the number of an instrument where there are n of them.
func instrsOf(n int) []bound {
	return []bound{{least, false}, {-n, false}, {-2, false}, {-1, false}, {0, true}, {n - 1, true}, {n, false}, {n + 1, false}, {1 << 32, false}, {most, false}}
}

// TestPossFields is P13.1 for Poss of lists that are valid but for one field of one element.
func TestPossFields(t *testing.T) {
	for n := 1; n <= 14; n++ {
		list := possApart(n)
		checkPoss(t, list, n+2, 3, true)
		for k := range n {
			for _, b := range instrsOf(3) {
				checkPoss(t, changed(list, k, func(p *api.Pos) { p.Instr = b.x }), n+2, 3, b.want)
			}
			for _, b := range qtys {
				checkPoss(t, changed(list, k, func(p *api.Pos) { p.Qty = b.x }), n+2, 3, b.want)
			}
		}
	}
}

// TestOrdersFields is P13.1 for Orders of lists that are valid but for one field of one element.
func TestOrdersFields(t *testing.T) {
	for n := 1; n <= 14; n++ {
		list := ordersApart(n)
		checkOrders(t, list, n+2, 3, true)
		for k := range n {
			for _, b := range instrsOf(3) {
				checkOrders(t, changed(list, k, func(o *api.Order) { o.Instr = b.x }), n+2, 3, b.want)
			}
			for _, b := range qtys {
				checkOrders(t, changed(list, k, func(o *api.Order) { o.Qty = b.x }), n+2, 3, b.want)
			}
			for _, b := range ids {
				checkOrders(t, changed(list, k, func(o *api.Order) { o.Id = b.x }), n+2, 3, b.want)
			}
			for _, b := range prices {
				checkOrders(t, changed(list, k, func(o *api.Order) { o.Price = b.x }), n+2, 3, b.want)
			}
		}
	}
}

// TestAccounts is P13.1 for Poss and Orders of lists whose first or last account is at its bounds: the lists are in order whatever it is.
func TestAccounts(t *testing.T) {
	for n := 1; n <= 14; n++ {
		poss, orders := possApart(n), ordersApart(n)
		for _, b := range []bound{{least, false}, {least + 1, false}, {-2, false}, {-1, false}, {0, false}, {1, false}, {2, true}} {
			checkPoss(t, changed(poss, 0, func(p *api.Pos) { p.Acct = b.x }), n+2, 3, b.want)
			checkOrders(t, changed(orders, 0, func(o *api.Order) { o.Acct = b.x }), n+2, 3, b.want)
		}
		for _, b := range []bound{{n + 1, true}, {n + 2, false}, {n + 3, false}, {1 << 32, false}, {most - 1, false}, {most, false}} {
			checkPoss(t, changed(poss, n-1, func(p *api.Pos) { p.Acct = b.x }), n+2, 3, b.want)
			checkOrders(t, changed(orders, n-1, func(o *api.Order) { o.Acct = b.x }), n+2, 3, b.want)
		}
	}
}

// counts are numbers of accounts and instruments.
var counts = []int{least, least + 1, -1 << 32, -16, -3, -2, -1, 0, 1, 2, 3, 4, 5, 12, 16, 1 << 32, most - 1, most}

// TestCounts is P13.1 for Poss and Orders with whatever numbers of accounts and instruments: lists without an element are valid with all of them.
func TestCounts(t *testing.T) {
	for _, accts := range counts {
		for _, instrs := range counts {
			checkPoss(t, nil, accts, instrs, true)
			checkPoss(t, []api.Pos{}, accts, instrs, true)
			checkOrders(t, nil, accts, instrs, true)
			checkOrders(t, []api.Order{}, accts, instrs, true)
			checkPoss(t, []api.Pos{pos(2, 0, 5)}, accts, instrs, accts >= 3 && instrs >= 1)
			checkOrders(t, []api.Order{order(2, 7, 0, 5, 9)}, accts, instrs, accts >= 3 && instrs >= 1)
			checkPoss(t, []api.Pos{pos(2, 3, 5), pos(4, 0, 5)}, accts, instrs, accts >= 5 && instrs >= 4)
			checkOrders(t, []api.Order{order(2, 7, 3, 5, 9), order(4, 7, 0, 5, 9)}, accts, instrs, accts >= 5 && instrs >= 4)
			checkPoss(t, []api.Pos{pos(most-1, most-1, 5)}, accts, instrs, accts == most && instrs == most)
			checkOrders(t, []api.Order{order(most-1, 7, most-1, 5, 9)}, accts, instrs, accts == most && instrs == most)
			checkPoss(t, []api.Pos{pos(most, most, 5)}, accts, instrs, false)
			checkOrders(t, []api.Order{order(most, 7, most, 5, 9)}, accts, instrs, false)
			for _, acct := range []int{least, -1, 0, 1} {
				checkPoss(t, []api.Pos{pos(acct, 0, 5)}, accts, instrs, false)
				checkOrders(t, []api.Order{order(acct, 7, 0, 5, 9)}, accts, instrs, false)
			}
		}
	}
}

// TestLengths is P13.1 for Poss and Orders of as many elements as there may be, and of more.
func TestLengths(t *testing.T) {
	for n := range 100 {
		checkPoss(t, manyPoss(n), 16, 12, n <= 64)
		checkOrders(t, manyOrders(n), 40, 12, n <= 32)
	}
	checkPoss(t, manyPoss(100000), most, 12, false)
	checkOrders(t, manyOrders(100000), most, 12, false)
}

// doubled is the list with a copy of an element behind another one.
func doubled[T any](list []T, k, behind int) []T {
	return slices.Insert(slices.Clone(list), behind+1, list[k])
}

// exchanged is the list with two of its elements in each other's place.
func exchanged[T any](list []T, j, k int) []T {
	list = slices.Clone(list)
	list[j], list[k] = list[k], list[j]
	return list
}

// TestTwice is P13.1 for Poss and Orders of lists with a pair that is there twice, at whichever places, in elements that are the same or not.
func TestTwice(t *testing.T) {
	poss, orders := manyPoss(30), manyOrders(24)
	for k := range poss {
		for behind := range poss {
			list := doubled(poss, k, behind)
			checkPoss(t, list, 16, 12, false)
			checkPoss(t, changed(list, behind+1, func(p *api.Pos) { p.Qty++ }), 16, 12, false)
			checkPoss(t, changed(list, behind+1, func(p *api.Pos) { p.Qty-- }), 16, 12, false)
		}
	}
	for k := range orders {
		for behind := range orders {
			list := doubled(orders, k, behind)
			checkOrders(t, list, 16, 12, false)
			checkOrders(t, changed(list, behind+1, func(o *api.Order) { o.Qty++ }), 16, 12, false)
			checkOrders(t, changed(list, behind+1, func(o *api.Order) { o.Price++ }), 16, 12, false)
			checkOrders(t, changed(list, behind+1, func(o *api.Order) { o.Instr = 11 - o.Instr }), 16, 12, false)
		}
	}
}

// TestExchanged is P13.1 for Poss and Orders of lists of which two elements are exchanged, neighbours and others, of one account and of two.
func TestExchanged(t *testing.T) {
	poss, orders := manyPoss(30), manyOrders(24)
	for k := range poss {
		for j := range k {
			checkPoss(t, exchanged(poss, j, k), 16, 12, false)
		}
	}
	for k := range orders {
		for j := range k {
			checkOrders(t, exchanged(orders, j, k), 16, 12, false)
		}
	}
	for _, n := range []int{2, 3, 30} {
		slices.Reverse(poss[:n])
		checkPoss(t, poss[:n], 16, 12, false)
	}
	slices.Reverse(orders)
	checkOrders(t, orders, 16, 12, false)
}

// TestOrder is P13.1 for what comes first: the account, then the instrument or the order's number, and nothing else.
func TestOrder(t *testing.T) {
	checkPoss(t, []api.Pos{pos(2, 3, 9), pos(2, 4, -1), pos(3, 0, 5), pos(3, 11, 5), pos(4, 2, 1)}, 5, 12, true)
	checkPoss(t, []api.Pos{pos(2, 3, 9), pos(3, 0, 5), pos(2, 4, -1)}, 5, 12, false)
	checkPoss(t, []api.Pos{pos(3, 0, 9), pos(2, 1, 5)}, 5, 12, false)
	checkPoss(t, []api.Pos{pos(2, 1, 9), pos(2, 0, 5)}, 5, 12, false)
	checkPoss(t, []api.Pos{pos(2, 1, 9), pos(2, 1, 9)}, 5, 12, false)
	checkOrders(t, []api.Order{order(2, 3, 5, 9, 9), order(2, 4, 5, -1, 8), order(2, topId, 1, -1, 8), order(3, 1, 0, 5, 7), order(3, 2, 0, 4, 6)}, 5, 12, true)
	checkOrders(t, []api.Order{order(2, 3, 0, 9, 9), order(3, 1, 1, 5, 8), order(2, 4, 2, -1, 8)}, 5, 12, false)
	checkOrders(t, []api.Order{order(3, 1, 0, 1, 1), order(2, 2, 1, 2, 2)}, 5, 12, false)
	checkOrders(t, []api.Order{order(2, 2, 0, 1, 1), order(2, 1, 1, 2, 2)}, 5, 12, false)
	checkOrders(t, []api.Order{order(2, 2, 0, 1, 1), order(2, 2, 1, 2, 2)}, 5, 12, false)
	checkOrders(t, []api.Order{order(2, 1, 2, 9, 9), order(2, 2, 1, 5, 5), order(2, 3, 1, 5, 5), order(2, 4, 0, 1, 1)}, 5, 12, true)
}

package book

import (
	"math/rand"
	"slices"
	"testing"

	"bulwark/api"
)

// addBoth adds a quantity and then its negation, and fails unless the one leads to a valid list and the other back to the first one.
func addBoth(t *testing.T, list []api.Pos, acct, instr, qty int) ([]api.Pos, api.Errno) {
	t.Helper()
	next, e := Add(list, acct, instr, qty)
	if e != api.OK {
		if len(next) != 0 {
			t.Fatalf("Add(%v, %d, %d, %d): %v, %d", list, acct, instr, qty, next, e)
		}
		return list, e
	}
	if !Poss(next, 16, 12) || !possValid(next, 16, 12) {
		t.Fatalf("Add(%v, %d, %d, %d): %v", list, acct, instr, qty, next)
	}
	if back, e := Add(next, acct, instr, -qty); !slices.Equal(back, list) || e != api.OK {
		t.Fatalf("Add(%v, %d, %d, %d), then of its negation: %v, %d", list, acct, instr, qty, back, e)
	}
	return next, e
}

// checkLine fails unless the orders are valid.
func checkLine(t *testing.T, list []api.Order) {
	t.Helper()
	if !Orders(list, 16, 12) || !ordersValid(list, 16, 12) {
		t.Fatalf("not valid: %v", list)
	}
}

// TestAddBack is P13.2 for Add: to every position that there can be in valid lists of several lengths, with quantities at the bounds.
func TestAddBack(t *testing.T) {
	values := []int{-topQty, -topQty + 1, -7, -1, 0, 1, 7, topQty - 1, topQty}
	for _, n := range []int{0, 1, 2, 12, 13, 40, 62, 63, 64} {
		for _, held := range []int{-topQty, -1, 7, topQty} {
			list := manyPoss(n)
			for k := range list {
				list[k].Qty = held
			}
			if !Poss(list, 16, 12) {
				t.Fatalf("not valid: %v", list)
			}
			for acct := 2; acct < 16; acct++ {
				for instr := range 12 {
					for _, qty := range append(values, -held, topQty-held, -topQty-held) {
						addBoth(t, list, acct, instr, qty)
					}
				}
			}
		}
	}
}

// TestPossWalk is P13.2: from valid positions to valid ones, through many drawn calls, till there are as many as there may be and back.
func TestPossWalk(t *testing.T) {
	r := rand.New(rand.NewSource(131))
	count := map[api.Errno]int{}
	for walk := range 60 {
		list := validPoss(r, 16, 12, r.Intn(60))
		longest := 0
		for step := range 1500 {
			acct, instr, qty := 2+r.Intn(14), r.Intn(12), anyQty(r)
			shrinking := step%500 >= 300
			if len(list) > 0 && (shrinking || r.Intn(4) == 0) {
				p := list[r.Intn(len(list))]
				acct, instr = p.Acct, p.Instr
				if shrinking && r.Intn(2) == 0 {
					qty = -p.Qty
				}
			}
			var e api.Errno
			list, e = addBoth(t, list, acct, instr, qty)
			count[e]++
			longest = max(longest, len(list))
		}
		if longest != 64 {
			t.Errorf("walk %d: never more than %d", walk, longest)
		}
	}
	if count[api.OK] < 10000 || count[api.ErrQty] < 1000 || count[api.ErrRoom] < 1000 {
		t.Errorf("only %v", count)
	}
}

// step is one drawn call on valid orders; it returns the orders after it.
func step(t *testing.T, r *rand.Rand, list []api.Order, count map[string]int) []api.Order {
	t.Helper()
	o := validOrder(r, 16, 12)
	if len(list) > 0 && r.Intn(4) > 0 {
		there := list[r.Intn(len(list))]
		o.Acct, o.Id = there.Acct, there.Id
	}
	at := Find(list, o.Acct, o.Id)
	switch r.Intn(4) {
	case 0:
		return dropping(t, list, at, o, count)
	case 1:
		return cutting(t, list, at, o, anyQty(r), count)
	case 2:
		if at >= 0 {
			o.Qty = list[at].Qty / (1 + r.Intn(2))
		}
		return cutting(t, list, at, o, size(o.Qty), count)
	}
	return putting(t, list, validOrder(r, 16, 12), count)
}

// putting puts one more order, and fails unless Drop takes it out again.
func putting(t *testing.T, list []api.Order, o api.Order, count map[string]int) []api.Order {
	t.Helper()
	if o.Qty == 0 {
		o.Qty = 1
	}
	next, e := Put(list, o)
	if e != api.OK {
		count["not put"]++
		return list
	}
	count["put"]++
	if back, e := Drop(next, o.Acct, o.Id); !slices.Equal(back, list) || e != api.OK {
		t.Fatalf("Put(%v, %v), then Drop: %v, %d", list, o, back, e)
	}
	return next
}

// dropping drops an order, and fails unless Put puts it in again.
func dropping(t *testing.T, list []api.Order, at int, o api.Order, count map[string]int) []api.Order {
	t.Helper()
	next, e := Drop(list, o.Acct, o.Id)
	if (e == api.OK) != (at >= 0) {
		t.Fatalf("Drop(%v, %d, %d): %d", list, o.Acct, o.Id, e)
	}
	if e != api.OK {
		count["not dropped"]++
		return list
	}
	count["dropped"]++
	if back, e := Put(next, list[at]); !slices.Equal(back, list) || e != api.OK {
		t.Fatalf("Drop(%v, %d, %d), then Put: %v, %d", list, o.Acct, o.Id, back, e)
	}
	return next
}

// cutting cuts an order, and fails unless what was taken and what is left are what there was.
func cutting(t *testing.T, list []api.Order, at int, o api.Order, qty int, count map[string]int) []api.Order {
	t.Helper()
	next, left, e := Cut(list, o.Acct, o.Id, qty)
	if e != api.OK {
		count["not cut"]++
		return list
	}
	count["cut"]++
	if left == 0 {
		count["cut off"]++
	}
	if qty < 1 || left < 0 || left+qty != size(list[at].Qty) || (left == 0) != (len(next) == len(list)-1) {
		t.Fatalf("Cut(%v, %d, %d, %d): %v, %d", list, o.Acct, o.Id, qty, next, left)
	}
	return next
}

// TestOrdersWalk is P13.2: from valid orders to valid ones, through many drawn calls.
func TestOrdersWalk(t *testing.T) {
	r := rand.New(rand.NewSource(132))
	count := map[string]int{}
	for range 30 {
		list := validOrders(r, 16, 12, r.Intn(32))
		for range 30 {
			for len(list) < 32 && r.Intn(40) > 0 {
				list = putting(t, list, validOrder(r, 16, 12), count)
				checkLine(t, list)
			}
			for range 60 {
				list = step(t, r, list, count)
				checkLine(t, list)
			}
		}
	}
	for _, what := range []string{"put", "not put", "dropped", "not dropped", "cut", "cut off", "not cut"} {
		if count[what] < 1000 {
			t.Errorf("%s: only %d times", what, count[what])
		}
	}
}

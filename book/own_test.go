package book

import (
	"slices"
	"testing"

	"bulwark/api"
)

// owns fails unless a call leaves alone the whole array in which its argument stands, and answers memory that is neither the argument's nor another answer's.
func owns[T comparable](t *testing.T, what string, list []T, junk T, call func([]T) []T) {
	t.Helper()
	whole := slices.Concat([]T{junk, junk}, list, slices.Repeat([]T{junk}, 70))
	arg, before := whole[2:2+len(list)], slices.Clone(whole)
	first, second, third := call(arg), call(arg), call(arg)
	want := slices.Clone(first)
	kept := func(when string) {
		t.Helper()
		if !slices.Equal(whole, before) {
			t.Fatalf("%s: the argument's array %s is %v, not %v", what, when, whole, before)
		}
		if !slices.Equal(second, want) || !slices.Equal(third, want) {
			t.Fatalf("%s: the answers %s are %v and %v, not %v", what, when, second, third, want)
		}
	}
	kept("behind the call")
	scribble(first, junk)
	kept("after a change of another answer")
	scribble(append(second, junk)[len(second):], junk)
	scribble(second[len(second):], junk)
	kept("after more behind one of them")
	scribble(whole, *new(T))
	before = slices.Clone(whole)
	kept("after a change of the argument")
	scribble(second, junk)
	second = want
	kept("after a change of an answer")
}

// scribble overwrites a list, with its spare capacity.
func scribble[T any](list []T, x T) {
	list = list[:cap(list)]
	for k := range list {
		list[k] = x
	}
}

// junkPos and junkOrder stand in the memory about a list.
var (
	junkPos   = pos(7, 7, 7)
	junkOrder = order(7, 7, 7, 7, 7)
)

// TestPossOwn is P13.3 for Poss and Qty: they leave the positions alone.
func TestPossOwn(t *testing.T) {
	for _, list := range [][]api.Pos{nil, some, some[:1], {some[1], some[0]}, manyPoss(64), manyPoss(65)} {
		owns(t, "Poss", list, junkPos, func(arg []api.Pos) []api.Pos {
			checkPoss(t, arg, 16, 12, possValid(list, 16, 12))
			return nil
		})
		owns(t, "Qty", list, junkPos, func(arg []api.Pos) []api.Pos {
			if Qty(arg, 7, 7) != held(list)[key{7, 7}] || Qty(arg, 4, 3) != held(list)[key{4, 3}] {
				t.Errorf("Qty of %v", arg)
			}
			return nil
		})
	}
}

// TestAddOwn is P13.3 for Add: of a new position, to one that there is, of what takes it away, of nothing, and with errors.
func TestAddOwn(t *testing.T) {
	for _, list := range [][]api.Pos{nil, {}, some, some[:1], manyPoss(12), manyPoss(63), manyPoss(64), manyPoss(65)} {
		keys := []key{{1, 1}, {2, 12}, {4, 2}, {7, 7}, {99, 0}}
		for _, p := range list {
			keys = append(keys, key{p.Acct, p.Instr})
		}
		for _, k := range keys {
			for _, qty := range []int{0, 1, -3, -held(list)[k], topQty, -topQty, topQty + 1} {
				want, wantErr := added(list, k[0], k[1], qty)
				owns(t, "Add", list, junkPos, func(arg []api.Pos) []api.Pos {
					got, e := Add(arg, k[0], k[1], qty)
					if !slices.Equal(got, want) || e != wantErr {
						t.Errorf("Add(%v, %d, %d, %d): %v, %d", arg, k[0], k[1], qty, got, e)
					}
					return got
				})
			}
		}
	}
}

// TestOrdersOwn is P13.3 for Orders, Find and Selling: they leave the orders alone.
func TestOrdersOwn(t *testing.T) {
	for _, list := range [][]api.Order{nil, open, open[:1], {open[1], open[0]}, manyOrders(32), manyOrders(33)} {
		owns(t, "Orders", list, junkOrder, func(arg []api.Order) []api.Order {
			checkOrders(t, arg, 16, 12, ordersValid(list, 16, 12))
			return nil
		})
		owns(t, "Find", list, junkOrder, func(arg []api.Order) []api.Order {
			if Find(arg, 7, 7) != slices.Index(keysOf(opened(list)), key{7, 7}) {
				t.Errorf("Find in %v", arg)
			}
			return nil
		})
		owns(t, "Selling", list, junkOrder, func(arg []api.Order) []api.Order {
			if Selling(arg, 4, 1) != sold(list, 4, 1) || Selling(arg, 7, 7) != sold(list, 7, 7) {
				t.Errorf("Selling of %v", arg)
			}
			return nil
		})
	}
}

// TestPutOwn is P13.3 for Put, Cut and Drop: of each order that there is, of others, in part and whole, and with errors.
func TestPutOwn(t *testing.T) {
	for _, list := range [][]api.Order{nil, {}, open, open[:1], manyOrders(12), manyOrders(31), manyOrders(32), manyOrders(33)} {
		orders := []api.Order{order(1, 1, 1, 1, 1), order(2, 11, 1, 1, 1), order(4, 6, 1, 1, 1), junkOrder, order(99, 1, 1, 1, 1)}
		for _, o := range append(orders, list...) {
			want, wantErr := put(list, o)
			owns(t, "Put", list, junkOrder, func(arg []api.Order) []api.Order {
				got, e := Put(arg, o)
				if !slices.Equal(got, want) || e != wantErr {
					t.Errorf("Put(%v, %v): %v, %d", arg, o, got, e)
				}
				return got
			})
			removing(t, list, o)
		}
	}
}

// removing is P13.3 for Cut and Drop of an order.
func removing(t *testing.T, list []api.Order, o api.Order) {
	t.Helper()
	for _, qty := range []int{0, 1, size(o.Qty) - 1, size(o.Qty), size(o.Qty) + 1} {
		want, wantLeft, wantErr := reduced(list, o.Acct, o.Id, qty)
		owns(t, "Cut", list, junkOrder, func(arg []api.Order) []api.Order {
			got, left, e := Cut(arg, o.Acct, o.Id, qty)
			if !slices.Equal(got, want) || left != wantLeft || e != wantErr {
				t.Errorf("Cut(%v, %d, %d, %d): %v, %d, %d", arg, o.Acct, o.Id, qty, got, left, e)
			}
			return got
		})
	}
	want, wantErr := dropped(list, o.Acct, o.Id)
	owns(t, "Drop", list, junkOrder, func(arg []api.Order) []api.Order {
		got, e := Drop(arg, o.Acct, o.Id)
		if !slices.Equal(got, want) || e != wantErr {
			t.Errorf("Drop(%v, %d, %d): %v, %d", arg, o.Acct, o.Id, got, e)
		}
		return got
	})
}

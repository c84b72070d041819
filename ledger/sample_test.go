package ledger

import (
	"fmt"
	"math"
	"reflect"
	"testing"

	"bulwark/api"
)

const (
	most   = math.MaxInt
	least  = math.MinInt
	top    = 1 << 62 // the greatest amount
	topId  = 1 << 40
	topQty = 1000000000
)

// pos, order and loc are a position, an order and a reservation.
func pos(acct, instr, qty int) api.Pos { return api.Pos{Acct: acct, Instr: instr, Qty: qty} }

func order(acct, id, instr, qty, price int) api.Order {
	return api.Order{Acct: acct, Id: id, Instr: instr, Qty: qty, Price: price}
}

func loc(acct, instr, qty int) api.Loc { return api.Loc{Acct: acct, Instr: instr, Qty: qty} }

// full is a valid ledger in which each list has several elements, of which no two are the same.
func full() api.Ledger {
	return api.Ledger{
		Day:  7,
		Curs: []api.Cur{{Rate: 1000000}, {Rate: 1500000, Hair: 1000}, {Rate: 3, Hair: 10000}},
		Unders: []api.Under{
			{Name: "IBM", Cur: 0, Price: 100, Vol: 2000},
			{Name: "IB", Cur: 1, Price: 5000, Vol: 0},
			{Name: "ABCDEFGH", Cur: 2, Price: 1, Vol: 50000},
			{Name: "A", Cur: 1, Price: 1000000000000, Vol: 300},
		},
		Instrs: []api.Instr{
			{Kind: 1, Under: 0, Mult: 1, Mark: 100},
			{Kind: 2, Under: 1, Mult: 10, Expiry: 30, Mark: 5000},
			{Kind: 3, Under: 0, Mult: 100, Strike: 90, Expiry: 100000, Call: true, Mark: 12},
			{Kind: 3, Under: 3, Mult: 1000000, Strike: 1000000000000, Expiry: 1, Mark: 0},
			{Kind: 1, Under: 2, Mult: 5, Mark: 100000000000000},
		},
		Accts: []api.Acct{
			{Parent: -1, Cash: []int{500, -20, 3}},
			{Parent: -1, Cash: []int{-1, 0, 7}},
			{Parent: -1, Cash: []int{0, 1 << 61, 9}, Flag: true, Last: 9},
			{Parent: 2, Cash: []int{12, 13, 14}, Last: topId},
			{Parent: 3, Cash: []int{-5, -6, -top}},
			{Parent: 4, Cash: []int{1, 2, top}, Flag: true, Last: 41},
			{Parent: 2, Cash: []int{77, -77, 78}, Last: 1},
			{Parent: -1, Cash: []int{-80, 81, 82}, Flag: true},
		},
		Poss:   []api.Pos{pos(2, 0, -5), pos(2, 4, topQty), pos(3, 0, 1), pos(5, 3, -topQty), pos(7, 1, 20)},
		Orders: []api.Order{order(2, 3, 0, 10, 100), order(2, 9, 4, -1, 1), order(3, 1, 1, 5, 100000000000000), order(3, topId, 0, -topQty, 7), order(5, 40, 2, topQty, 4)},
		Avail:  []int{0, 10, topQty, 5, 6},
		Locs:   []api.Loc{loc(2, 0, 4), loc(2, 3, 1), loc(5, 0, topQty), loc(6, 4, 2)},
	}
}

// sizes are the lengths of a ledger's lists.
type sizes struct{ curs, unders, instrs, accts, poss, orders, locs int }

// greatest are the greatest lengths of a valid ledger's lists.
var greatest = sizes{curs: 4, unders: 6, instrs: 12, accts: 16, poss: 64, orders: 32, locs: 32}

// sized is a ledger with lists of these lengths; nothing but a length is invalid where there is whatever the elements need.
func sized(n sizes) api.Ledger {
	l := api.Ledger{Avail: make([]int, n.instrs)}
	for k := range n.curs {
		l.Curs = append(l.Curs, api.Cur{Rate: 1000000 + k, Hair: 10 * k})
	}
	for k := range n.unders {
		l.Unders = append(l.Unders, api.Under{Name: "N" + string(rune('A'+k)), Cur: k % max(1, n.curs), Price: 100 + k, Vol: k})
	}
	for k := range n.instrs {
		i := api.Instr{Kind: 1 + k%3, Under: k % max(1, n.unders), Mult: 1 + k, Mark: k}
		if i.Kind != 1 {
			i.Expiry = 20 + k
		}
		if i.Kind == 3 {
			i.Strike, i.Call = 90+k, k%2 == 0
		}
		l.Instrs = append(l.Instrs, i)
	}
	for v := range n.accts {
		a := api.Acct{Parent: -1, Cash: make([]int, n.curs)}
		for c := range a.Cash {
			a.Cash[c] = 100*v + c
		}
		if v > 1 {
			a.Flag, a.Last = v%2 == 0, 20+v
		}
		if v > 1 && v%4 != 2 {
			a.Parent = v - 1
		}
		l.Accts = append(l.Accts, a)
	}
	for k := range n.poss {
		l.Poss = append(l.Poss, pos(2+k/max(1, n.instrs), k%max(1, n.instrs), k-1000))
	}
	for k := range n.orders {
		l.Orders = append(l.Orders, order(2+k/5, 1+k%5, k%max(1, n.instrs), 10+k, 1+k))
	}
	for k := range n.locs {
		l.Locs = append(l.Locs, loc(2+k/max(1, n.instrs), k%max(1, n.instrs), 5+k))
	}
	return l
}

// funds is a ledger of accounts with that cash, and of nothing else.
func funds(cash ...[]int) api.Ledger {
	var l api.Ledger
	for _, x := range cash {
		l.Accts = append(l.Accts, api.Acct{Parent: -1, Cash: x})
	}
	return l
}

// samples are ledgers of many sorts, valid and not.
func samples() []api.Ledger {
	big, beyond := greatest, sizes{5, 7, 13, 17, 65, 33, 33}
	return []api.Ledger{
		full(), sized(big), sized(beyond), sized(sizes{curs: 1, accts: 2}), sized(sizes{accts: 3}), {}, {Day: -1}, {Day: most},
		{Curs: []api.Cur{{}}, Unders: []api.Under{{}}, Instrs: []api.Instr{{}}, Accts: []api.Acct{{}}, Poss: []api.Pos{{}}, Orders: []api.Order{{}}, Avail: []int{0}, Locs: []api.Loc{{}}},
		{Curs: []api.Cur{}, Unders: []api.Under{}, Instrs: []api.Instr{}, Accts: []api.Acct{}, Poss: []api.Pos{}, Orders: []api.Order{}, Avail: []int{}, Locs: []api.Loc{}},
		{Unders: []api.Under{{Name: "a b"}, {Name: "\xff"}, {Name: "a b"}}, Orders: []api.Order{order(99, -1, 7, 0, 0), order(-4, most, least, 1, -1)}},
		{Avail: []int{most, least, -1}, Locs: []api.Loc{loc(5, 5, 5), loc(5, 5, 5)}, Poss: []api.Pos{pos(-1, most, least)}},
		funds([]int{1, 2, 3}, nil, []int{}, []int{4}, []int{most, least, 1 << 62, -1 << 62, 5}),
		funds(nil), funds([]int{}), funds([]int{5}), funds(nil, nil, nil),
	}
}

// leaves calls visit with each number, text and truth value within v, and where it stands.
func leaves(v reflect.Value, path string, visit func(path string, leaf reflect.Value)) {
	switch v.Kind() {
	case reflect.Struct:
		for k := range v.NumField() {
			leaves(v.Field(k), path+"."+v.Type().Field(k).Name, visit)
		}
	case reflect.Slice:
		for k := range v.Len() {
			leaves(v.Index(k), fmt.Sprintf("%s[%d]", path, k), visit)
		}
	default:
		visit(path, v)
	}
}

// lists calls visit with each list within v, the outer ones first, and where it stands.
func lists(v reflect.Value, path string, visit func(path string, list reflect.Value)) {
	switch v.Kind() {
	case reflect.Struct:
		for k := range v.NumField() {
			lists(v.Field(k), path+"."+v.Type().Field(k).Name, visit)
		}
	case reflect.Slice:
		visit(path, v)
		for k := range v.Len() {
			lists(v.Index(k), fmt.Sprintf("%s[%d]", path, k), visit)
		}
	}
}

// inside is the ledger as a value that can be looked into and changed.
func inside(l *api.Ledger) reflect.Value { return reflect.ValueOf(l).Elem() }

// cloned is v in memory of its own; its lists have no spare capacity.
func cloned(v reflect.Value) reflect.Value {
	c := reflect.New(v.Type()).Elem()
	switch v.Kind() {
	case reflect.Struct:
		for k := range v.NumField() {
			c.Field(k).Set(cloned(v.Field(k)))
		}
	case reflect.Slice:
		c.Set(reflect.MakeSlice(v.Type(), v.Len(), v.Len()))
		for k := range v.Len() {
			c.Index(k).Set(cloned(v.Index(k)))
		}
	default:
		c.Set(v)
	}
	return c
}

// apart is the ledger in memory of its own.
func apart(l api.Ledger) api.Ledger { return cloned(inside(&l)).Interface().(api.Ledger) }

// equal reports whether two values of one type are equal in everything, where nil is an empty list.
func equal(a, b reflect.Value) bool {
	switch a.Kind() {
	case reflect.Struct:
		for k := range a.NumField() {
			if !equal(a.Field(k), b.Field(k)) {
				return false
			}
		}
		return true
	case reflect.Slice:
		for k := range min(a.Len(), b.Len()) {
			if !equal(a.Index(k), b.Index(k)) {
				return false
			}
		}
		return a.Len() == b.Len()
	}
	return a.Interface() == b.Interface()
}

// twin reports whether two ledgers are equal in everything, where nil is an empty list.
func twin(a, b api.Ledger) bool { return equal(inside(&a), inside(&b)) }

// checkGood fails unless that is the answer of Good, and what the model says.
func checkGood(t *testing.T, what string, l api.Ledger, want bool) {
	t.Helper()
	if Good(l) != want {
		t.Errorf("%s: Good(%+v) is not %t", what, l, want)
	}
	if valid(l) != want {
		t.Errorf("%s: the model says not %t of %+v", what, want, l)
	}
}

// checkSame fails unless that is the answer of Same of the two, in either order, and what the model says.
func checkSame(t *testing.T, what string, a, b api.Ledger, want bool) {
	t.Helper()
	if Same(a, b) != want || Same(b, a) != want {
		t.Errorf("%s: Same(%+v, %+v): %t, and the other way about %t, not %t", what, a, b, Same(a, b), Same(b, a), want)
	}
	if twin(a, b) != want {
		t.Errorf("%s: the model says not %t of %+v and %+v", what, want, a, b)
	}
}

// TestFull is that the ledgers that other tests change are valid, and no two elements of a list of full are the same.
func TestFull(t *testing.T) {
	checkGood(t, "full", full(), true)
	checkGood(t, "the greatest", sized(greatest), true)
	checkGood(t, "the least", sized(sizes{curs: 1, accts: 2}), true)
	l := full()
	lists(inside(&l), "", func(path string, list reflect.Value) {
		for k := range list.Len() {
			for j := range k {
				if equal(list.Index(j), list.Index(k)) {
					t.Errorf("%s: %d and %d are the same", path, j, k)
				}
			}
		}
	})
}

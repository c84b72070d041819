package book

import (
	"math/rand"
	"slices"
	"sort"
	"testing"

	"bulwark/api"
)

// key is a pair by which a position or an order is known.
type key [2]int

// keysOf are the keys of a map as the chapter orders them.
func keysOf[T any](m map[key]T) []key {
	var keys []key
	for k := range m {
		keys = append(keys, k)
	}
	sort.Slice(keys, func(i, j int) bool {
		return keys[i][0] < keys[j][0] || keys[i][0] == keys[j][0] && keys[i][1] < keys[j][1]
	})
	return keys
}

// held are the quantities of positions.
func held(list []api.Pos) map[key]int {
	m := map[key]int{}
	for _, p := range list {
		m[key{p.Acct, p.Instr}] = p.Qty
	}
	return m
}

// listed are positions with those quantities.
func listed(m map[key]int) []api.Pos {
	var list []api.Pos
	for _, k := range keysOf(m) {
		list = append(list, pos(k[0], k[1], m[k]))
	}
	return list
}

// opened are orders by their keys.
func opened(list []api.Order) map[key]api.Order {
	m := map[key]api.Order{}
	for _, o := range list {
		m[key{o.Acct, o.Id}] = o
	}
	return m
}

// lined are those orders.
func lined(m map[key]api.Order) []api.Order {
	var list []api.Order
	for _, k := range keysOf(m) {
		list = append(list, m[k])
	}
	return list
}

// size is an absolute value.
func size(x int) int {
	if x < 0 {
		return -x
	}
	return x
}

// possValid says what Poss answers.
func possValid(list []api.Pos, accts, instrs int) bool {
	valid := len(list) <= 64 && slices.Equal(list, listed(held(list)))
	for _, p := range list {
		valid = valid && p.Acct > 1 && p.Acct < accts && p.Instr >= 0 && p.Instr < instrs
		valid = valid && p.Qty != 0 && p.Qty >= -topQty && p.Qty <= topQty
	}
	return valid
}

// ordersValid says what Orders answers.
func ordersValid(list []api.Order, accts, instrs int) bool {
	valid := len(list) <= 32 && slices.Equal(list, lined(opened(list)))
	for _, o := range list {
		valid = valid && o.Acct > 1 && o.Acct < accts && o.Id > 0 && o.Id <= topId && o.Instr >= 0 && o.Instr < instrs
		valid = valid && o.Qty != 0 && o.Qty >= -topQty && o.Qty <= topQty && o.Price > 0 && o.Price <= topPrice
	}
	return valid
}

// added says what Add answers.
func added(list []api.Pos, acct, instr, qty int) ([]api.Pos, api.Errno) {
	if qty < -topQty || qty > topQty {
		return nil, api.ErrQty
	}
	if qty == 0 {
		return list, api.OK
	}
	m := held(list)
	old, found := m[key{acct, instr}]
	if !found && len(list) >= 64 {
		return nil, api.ErrRoom
	}
	if size(old+qty) > topQty {
		return nil, api.ErrQty
	}
	m[key{acct, instr}] = old + qty
	if old+qty == 0 {
		delete(m, key{acct, instr})
	}
	return listed(m), api.OK
}

// put says what Put answers.
func put(list []api.Order, o api.Order) ([]api.Order, api.Errno) {
	m := opened(list)
	if _, found := m[key{o.Acct, o.Id}]; found {
		return nil, api.ErrTwice
	}
	if len(list) >= 32 {
		return nil, api.ErrRoom
	}
	m[key{o.Acct, o.Id}] = o
	return lined(m), api.OK
}

// reduced says what Cut answers.
func reduced(list []api.Order, acct, id, qty int) ([]api.Order, int, api.Errno) {
	m := opened(list)
	o, found := m[key{acct, id}]
	if !found {
		return nil, 0, api.ErrOrder
	}
	if qty < 1 || qty > size(o.Qty) {
		return nil, 0, api.ErrQty
	}
	left := size(o.Qty) - qty
	o.Qty = o.Qty / size(o.Qty) * left
	m[key{acct, id}] = o
	if left == 0 {
		delete(m, key{acct, id})
	}
	return lined(m), left, api.OK
}

// dropped says what Drop answers.
func dropped(list []api.Order, acct, id int) ([]api.Order, api.Errno) {
	m := opened(list)
	if _, found := m[key{acct, id}]; !found {
		return nil, api.ErrOrder
	}
	delete(m, key{acct, id})
	return lined(m), api.OK
}

// sold says what Selling answers.
func sold(list []api.Order, acct, instr int) int {
	total := 0
	for _, o := range list {
		if o.Acct == acct && o.Instr == instr {
			total += size(min(o.Qty, 0))
		}
	}
	return total
}

// possLike fails where a call on positions answers something else than the model.
func possLike(t *testing.T, list []api.Pos, acct, instr, qty int) api.Errno {
	t.Helper()
	if got, want := Qty(list, acct, instr), held(list)[key{acct, instr}]; got != want {
		t.Fatalf("Qty(%v, %d, %d): %d, not %d", list, acct, instr, got, want)
	}
	got, e := Add(list, acct, instr, qty)
	want, wantErr := added(list, acct, instr, qty)
	if !slices.Equal(got, want) || e != wantErr {
		t.Fatalf("Add(%v, %d, %d, %d): %v, %d, not %v, %d", list, acct, instr, qty, got, e, want, wantErr)
	}
	return e
}

// ordersLike fails where a call on orders answers something else than the model.
func ordersLike(t *testing.T, list []api.Order, o api.Order) [3]api.Errno {
	t.Helper()
	want := slices.Index(keysOf(opened(list)), key{o.Acct, o.Id})
	if got := Find(list, o.Acct, o.Id); got != want {
		t.Fatalf("Find(%v, %d, %d): %d, not %d", list, o.Acct, o.Id, got, want)
	}
	if got, want := Selling(list, o.Acct, o.Instr), sold(list, o.Acct, o.Instr); got != want {
		t.Fatalf("Selling(%v, %d, %d): %d, not %d", list, o.Acct, o.Instr, got, want)
	}
	orders, putErr := Put(list, o)
	if want, e := put(list, o); !slices.Equal(orders, want) || putErr != e {
		t.Fatalf("Put(%v, %v): %v, %d, not %v, %d", list, o, orders, putErr, want, e)
	}
	orders, left, cutErr := Cut(list, o.Acct, o.Id, o.Qty)
	if want, wantLeft, e := reduced(list, o.Acct, o.Id, o.Qty); !slices.Equal(orders, want) || left != wantLeft || cutErr != e {
		t.Fatalf("Cut(%v, %d, %d, %d): %v, %d, %d, not %v, %d, %d", list, o.Acct, o.Id, o.Qty, orders, left, cutErr, want, wantLeft, e)
	}
	orders, dropErr := Drop(list, o.Acct, o.Id)
	if want, e := dropped(list, o.Acct, o.Id); !slices.Equal(orders, want) || dropErr != e {
		t.Fatalf("Drop(%v, %d, %d): %v, %d, not %v, %d", list, o.Acct, o.Id, orders, dropErr, want, e)
	}
	return [3]api.Errno{putErr, cutErr, dropErr}
}

// anyQty is a number about 0, about the bounds of a quantity, within them or beyond them.
func anyQty(r *rand.Rand) int {
	switch r.Intn(6) {
	case 0:
		return r.Intn(9) - 4
	case 1:
		return topQty - 2 + r.Intn(5)
	case 2:
		return -topQty + 2 - r.Intn(5)
	case 3:
		return int(r.Uint64()) >> r.Intn(64)
	}
	return quantityOf(r)
}

// quantityOf is a quantity of any order of magnitude.
func quantityOf(r *rand.Rand) int { return (r.Intn(2*topQty+1) - topQty) >> r.Intn(31) }

// anyNumber is the number of an account, an instrument or an order: nearly always a small one.
func anyNumber(r *rand.Rand) int {
	if r.Intn(20) == 0 {
		return []int{least, least + 1, -1 << 32, -5, 1 << 32, topId, most - 1, most}[r.Intn(8)]
	}
	return r.Intn(14) - 2
}

// anyPoss are about n positions in order, with quantities from -MaxQty to MaxQty.
func anyPoss(r *rand.Rand, n int) []api.Pos {
	m := map[key]int{}
	for range n {
		m[key{anyNumber(r), anyNumber(r)}] = quantityOf(r)
	}
	return listed(m)
}

// anyOrders are about n orders in order, with quantities from -MaxQty to MaxQty.
func anyOrders(r *rand.Rand, n int) []api.Order {
	m := map[key]api.Order{}
	for range n {
		o := order(anyNumber(r), anyNumber(r), anyNumber(r)/3, quantityOf(r), anyQty(r))
		m[key{o.Acct, o.Id}] = o
	}
	return lined(m)
}

// TestPossDrawn is P13.1 for Qty and Add of drawn positions, of which there may be many more than MaxPoss.
func TestPossDrawn(t *testing.T) {
	r := rand.New(rand.NewSource(13))
	count := map[api.Errno]int{}
	for range 4000 {
		list := anyPoss(r, r.Intn([]int{3, 10, 90, 150}[r.Intn(4)]+1))
		for range 4 {
			count[possLike(t, list, anyNumber(r), anyNumber(r), anyQty(r))]++
			if len(list) == 0 {
				continue
			}
			p := list[r.Intn(len(list))]
			for _, qty := range []int{anyQty(r), -p.Qty, topQty - p.Qty, topQty + 1 - p.Qty, -topQty - p.Qty, -topQty - 1 - p.Qty} {
				count[possLike(t, list, p.Acct, p.Instr, qty)]++
			}
		}
	}
	for _, e := range []api.Errno{api.OK, api.ErrQty, api.ErrRoom} {
		if count[e] < 1000 {
			t.Errorf("only %d answers %d", count[e], e)
		}
	}
}

// TestOrdersDrawn is P13.1 for Find, Put, Cut, Drop and Selling of drawn orders, of which there may be many more than MaxOrders.
func TestOrdersDrawn(t *testing.T) {
	r := rand.New(rand.NewSource(14))
	count := [3]map[api.Errno]int{{}, {}, {}}
	tally := func(all [3]api.Errno) {
		for n, e := range all {
			count[n][e]++
		}
	}
	for range 3000 {
		list := anyOrders(r, r.Intn([]int{3, 10, 45, 60}[r.Intn(4)]+1))
		for range 4 {
			tally(ordersLike(t, list, order(anyNumber(r), anyNumber(r), anyNumber(r)/3, anyQty(r), anyQty(r))))
			if len(list) == 0 {
				continue
			}
			o := list[r.Intn(len(list))]
			for _, qty := range []int{anyQty(r), o.Qty, -o.Qty, size(o.Qty) + 1, size(o.Qty) - 1, size(o.Qty) / 2} {
				tally(ordersLike(t, list, order(o.Acct, o.Id, anyNumber(r)/3, qty, anyQty(r))))
			}
		}
	}
	for n, errs := range [3][]api.Errno{{api.OK, api.ErrTwice, api.ErrRoom}, {api.OK, api.ErrOrder, api.ErrQty}, {api.OK, api.ErrOrder}} {
		for _, e := range errs {
			if count[n][e] < 1000 {
				t.Errorf("only %d answers %d, of call %d", count[n][e], e, n)
			}
		}
	}
}

// TestValidDrawn is P13.1 for Poss and Orders of drawn lists: valid ones, and such with one or two faults, in order or not.
func TestValidDrawn(t *testing.T) {
	r := rand.New(rand.NewSource(15))
	count := map[bool]int{}
	for range 30000 {
		accts, instrs := 2+r.Intn(15), r.Intn(13)
		if r.Intn(20) == 0 {
			accts, instrs = counts[r.Intn(len(counts))], counts[r.Intn(len(counts))]
		}
		poss, orders := validPoss(r, accts, instrs, r.Intn(80)), validOrders(r, accts, instrs, r.Intn(40))
		for range r.Intn(3) {
			spoil(r, poss, orders)
		}
		want := possValid(poss, accts, instrs)
		checkPoss(t, poss, accts, instrs, want)
		count[want]++
		want = ordersValid(orders, accts, instrs)
		checkOrders(t, orders, accts, instrs, want)
		count[want]++
	}
	if count[true] < 10000 || count[false] < 10000 {
		t.Errorf("only %d valid lists, and %d others", count[true], count[false])
	}
}

// validPoss are at most n valid positions.
func validPoss(r *rand.Rand, accts, instrs, n int) []api.Pos {
	m := map[key]int{}
	for accts > 2 && instrs > 0 && n > 0 {
		n--
		if qty := quantityOf(r); qty != 0 {
			m[key{2 + r.Intn(accts-2), r.Intn(instrs)}] = qty
		}
	}
	return listed(m)
}

// validOrders are at most n valid orders.
func validOrders(r *rand.Rand, accts, instrs, n int) []api.Order {
	m := map[key]api.Order{}
	for accts > 2 && instrs > 0 && n > 0 {
		n--
		if o := validOrder(r, accts, instrs); o.Qty != 0 {
			m[key{o.Acct, o.Id}] = o
		}
	}
	return lined(m)
}

// validOrder is a valid order, or one of 0.
func validOrder(r *rand.Rand, accts, instrs int) api.Order {
	return order(2+r.Intn(accts-2), 1+r.Intn(topId)>>r.Intn(40), r.Intn(instrs), quantityOf(r), 1+r.Intn(topPrice)>>r.Intn(46))
}

// spoil changes one element of each list, or exchanges two.
func spoil(r *rand.Rand, poss []api.Pos, orders []api.Order) {
	if len(poss) == 0 || len(orders) == 0 {
		return
	}
	p, o := &poss[r.Intn(len(poss))], &orders[r.Intn(len(orders))]
	q, u := &poss[r.Intn(len(poss))], &orders[r.Intn(len(orders))]
	switch r.Intn(7) {
	case 0:
		p.Acct, o.Acct = anyNumber(r), anyNumber(r)
	case 1:
		p.Instr, o.Instr = anyNumber(r), anyNumber(r)
	case 2:
		p.Qty, o.Qty = anyQty(r), anyQty(r)
	case 3:
		p.Acct, o.Id = q.Acct, anyNumber(r)
	case 4:
		p.Instr, o.Price = q.Instr, anyQty(r)
	case 5:
		*p, *q = *q, *p
		*o, *u = *u, *o
	default:
		o.Acct, o.Id = u.Acct, u.Id
		p.Acct, p.Instr = q.Acct, q.Instr
	}
}

// TestNeverPanics is rule 1 of the document: on lists that are in no order, with any numbers, every call ends, and answers the same again.
func TestNeverPanics(t *testing.T) {
	r := rand.New(rand.NewSource(16))
	for range 10000 {
		var poss []api.Pos
		var orders []api.Order
		for range r.Intn(90) {
			poss = append(poss, pos(anyNumber(r), anyNumber(r), anyQty(r)))
			orders = append(orders, order(anyNumber(r), anyNumber(r), anyNumber(r), anyQty(r), anyQty(r)))
		}
		if r.Intn(3) == 0 {
			poss, orders = listed(held(poss)), lined(opened(orders))
		}
		a, b, x := anyNumber(r), anyNumber(r), anyQty(r)
		if len(poss) > 0 && r.Intn(2) == 0 {
			a, b = poss[0].Acct, poss[0].Instr
		}
		if len(orders) > 0 && r.Intn(2) == 0 {
			a, b = orders[0].Acct, orders[0].Id
		}
		checkPoss(t, poss, a, b, possValid(poss, a, b))
		checkOrders(t, orders, a, b, ordersValid(orders, a, b))
		for range 2 {
			checkAgain(t, poss, orders, a, b, x)
		}
	}
}

// checkAgain fails where a call answers something else than just before, or something beside an error.
func checkAgain(t *testing.T, poss []api.Pos, orders []api.Order, a, b, x int) {
	t.Helper()
	if Qty(poss, a, b) != Qty(poss, a, b) || Find(orders, a, b) != Find(orders, a, b) || Selling(orders, a, b) != Selling(orders, a, b) {
		t.Fatalf("Qty, Find or Selling of %d, %d in %v and %v", a, b, poss, orders)
	}
	p, e := Add(poss, a, b, x)
	q, again := Add(poss, a, b, x)
	if !slices.Equal(p, q) || e != again || e != api.OK && len(p) != 0 {
		t.Fatalf("Add(%v, %d, %d, %d): %v, %d", poss, a, b, x, p, e)
	}
	o, e := Put(orders, order(a, b, 0, x, 1))
	u, again := Put(orders, order(a, b, 0, x, 1))
	if !slices.Equal(o, u) || e != again || e != api.OK && len(o) != 0 {
		t.Fatalf("Put(%v) of %d, %d: %v, %d", orders, a, b, o, e)
	}
	o, n, e := Cut(orders, a, b, x)
	u, m, again := Cut(orders, a, b, x)
	if !slices.Equal(o, u) || n != m || e != again || e != api.OK && (len(o) != 0 || n != 0) {
		t.Fatalf("Cut(%v, %d, %d, %d): %v, %d, %d", orders, a, b, x, o, n, e)
	}
	o, e = Drop(orders, a, b)
	u, again = Drop(orders, a, b)
	if !slices.Equal(o, u) || e != again || e != api.OK && len(o) != 0 {
		t.Fatalf("Drop(%v, %d, %d): %v, %d", orders, a, b, o, e)
	}
}

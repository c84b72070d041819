package ledger

import (
	"fmt"
	"math/rand"
	"reflect"
	"slices"
	"testing"

	"bulwark/api"
)

// between is a number from low to high, of any order of magnitude, with the bounds more often than the others.
func between(r *rand.Rand, low, high int) int {
	span := high - low
	switch r.Intn(8) {
	case 0:
		return low
	case 1:
		return high
	case 2:
		return high - r.Intn(min(span, 4)+1)
	}
	return low + r.Intn(span+1)>>r.Intn(40)
}

// anyAmount is an amount of any order of magnitude, with 0 and the bounds more often than the others.
func anyAmount(r *rand.Rand) int {
	x := between(r, 0, top)
	if r.Intn(2) == 0 {
		return -x
	}
	return x
}

// anyQty is a quantity but 0.
func anyQty(r *rand.Rand) int {
	if r.Intn(2) == 0 {
		return -between(r, 1, topQty)
	}
	return between(r, 1, topQty)
}

// anyInt is a number, often one that is an edge of something.
func anyInt(r *rand.Rand) int {
	if r.Intn(2) == 0 {
		return r.Intn(20) - 3
	}
	list := []int{1000, 10000, 50000, 100000, 1000000, topQty, 1000000000000, 100000000000000, topId, top, -top, -topQty, most, least, 0, 1, 2}
	return list[r.Intn(len(list))] + r.Intn(3) - 1
}

// anyName is a name of few letters, so that many begin alike.
func anyName(r *rand.Rand) string {
	name := make([]byte, 1+r.Intn(8))
	for k := range name {
		name[k] = "AAABZ"[r.Intn(5)]
	}
	return string(name)
}

// anyPairs are at most n pairs in order, of accounts that may trade and numbers below or at the top of each account.
func anyPairs(r *rand.Rand, n int, accts int, low int, high func(acct int) int) [][2]int {
	found := map[[2]int]int{}
	for range n {
		if accts > 2 {
			acct := 2 + r.Intn(accts-2)
			if high(acct) >= low {
				found[[2]int{acct, between(r, low, high(acct))}]++
			}
		}
	}
	var list [][2]int
	for p := range found {
		list = append(list, p)
	}
	slices.SortFunc(list, func(a, b [2]int) int { return slices.Compare(a[:], b[:]) })
	return list
}

// anyValid is a valid ledger.
func anyValid(r *rand.Rand) api.Ledger {
	l := api.Ledger{Day: between(r, 0, 100000), Curs: []api.Cur{{Rate: 1000000, Hair: between(r, 0, 10000)}}}
	for range r.Intn(4) {
		l.Curs = append(l.Curs, api.Cur{Rate: between(r, 1, 1000000000000), Hair: between(r, 0, 10000)})
	}
	for range r.Intn(7) {
		u := api.Under{Name: anyName(r), Cur: r.Intn(len(l.Curs)), Price: between(r, 1, 1000000000000), Vol: between(r, 0, 50000)}
		if named(l.Unders, u.Name) < 0 {
			l.Unders = append(l.Unders, u)
		}
	}
	if len(l.Unders) > 0 {
		for range r.Intn(13) {
			l.Instrs = append(l.Instrs, anyInstr(r, len(l.Unders)))
			l.Avail = append(l.Avail, between(r, 0, topQty))
		}
	}
	anyAccts(r, &l)
	anyBooks(r, &l)
	return l
}

// anyInstr is a valid instrument.
func anyInstr(r *rand.Rand, unders int) api.Instr {
	i := api.Instr{Kind: 1 + r.Intn(3), Under: r.Intn(unders), Mult: between(r, 1, 1000000), Mark: between(r, 0, 100000000000000)}
	if i.Kind != 1 {
		i.Expiry = between(r, 1, 100000)
	}
	if i.Kind == 3 {
		i.Strike, i.Call = between(r, 1, 1000000000000), r.Intn(2) == 0
	}
	return i
}

// anyAccts gives the ledger valid accounts.
func anyAccts(r *rand.Rand, l *api.Ledger) {
	var depths []int
	for v := range between(r, 2, 16) {
		a := api.Acct{Parent: -1}
		depth := 1
		if v > 2 && r.Intn(3) > 0 {
			if p := 2 + r.Intn(v-2); depths[p] < 4 {
				a.Parent, depth = p, depths[p]+1
			}
		}
		depths = append(depths, depth)
		if v > 1 {
			a.Flag, a.Last = r.Intn(2) == 0, between(r, 0, topId)
		}
		for range l.Curs {
			a.Cash = append(a.Cash, anyAmount(r))
		}
		l.Accts = append(l.Accts, a)
	}
}

// anyBooks gives the ledger valid positions, orders and reservations.
func anyBooks(r *rand.Rand, l *api.Ledger) {
	instr := func(int) int { return len(l.Instrs) - 1 }
	for _, p := range anyPairs(r, r.Intn(65), len(l.Accts), 0, instr) {
		l.Poss = append(l.Poss, pos(p[0], p[1], anyQty(r)))
	}
	for _, p := range anyPairs(r, r.Intn(33), len(l.Accts), 0, instr) {
		l.Locs = append(l.Locs, loc(p[0], p[1], between(r, 1, topQty)))
	}
	if len(l.Instrs) > 0 {
		for _, p := range anyPairs(r, r.Intn(33), len(l.Accts), 1, func(acct int) int { return l.Accts[acct].Last }) {
			l.Orders = append(l.Orders, order(p[0], p[1], r.Intn(len(l.Instrs)), anyQty(r), between(r, 1, 100000000000000)))
		}
	}
}

// spoil changes one thing of the ledger, which has memory of its own.
func spoil(r *rand.Rand, l *api.Ledger) {
	field := inside(l).Field(r.Intn(9))
	var inner []reflect.Value
	lists(field, "", func(_ string, list reflect.Value) { inner = append(inner, list) })
	if r.Intn(3) == 0 && len(inner) > 0 {
		spoilList(r, inner[r.Intn(len(inner))])
		return
	}
	var fields []reflect.Value
	leaves(field, "", func(_ string, leaf reflect.Value) { fields = append(fields, leaf) })
	if len(fields) == 0 {
		return
	}
	leaf, other := fields[r.Intn(len(fields))], fields[r.Intn(len(fields))]
	if leaf.Kind() == other.Kind() && r.Intn(4) == 0 {
		leaf.Set(other)
		return
	}
	switch leaf.Kind() {
	case reflect.Bool:
		leaf.SetBool(!leaf.Bool())
	case reflect.String:
		leaf.SetString([]string{anyName(r), anyName(r) + anyName(r), "", "a", "A B", "A"}[r.Intn(6)])
	case reflect.Int:
		if x := int(leaf.Int()); r.Intn(3) == 0 && x < most && x > least {
			leaf.SetInt(int64(x + 2*r.Intn(2) - 1))
		} else {
			leaf.SetInt(int64(anyInt(r)))
		}
	}
}

// spoilList leaves out an element of a list, doubles one, exchanges two, or adds one of zeros.
func spoilList(r *rand.Rand, list reflect.Value) {
	n := list.Len()
	if n == 0 || r.Intn(4) == 0 {
		list.Set(reflect.Append(list, reflect.Zero(list.Type().Elem())))
		return
	}
	k, j := r.Intn(n), r.Intn(n)
	switch r.Intn(4) {
	case 0:
		list.Set(reflect.AppendSlice(cloned(list.Slice(0, k)), list.Slice(k+1, n)))
	case 1:
		list.Set(reflect.AppendSlice(cloned(list.Slice(0, k+1)), cloned(list.Slice(k, n))))
	case 2:
		reflect.Swapper(list.Interface())(j, k)
	case 3:
		list.Set(reflect.Zero(list.Type()))
	}
}

// anyLedger is a valid ledger, or one with a few things changed.
func anyLedger(r *rand.Rand) api.Ledger {
	l := anyValid(r)
	for range r.Intn(3) {
		spoil(r, &l)
	}
	return l
}

// TestGoodDrawn is P15.1 for Good of drawn ledgers, valid and not.
func TestGoodDrawn(t *testing.T) {
	r := rand.New(rand.NewSource(151))
	count := map[bool]int{}
	for range 30000 {
		l := anyValid(r)
		checkGood(t, "drawn", l, true)
		for range 3 {
			spoil(r, &l)
			want := valid(l)
			checkGood(t, "spoilt", l, want)
			count[want]++
		}
	}
	if count[true] < 10000 || count[false] < 30000 {
		t.Errorf("only %v", count)
	}
}

// TestDrawn is P15.1 for the other calls with drawn ledgers, valid and not.
func TestDrawn(t *testing.T) {
	r := rand.New(rand.NewSource(152))
	totals, pays, sames := map[api.Errno]int{}, map[api.Errno]int{}, map[bool]int{}
	for range 10000 {
		l := anyLedger(r)
		for range 3 {
			name := anyName(r)
			if len(l.Unders) > 0 && r.Intn(2) == 0 {
				name = l.Unders[r.Intn(len(l.Unders))].Name
			}
			if Named(l.Unders, name) != named(l.Unders, name) {
				t.Errorf("Named(%+v, %q): %d", l.Unders, name, Named(l.Unders, name))
			}
			_, e := checkTotal(t, l, anyNumber(r, len(l.Curs)))
			totals[e]++
			_, e = checkPay(t, l, anyNumber(r, len(l.Curs)), anyPayment(r), anyNumber(r, len(l.Accts)), anyNumber(r, len(l.Accts)))
			pays[e]++
		}
		m := Copy(l)
		checkSame(t, "a copy", l, m, true)
		spoil(r, &m)
		checkSame(t, "a spoilt copy", l, m, twin(l, m))
		sames[twin(l, m)]++
	}
	for _, e := range []api.Errno{api.OK, api.ErrCur, api.ErrOver} {
		if totals[e] < 1000 || pays[e] < 1000 {
			t.Errorf("error %d: only %d of Total, %d of Pay", e, totals[e], pays[e])
		}
	}
	if pays[api.ErrAcct] < 1000 || sames[true] < 500 || sames[false] < 5000 {
		t.Errorf("only %v, %v", pays, sames)
	}
}

// anyNumber is the number of one of n things, and sometimes of none.
func anyNumber(r *rand.Rand, n int) int {
	if r.Intn(10) == 0 || n == 0 {
		return []int{least, -1, n, n + 1, 1 << 32, most}[r.Intn(6)]
	}
	return r.Intn(n)
}

// anyPayment is what is paid: nearly always an amount.
func anyPayment(r *rand.Rand) int {
	if r.Intn(20) == 0 {
		return anyInt(r)
	}
	return anyAmount(r)
}

// TestOwnDrawn is P15.4 for drawn ledgers.
func TestOwnDrawn(t *testing.T) {
	r := rand.New(rand.NewSource(153))
	for n := range 600 {
		l := anyLedger(r)
		owns(t, fmt.Sprintf("Copy of drawn ledger %d", n), l, Copy)
		cur, amount, from, to := anyNumber(r, len(l.Curs)), anyPayment(r), anyNumber(r, len(l.Accts)), anyNumber(r, len(l.Accts))
		owns(t, fmt.Sprintf("Pay in drawn ledger %d", n), l, func(l api.Ledger) api.Ledger {
			got, _ := checkPay(t, l, cur, amount, from, to)
			return got
		})
	}
}

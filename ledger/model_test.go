package ledger

import (
	"math/big"
	"regexp"

	"bulwark/api"
)

// letters is what a name is.
var letters = regexp.MustCompile(`^[A-Z]{1,8}$`)

// from reports whether x is from low to high.
func from(low, x, high int) bool { return x >= low && x <= high }

// valid says what Good answers: sentence by sentence.
func valid(l api.Ledger) bool {
	return from(0, l.Day, 100000) && validCurs(l) && validUnders(l) && validInstrs(l) && validAccts(l) && validPoss(l) && validOrders(l) && validLocs(l)
}

// validCurs is: 1 to 4 currencies, each valid with its number.
func validCurs(l api.Ledger) bool {
	good := from(1, len(l.Curs), 4)
	for n, c := range l.Curs {
		good = good && from(1, c.Rate, 1000000000000) && from(0, c.Hair, 10000) && (n > 0 || c.Rate == 1000000)
	}
	return good
}

// validUnders is: at most 6 underlyings, each valid, with distinct names.
func validUnders(l api.Ledger) bool {
	good := len(l.Unders) <= 6
	names := map[string]bool{}
	for _, u := range l.Unders {
		good = good && letters.MatchString(u.Name) && !names[u.Name] && from(0, u.Cur, len(l.Curs)-1) && from(1, u.Price, 1000000000000) && from(0, u.Vol, 50000)
		names[u.Name] = true
	}
	return good
}

// validInstrs is: at most 12 instruments, each valid.
func validInstrs(l api.Ledger) bool {
	good := len(l.Instrs) <= 12
	for _, i := range l.Instrs {
		good = good && from(0, i.Under, len(l.Unders)-1) && from(1, i.Mult, 1000000) && from(0, i.Mark, 100000000000000)
		expires := from(1, i.Expiry, 100000)
		switch i.Kind {
		case 1:
			good = good && i.Strike == 0 && i.Expiry == 0 && !i.Call
		case 2:
			good = good && i.Strike == 0 && expires && !i.Call
		case 3:
			good = good && from(1, i.Strike, 1000000000000) && expires
		default:
			good = false
		}
	}
	return good
}

// validAccts is: the parents are valid, and so are cash, flag and last number of each account.
func validAccts(l api.Ledger) bool {
	if !from(2, len(l.Accts), 16) {
		return false
	}
	for v, a := range l.Accts {
		if a.Parent != -1 && (v < 2 || a.Parent < 2 || a.Parent >= v) {
			return false
		}
		path := 1
		for u := a.Parent; u != -1; u = l.Accts[u].Parent {
			path++
		}
		if path > 4 || len(a.Cash) != len(l.Curs) || !from(0, a.Last, 1<<40) || v < 2 && (a.Flag || a.Last != 0) {
			return false
		}
		for _, x := range a.Cash {
			if !from(-1<<62, x, 1<<62) {
				return false
			}
		}
	}
	return true
}

// owner reports whether there is such an account, and it may trade, and such an instrument.
func owner(l api.Ledger, acct, instr int) bool {
	return from(2, acct, len(l.Accts)-1) && from(0, instr, len(l.Instrs)-1)
}

// ahead reports whether the pair a, b stands ahead of the pair c, d.
func ahead(a, b, c, d int) bool { return a < c || a == c && b < d }

// validPoss is: at most 64 positions, ordered, each valid.
func validPoss(l api.Ledger) bool {
	good := len(l.Poss) <= 64
	for k, p := range l.Poss {
		good = good && owner(l, p.Acct, p.Instr) && from(-topQty, p.Qty, topQty) && p.Qty != 0
		good = good && (k == 0 || ahead(l.Poss[k-1].Acct, l.Poss[k-1].Instr, p.Acct, p.Instr))
	}
	return good
}

// validOrders is: at most 32 orders, ordered, each valid, and none with a number above its account's last one.
func validOrders(l api.Ledger) bool {
	good := len(l.Orders) <= 32
	for k, o := range l.Orders {
		good = good && owner(l, o.Acct, o.Instr) && from(1, o.Id, 1<<40) && o.Id <= l.Accts[o.Acct].Last
		good = good && from(-topQty, o.Qty, topQty) && o.Qty != 0 && from(1, o.Price, 100000000000000)
		good = good && (k == 0 || ahead(l.Orders[k-1].Acct, l.Orders[k-1].Id, o.Acct, o.Id))
	}
	return good
}

// validLocs is: a number for each instrument, and at most 32 reservations, ordered, each valid.
func validLocs(l api.Ledger) bool {
	good := len(l.Avail) == len(l.Instrs) && len(l.Locs) <= 32
	for _, x := range l.Avail {
		good = good && from(0, x, topQty)
	}
	for k, o := range l.Locs {
		good = good && owner(l, o.Acct, o.Instr) && from(1, o.Qty, topQty)
		good = good && (k == 0 || ahead(l.Locs[k-1].Acct, l.Locs[k-1].Instr, o.Acct, o.Instr))
	}
	return good
}

// whole is an unlimited integer.
func whole(x int) *big.Int { return big.NewInt(int64(x)) }

// isAmount reports whether x is an amount.
func isAmount(x *big.Int) bool { return x.CmpAbs(new(big.Int).Lsh(whole(1), 62)) <= 0 }

// exact is the sum of amounts; ErrOver if one of them or the sum is none.
func exact(a, b *big.Int) (int, api.Errno) {
	sum := new(big.Int).Add(a, b)
	if !isAmount(a) || !isAmount(b) || !isAmount(sum) {
		return 0, api.ErrOver
	}
	return int(sum.Int64()), api.OK
}

// named says what Named answers: from behind, so that the first one is left.
func named(unders []api.Under, name string) int {
	at := -1
	for k := len(unders); k > 0; k-- {
		if unders[k-1].Name == name {
			at = k - 1
		}
	}
	return at
}

// totalled says what Total answers.
func totalled(l api.Ledger, cur int) (int, api.Errno) {
	sum, e := 0, api.OK
	for _, a := range l.Accts {
		if cur < 0 || cur >= len(a.Cash) {
			return 0, api.ErrCur
		}
		if sum, e = exact(whole(sum), whole(a.Cash[cur])); e != api.OK {
			return 0, e
		}
	}
	return sum, api.OK
}

// lacks says why an account can't give or take a currency.
func lacks(l api.Ledger, cur, v int) api.Errno {
	if v < 0 || v >= len(l.Accts) {
		return api.ErrAcct
	}
	if cur < 0 || cur >= len(l.Accts[v].Cash) {
		return api.ErrCur
	}
	return api.OK
}

// paid says what Pay answers.
func paid(l api.Ledger, cur, amount, from, to int) (api.Ledger, api.Errno) {
	if e := lacks(l, cur, from); e != api.OK {
		return api.Ledger{}, e
	}
	if e := lacks(l, cur, to); e != api.OK {
		return api.Ledger{}, e
	}
	l = apart(l)
	less, e := exact(whole(l.Accts[from].Cash[cur]), new(big.Int).Neg(whole(amount)))
	if e != api.OK {
		return api.Ledger{}, e
	}
	l.Accts[from].Cash[cur] = less
	more, e := exact(whole(l.Accts[to].Cash[cur]), whole(amount))
	if e != api.OK {
		return api.Ledger{}, e
	}
	l.Accts[to].Cash[cur] = more
	return l, api.OK
}

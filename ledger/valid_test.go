package ledger

import (
	"fmt"
	"reflect"
	"slices"
	"testing"

	"bulwark/api"
)

// edges are numbers about low and high, and far from them.
func edges(low, high int) []int {
	return []int{least, least + 1, -1 << 33, low - 2, low - 1, low, low + 1, high - 1, high, high + 1, high + 2, 1 << 33, most - 1, most}
}

// checkField fails unless the full ledger is valid just with numbers from low to high in a field.
func checkField(t *testing.T, what string, field func(*api.Ledger) *int, low, high int) {
	t.Helper()
	for _, x := range edges(low, high) {
		l := full()
		*field(&l) = x
		checkGood(t, fmt.Sprintf("%s is %d", what, x), l, low <= x && x <= high)
	}
}

// TestGoodDay is P15.1 for the sentence of Good about the day.
func TestGoodDay(t *testing.T) {
	checkField(t, "the day", func(l *api.Ledger) *int { return &l.Day }, 0, 100000)
	for day, want := range map[int]bool{-1: false, 0: true, 1: true, 100000: true, 100001: false} {
		for _, l := range []api.Ledger{First(), sized(greatest)} {
			l.Day = day
			checkGood(t, "the day", l, want)
		}
	}
}

// TestGoodLengths is P15.1 for how many currencies, underlyings, instruments and accounts there may be.
func TestGoodLengths(t *testing.T) {
	for curs := range 7 {
		for unders := range 9 {
			for instrs := range 15 {
				for accts := range 19 {
					want := curs >= 1 && curs <= 4 && unders <= 6 && instrs <= 12 && accts >= 2 && accts <= 16 && (instrs == 0 || unders > 0)
					checkGood(t, "lengths", sized(sizes{curs: curs, unders: unders, instrs: instrs, accts: accts}), want)
				}
			}
		}
	}
}

// TestGoodListed is P15.1 for how many positions, orders and reservations there may be.
func TestGoodListed(t *testing.T) {
	for n := range 70 {
		size := greatest
		size.poss = n
		checkGood(t, "positions", sized(size), n <= 64)
		size = greatest
		size.orders = n
		checkGood(t, "orders", sized(size), n <= 32)
		size = greatest
		size.locs = n
		checkGood(t, "reservations", sized(size), n <= 32)
	}
}

// TestGoodCurs is P15.1 for the currencies: the base currency, and those of other numbers.
func TestGoodCurs(t *testing.T) {
	for n := range 3 {
		low, high := 1, 1000000000000
		if n == 0 {
			low, high = 1000000, 1000000
		}
		checkField(t, "a rate", func(l *api.Ledger) *int { return &l.Curs[n].Rate }, low, high)
		checkField(t, "a haircut", func(l *api.Ledger) *int { return &l.Curs[n].Hair }, 0, 10000)
	}
	l := First()
	l.Curs[0].Rate = 1000001
	checkGood(t, "the base currency", l, false)
	l.Curs[0].Rate, l.Curs[0].Hair = 1000000, 10000
	checkGood(t, "a haircut of the base currency", l, true)
	l = full()
	l.Curs[0], l.Curs[1] = l.Curs[1], l.Curs[0]
	checkGood(t, "another currency first", l, false)
}

// TestGoodUnders is P15.1 for the fields of the underlyings: each of one of the currencies.
func TestGoodUnders(t *testing.T) {
	for k := range 4 {
		checkField(t, "a currency", func(l *api.Ledger) *int { return &l.Unders[k].Cur }, 0, 2)
		checkField(t, "a price", func(l *api.Ledger) *int { return &l.Unders[k].Price }, 1, 1000000000000)
		checkField(t, "a volatility", func(l *api.Ledger) *int { return &l.Unders[k].Vol }, 0, 50000)
		for name, want := range map[string]bool{"": false, "B": true, "ABCDEFGHI": false, "ABCDEFGZ": true, "ibm": false, "I M": false, "IBM1": false, "ÄB": false, "\xff": false, "B\n": false} {
			l := full()
			l.Unders[k].Name = name
			checkGood(t, name, l, want)
		}
	}
	for curs := 1; curs <= 4; curs++ {
		for cur := -1; cur <= 5; cur++ {
			l := sized(sizes{curs: curs, unders: 1, accts: 2})
			l.Unders[0].Cur = cur
			checkGood(t, "a currency", l, cur >= 0 && cur < curs)
		}
	}
}

// TestGoodNames is P15.1 for underlyings with one name, next to one another and not: whatever else they have.
func TestGoodNames(t *testing.T) {
	for n := 2; n <= 6; n++ {
		for k := range n {
			for j := range k {
				l := sized(sizes{curs: 4, unders: n, accts: 2})
				checkGood(t, "distinct names", l, true)
				l.Unders[k].Name = l.Unders[j].Name
				checkGood(t, "one name twice", l, false)
				l.Unders[k] = l.Unders[j]
				checkGood(t, "one underlying twice", l, false)
			}
		}
	}
	for _, name := range []string{"N", "NAA", "AN", "NG"} {
		l := sized(sizes{curs: 4, unders: 6, accts: 2})
		l.Unders[5].Name = name
		checkGood(t, name, l, true)
	}
}

// TestGoodInstrs is P15.1 for the fields of the instruments: each on one of the underlyings.
func TestGoodInstrs(t *testing.T) {
	for k := range 5 {
		checkField(t, "an underlying", func(l *api.Ledger) *int { return &l.Instrs[k].Under }, 0, 3)
		checkField(t, "a multiplier", func(l *api.Ledger) *int { return &l.Instrs[k].Mult }, 1, 1000000)
		checkField(t, "a mark", func(l *api.Ledger) *int { return &l.Instrs[k].Mark }, 0, 100000000000000)
		strike, expiry := [2]int{0, 0}, [2]int{1, 100000}
		switch full().Instrs[k].Kind {
		case 1:
			expiry = [2]int{0, 0}
		case 3:
			strike = [2]int{1, 1000000000000}
		}
		checkField(t, "a strike", func(l *api.Ledger) *int { return &l.Instrs[k].Strike }, strike[0], strike[1])
		checkField(t, "an expiry", func(l *api.Ledger) *int { return &l.Instrs[k].Expiry }, expiry[0], expiry[1])
		checkField(t, "a kind", func(l *api.Ledger) *int { return &l.Instrs[k].Kind }, full().Instrs[k].Kind, full().Instrs[k].Kind)
		l := full()
		l.Instrs[k].Call = !l.Instrs[k].Call
		checkGood(t, "a call", l, l.Instrs[k].Kind == 3)
	}
	for unders := range 7 {
		for under := -1; under <= 7; under++ {
			l := sized(sizes{curs: 1, unders: unders, instrs: 1, accts: 2})
			l.Instrs[0].Under = under
			checkGood(t, "an underlying", l, under >= 0 && under < unders)
		}
	}
}

// TestGoodParents is P15.1 for the parents of the accounts.
func TestGoodParents(t *testing.T) {
	for v, want := range [][]int{{-1}, {-1}, {-1}, {-1, 2}, {-1, 2, 3}, {-1, 2, 3, 4}, {-1, 2, 3, 4}, {-1, 2, 3, 4, 6}} {
		for _, p := range append(edges(-1, v), 0, 1, 2, 3, 4, 5, 6, 7, 8) {
			l := full()
			l.Accts[v].Parent = p
			// Account 5 is the fourth one on its path, so that none can be below it; and 4 and 5 are below 3.
			checkGood(t, fmt.Sprintf("parent %d of account %d", p, v), l, slices.Contains(want, p))
		}
	}
	for n := 3; n <= 16; n++ {
		l := sized(sizes{curs: 1, accts: n})
		for v := 3; v < n; v++ {
			l.Accts[v].Parent = v - 1
		}
		checkGood(t, "a path down to the last account", l, n <= 6)
	}
}

// TestGoodHouse is P15.1 for House and Rounding, which never trade, and the account behind them.
func TestGoodHouse(t *testing.T) {
	for _, sample := range []func() api.Ledger{First, full, func() api.Ledger { return sized(greatest) }, func() api.Ledger { return sized(sizes{curs: 1, accts: 3}) }} {
		for v := range min(3, len(sample().Accts)) {
			for _, last := range []int{0, 1, 40, topId} {
				for _, flag := range []bool{false, true} {
					l := sample()
					l.Orders = nil
					l.Accts[v].Last, l.Accts[v].Flag = last, flag
					checkGood(t, fmt.Sprintf("account %d with last number %d, flag %t", v, last, flag), l, v == 2 || last == 0 && !flag)
				}
			}
		}
	}
}

// TestGoodLast is P15.1 for the last number of an account: a number, and none below those of its orders.
func TestGoodLast(t *testing.T) {
	for v, low := range []int{0, 0, 9, topId, 0, 40, 0, 0} {
		high := topId
		if v < 2 {
			high = 0
		}
		checkField(t, "a last number", func(l *api.Ledger) *int { return &l.Accts[v].Last }, low, high)
	}
	for v := 2; v < 8; v++ {
		for last, want := range map[int]bool{-1: false, 0: true, 1: true, topId: true, topId + 1: false} {
			l := full()
			l.Orders, l.Accts[v].Last = nil, last
			checkGood(t, "a last number", l, want)
		}
	}
}

// TestGoodCash is P15.1 for the cash: an amount for each currency, and no more of them.
func TestGoodCash(t *testing.T) {
	for v := range 8 {
		for cur := range 3 {
			for x, want := range map[int]bool{least: false, -top - 1: false, -top: true, -top + 1: true, 0: true, top - 1: true, top: true, top + 1: false, most: false} {
				l := full()
				l.Accts[v].Cash[cur] = x
				checkGood(t, fmt.Sprintf("cash %d of account %d", cur, v), l, want)
			}
		}
		for n := range 6 {
			l := full()
			l.Accts[v].Cash = make([]int, n)
			checkGood(t, fmt.Sprintf("cash in %d currencies of account %d", n, v), l, n == 3)
		}
		l := full()
		l.Accts[v].Cash = nil
		checkGood(t, "no cash", l, false)
	}
	for n := range 7 {
		l := sized(sizes{curs: 3, accts: 5})
		for v := range l.Accts {
			l.Accts[v].Cash = make([]int, n)
		}
		checkGood(t, "cash in as many currencies for all", l, n == 3)
	}
}

// TestGoodPoss is P15.1 for positions that are not valid by themselves, and of accounts and instruments beyond those that there are.
func TestGoodPoss(t *testing.T) {
	for what, c := range map[string]struct {
		list []api.Pos
		want bool
	}{
		"one":                 {[]api.Pos{pos(2, 0, 1)}, true},
		"the last account":    {[]api.Pos{pos(7, 4, 1)}, true},
		"an account beyond":   {[]api.Pos{pos(8, 4, 1)}, false},
		"an instrument more":  {[]api.Pos{pos(7, 5, 1)}, false},
		"an instrument below": {[]api.Pos{pos(7, -1, 1)}, false},
		"House":               {[]api.Pos{pos(0, 0, 1)}, false},
		"Rounding":            {[]api.Pos{pos(1, 0, 1)}, false},
		"nothing":             {[]api.Pos{pos(2, 0, 0)}, false},
		"the most":            {[]api.Pos{pos(2, 0, topQty)}, true},
		"more":                {[]api.Pos{pos(2, 0, topQty+1)}, false},
		"the least":           {[]api.Pos{pos(2, 0, -topQty)}, true},
		"less":                {[]api.Pos{pos(2, 0, -topQty-1)}, false},
		"twice":               {[]api.Pos{pos(2, 0, 1), pos(2, 0, 1)}, false},
		"by instrument":       {[]api.Pos{pos(2, 0, 1), pos(2, 1, 1)}, true},
		"by account":          {[]api.Pos{pos(2, 1, 1), pos(3, 0, 1)}, true},
		"accounts exchanged":  {[]api.Pos{pos(3, 0, 1), pos(2, 1, 1)}, false},
		"instrs exchanged":    {[]api.Pos{pos(2, 1, 1), pos(2, 0, 1)}, false},
	} {
		l := full()
		l.Poss = c.list
		checkGood(t, what, l, c.want)
	}
}

// TestGoodOrders is P15.1 for orders that are not valid by themselves, of accounts and instruments beyond those that there are, and with numbers that their accounts have not used.
func TestGoodOrders(t *testing.T) {
	for what, c := range map[string]struct {
		list []api.Order
		want bool
	}{
		"one":                    {[]api.Order{order(2, 1, 0, 1, 1)}, true},
		"the last number":        {[]api.Order{order(2, 9, 0, 1, 1)}, true},
		"a number above it":      {[]api.Order{order(2, 10, 0, 1, 1)}, false},
		"the last one of 1":      {[]api.Order{order(6, 1, 0, 1, 1)}, true},
		"the next one":           {[]api.Order{order(6, 2, 0, 1, 1)}, false},
		"of an account at 0":     {[]api.Order{order(7, 1, 0, 1, 1)}, false},
		"the greatest number":    {[]api.Order{order(3, topId, 4, 1, 1)}, true},
		"a greater one":          {[]api.Order{order(3, topId+1, 4, 1, 1)}, false},
		"number 0":               {[]api.Order{order(3, 0, 4, 1, 1)}, false},
		"a number below 0":       {[]api.Order{order(3, -1, 4, 1, 1)}, false},
		"an account beyond":      {[]api.Order{order(8, 1, 4, 1, 1)}, false},
		"an account far off":     {[]api.Order{order(most, 1, 4, 1, 1)}, false},
		"an account below":       {[]api.Order{order(-1, 1, 4, 1, 1)}, false},
		"House":                  {[]api.Order{order(0, 1, 0, 1, 1)}, false},
		"Rounding":               {[]api.Order{order(1, 1, 0, 1, 1)}, false},
		"an instrument beyond":   {[]api.Order{order(2, 1, 5, 1, 1)}, false},
		"an instrument below":    {[]api.Order{order(2, 1, -1, 1, 1)}, false},
		"of nothing":             {[]api.Order{order(2, 1, 0, 0, 1)}, false},
		"of too much":            {[]api.Order{order(2, 1, 0, topQty+1, 1)}, false},
		"of too little":          {[]api.Order{order(2, 1, 0, -topQty-1, 1)}, false},
		"without a price":        {[]api.Order{order(2, 1, 0, 1, 0)}, false},
		"at the greatest price":  {[]api.Order{order(2, 1, 0, 1, 100000000000000)}, true},
		"at a greater price":     {[]api.Order{order(2, 1, 0, 1, 100000000000001)}, false},
		"by number":              {[]api.Order{order(2, 1, 0, 1, 1), order(2, 2, 0, 1, 1)}, true},
		"twice":                  {[]api.Order{order(2, 1, 0, 1, 1), order(2, 1, 1, 1, 1)}, false},
		"numbers exchanged":      {[]api.Order{order(2, 2, 0, 1, 1), order(2, 1, 0, 1, 1)}, false},
		"accounts exchanged":     {[]api.Order{order(3, 1, 0, 1, 1), order(2, 2, 0, 1, 1)}, false},
		"the second one too new": {[]api.Order{order(2, 9, 0, 1, 1), order(5, 42, 0, 1, 1)}, false},
		"the first one too new":  {[]api.Order{order(2, 10, 0, 1, 1), order(5, 41, 0, 1, 1)}, false},
		"each at its last one":   {[]api.Order{order(2, 9, 0, 1, 1), order(5, 41, 0, 1, 1), order(6, 1, 0, 1, 1)}, true},
	} {
		l := full()
		l.Orders = c.list
		checkGood(t, what, l, c.want)
	}
}

// TestGoodLocs is P15.1 for a supply and reservations that are not valid by themselves, and of accounts and instruments beyond those that there are.
func TestGoodLocs(t *testing.T) {
	avail := []int{0, 10, topQty, 5, 6}
	for what, c := range map[string]struct {
		avail []int
		locs  []api.Loc
		want  bool
	}{
		"no reservations":      {avail, nil, true},
		"one":                  {avail, []api.Loc{loc(2, 0, 1)}, true},
		"the last account":     {avail, []api.Loc{loc(7, 4, 1)}, true},
		"an account beyond":    {avail, []api.Loc{loc(8, 4, 1)}, false},
		"an instrument beyond": {avail, []api.Loc{loc(7, 5, 1)}, false},
		"House":                {avail, []api.Loc{loc(0, 0, 1)}, false},
		"Rounding":             {avail, []api.Loc{loc(1, 0, 1)}, false},
		"of nothing":           {avail, []api.Loc{loc(2, 0, 0)}, false},
		"of too much":          {avail, []api.Loc{loc(2, 0, topQty+1)}, false},
		"twice":                {avail, []api.Loc{loc(2, 0, 1), loc(2, 0, 1)}, false},
		"exchanged":            {avail, []api.Loc{loc(3, 0, 1), loc(2, 0, 1)}, false},
		"a number fewer":       {avail[:4], nil, false},
		"a number more":        {append(slices.Clone(avail), 0), nil, false},
		"no numbers":           {nil, nil, false},
		"too many shares":      {[]int{0, 10, topQty + 1, 5, 6}, nil, false},
		"fewer than none":      {[]int{0, 10, 0, 5, -1}, nil, false},
	} {
		l := full()
		l.Avail, l.Locs = c.avail, c.locs
		checkGood(t, what, l, c.want)
	}
	l := First()
	l.Avail = []int{0}
	checkGood(t, "a supply without instruments", l, false)
}

// TestGoodLeaves is P15.1 for every field of every element of two valid ledgers, with many values, against the model.
func TestGoodLeaves(t *testing.T) {
	for _, l := range []api.Ledger{full(), sized(greatest)} {
		leaves(inside(&l), "", func(path string, leaf reflect.Value) {
			for _, x := range others(leaf) {
				before := reflect.ValueOf(leaf.Interface())
				leaf.Set(x)
				if Good(l) != valid(l) {
					t.Errorf("%s is %v: Good of %+v is %t", path, x, l, Good(l))
				}
				leaf.Set(before)
			}
		})
	}
}

// TestGoodLong is rule 1 of the document for Good of long lists: it ends.
func TestGoodLong(t *testing.T) {
	const n = 300000
	for k := range 8 {
		l := sized(greatest)
		list := inside(&l).Field(k + 1)
		long := reflect.MakeSlice(list.Type(), n, n)
		reflect.Copy(long, list)
		list.Set(long)
		checkGood(t, fmt.Sprintf("list %d", k), l, false)
	}
	l := sized(greatest)
	l.Unders = nil
	for k := range n {
		l.Unders = append(l.Unders, api.Under{Name: fmt.Sprintf("N%c%c%c%c", 'A'+k%26, 'A'+k/26%26, 'A'+k/676%26, 'A'+k/17576), Price: 1})
	}
	if Good(l) {
		t.Error("many names")
	}
}

package ref

import (
	"math/big"
	"math/rand"
	"slices"
	"testing"

	"bulwark/api"
)

// currencies are those at rates below, at and above one, each with haircuts from none to all.
func currencies() []api.Cur {
	var all []api.Cur
	for _, rate := range []int{1, 3, 333333, 999999, 1000000, 1000001, 1500000, 2000000, 7000003, 999999999999, 1000000000000} {
		for _, hair := range []int{0, 1, 1000, 3333, 5000, 9999, 10000} {
			all = append(all, api.Cur{Rate: rate, Hair: hair})
		}
	}
	return all
}

// run are the whole numbers from first on, n of them.
func run(first, n int) []int {
	var all []int
	for i := range n {
		all = append(all, first+i)
	}
	return all
}

// ladder are amounts in ascending order: small ones of both signs without a gap, then runs of neighbours up and down to the limits.
func ladder() []int {
	all := run(-60, 121)
	for _, x := range []int{9999, 10000, 999999, 1000000, 123456789, 1000000000000, 4611686018427, limit / 4, limit / 2, 4611224895937794124, limit - 3} {
		all = append(all, run(x-2, 5)...)
		all = append(all, run(-x-2, 5)...)
	}
	all = append(all, limit, -limit)
	slices.Sort(all)
	return slices.Compact(all)
}

// paid is an amount with its Worth.
type paid struct{ amount, worth int }

// worths are the Worths of those of the amounts that have one.
func worths(c api.Cur, amounts []int) []paid {
	var all []paid
	for _, x := range amounts {
		if w, e := Worth(c, x); e == api.OK {
			all = append(all, paid{x, w})
		}
	}
	return all
}

// ordered fails where a greater amount has a smaller Worth.
func ordered(t *testing.T, c api.Cur, all []paid) {
	t.Helper()
	for i, b := range all {
		for _, a := range all[:i] {
			if a.worth > b.worth {
				t.Fatalf("%+v: Worth of %d is %d, of %d it is %d", c, a.amount, a.worth, b.amount, b.worth)
			}
		}
	}
}

// TestWorthOrder is that a greater amount has no smaller Worth (P9.2): pairs of one sign and of both, neighbours among them.
func TestWorthOrder(t *testing.T) {
	for _, c := range currencies() {
		all := worths(c, ladder())
		if len(all) < 121 {
			t.Fatalf("%+v: only %d amounts have a Worth", c, len(all))
		}
		ordered(t, c, all)
	}
}

// TestWorthNeighbours is that a Worth does not fall from one amount to the next (P9.2), over long runs: about 0, and toward both limits.
func TestWorthNeighbours(t *testing.T) {
	for _, c := range currencies() {
		for _, first := range []int{-15000, -limit, -limit / 2, limit - 5000} {
			all := worths(c, run(first, min(30000, limit-first+1)))
			for i := 1; i < len(all); i++ {
				ordered(t, c, all[i-1:i+1])
			}
		}
	}
}

// TestWorthSum is that the Worth of the sum of two amounts, neither of them negative, is no less than the sum of their Worths (P9.2).
func TestWorthSum(t *testing.T) {
	for _, c := range currencies() {
		amounts := slices.DeleteFunc(ladder(), func(x int) bool { return x < 0 })
		all := worths(c, amounts)
		for i, a := range all {
			for _, b := range all[:i+1] {
				checkSum(t, c, a, b)
			}
		}
	}
	r := rand.New(rand.NewSource(5))
	for range 50000 {
		c := api.Cur{Rate: 1 + r.Intn(3000000), Hair: r.Intn(10001)}
		all := worths(c, []int{r.Intn(1 << (1 + r.Intn(59))), r.Intn(1 << (1 + r.Intn(59)))})
		if len(all) != 2 {
			t.Fatalf("%+v: no Worth of an amount below 2^59", c)
		}
		checkSum(t, c, all[0], all[1])
	}
}

// checkSum fails where the sum of a and b has a Worth that is less than theirs together.
func checkSum(t *testing.T, c api.Cur, a, b paid) {
	t.Helper()
	w, e := Worth(c, a.amount+b.amount)
	if e == api.ErrOver {
		return
	}
	if e != api.OK || w < a.worth+b.worth {
		t.Fatalf("%+v: Worth of %d and %d is %d and %d, together %d with error %d", c, a.amount, b.amount, a.worth, b.worth, w, e)
	}
}

// TestWorthValue is that Worth is never greater than the value in the base currency (P9.2): neither than the exact one, nor than Base in any mode.
func TestWorthValue(t *testing.T) {
	for _, c := range currencies() {
		for _, p := range worths(c, ladder()) {
			if new(big.Rat).SetInt64(int64(p.worth)).Cmp(value(c, p.amount)) > 0 {
				t.Fatalf("%+v: Worth of %d is %d", c, p.amount, p.worth)
			}
			atMostBase(t, c, p)
		}
	}
}

// atMostBase fails where the Worth is greater than Base of the amount.
func atMostBase(t *testing.T, c api.Cur, p paid) {
	t.Helper()
	for mode := range 4 {
		if x, e := Base(c, p.amount, mode); e == api.OK && p.worth > x {
			t.Fatalf("%+v: Worth of %d is %d, Base in mode %d is %d", c, p.amount, p.worth, mode, x)
		}
	}
}

// TestDebts is P9.3: small and great debts count in full, at least, and with the haircut on top.
func TestDebts(t *testing.T) {
	debts := run(-3000, 3000)
	debts = append(debts, slices.DeleteFunc(ladder(), func(x int) bool { return x >= 0 })...)
	for _, c := range currencies() {
		for _, p := range worths(c, debts) {
			atMostBase(t, c, p)
			owed := value(c, p.amount)
			owed.Mul(owed, big.NewRat(int64(10000+c.Hair), 10000))
			if new(big.Rat).SetInt64(int64(p.worth)).Cmp(owed) > 0 {
				t.Fatalf("%+v: Worth of %d is %d, which leaves out some of the haircut", c, p.amount, p.worth)
			}
		}
	}
}

package ref

import (
	"testing"

	"bulwark/api"
)

// TestExamples are the chapter's examples.
func TestExamples(t *testing.T) {
	c := api.Cur{Rate: 1500000, Hair: 1000}
	if x := got(Worth(c, 7)); x != ok(9) {
		t.Errorf("Worth of 7: %v", x)
	}
	if x := got(Base(c, 7, api.Down)); x != ok(10) {
		t.Errorf("Base of 7: %v", x)
	}
	if x := got(Worth(c, -7)); x != ok(-13) {
		t.Errorf("Worth of -7: %v", x)
	}
	if x := got(Base(c, -7, api.Down)); x != ok(-11) {
		t.Errorf("Base of -7: %v", x)
	}
	if x := got(Worth(api.Cur{Rate: api.RateOne}, 7)); x != ok(7) {
		t.Errorf("Worth of 7 of the base currency: %v", x)
	}
}

// TestWorth is P9.1 for Worth.
func TestWorth(t *testing.T) {
	for _, c := range []struct {
		rate, hair, amount int
		want               outcome
	}{
		// The base currency, and one at the same rate
		{1000000, 0, 0, ok(0)},
		{1000000, 0, 7, ok(7)},
		{1000000, 0, -7, ok(-7)},
		{1000000, 0, limit, ok(limit)},
		{1000000, 0, -limit, ok(-limit)},
		{1000000, 1, 0, ok(0)},
		{1000000, 1, 1, ok(0)},
		{1000000, 1, -1, ok(-2)},
		{1000000, 1, 9999, ok(9998)},
		{1000000, 1, 10000, ok(9999)},
		{1000000, 1, 10001, ok(9999)},
		{1000000, 1, -9999, ok(-10000)},
		{1000000, 1, -10000, ok(-10001)},
		{1000000, 1, -10001, ok(-10003)},
		{1000000, 5000, 3, ok(1)},
		{1000000, 5000, -3, ok(-5)},
		{1000000, 9999, 0, ok(0)},
		{1000000, 9999, 9999, ok(0)},
		{1000000, 9999, 10000, ok(1)},
		{1000000, 9999, -1, ok(-2)},
		{1000000, 9999, -10000, ok(-19999)},
		{1000000, 10000, 0, ok(0)},
		{1000000, 10000, 1, ok(0)},
		{1000000, 10000, limit, ok(0)},
		{1000000, 10000, -1, ok(-2)},
		{1000000, 10000, -10000, ok(-20000)},
		// Rounded down twice: 10.5 to 10, and 2.5 to 2; -10.5 to -11, and -19.25 to -20
		{1500000, 7500, 7, ok(2)},
		{1500000, 7500, -7, ok(-20)},
		{1500000, 0, 7, ok(10)},
		{1500000, 0, -7, ok(-11)},
		{1500000, 10000, 7, ok(0)},
		{1500000, 10000, -7, ok(-22)},
		{1500000, 1000, 0, ok(0)},
		// Rates far below one
		{1, 0, 1, ok(0)},
		{1, 0, 999999, ok(0)},
		{1, 0, 1000000, ok(1)},
		{1, 0, -1, ok(-1)},
		{1, 1, -1, ok(-2)},
		{1, 9999, -1, ok(-2)},
		{1, 10000, -1, ok(-2)},
		{1, 1, 1000000, ok(0)},
		{1, 0, limit, ok(4611686018427)},
		{1, 0, -limit, ok(-4611686018428)},
		{1, 10000, -limit, ok(-9223372036856)},
		// Rates far above one
		{1000000000000, 0, 1, ok(1000000)},
		{1000000000000, 1, 1, ok(999900)},
		{1000000000000, 1, -1, ok(-1000100)},
		{1000000000000, 9999, 1, ok(100)},
		{1000000000000, 10000, 1, ok(0)},
		{1000000000000, 10000, -1, ok(-2000000)},
		{1000000000000, 0, 4611686018427, ok(4611686018427000000)},
	} {
		if x := got(Worth(api.Cur{Rate: c.rate, Hair: c.hair}, c.amount)); x != c.want {
			t.Errorf("Worth of %d with Rate %d, Hair %d: %v, not %v", c.amount, c.rate, c.hair, x, c.want)
		}
	}
}

// TestWorthErrors is what Worth refuses: the currency, then in the first MulDiv, then in the second.
func TestWorthErrors(t *testing.T) {
	for _, c := range []struct {
		rate, hair, amount int
		want               outcome
	}{
		{0, 0, 7, cur},
		{-1, 0, 7, cur},
		{1000000000001, 0, 7, cur},
		{1000000, -1, 7, cur},
		{1000000, 10001, 7, cur},
		{1000000, 10001, 0, cur},
		{0, 0, 0, cur},
		{least, least, least, cur},
		{0, 0, limit + 1, cur},
		{1000000, 10001, -limit - 1, cur},
		{1000000000001, 0, limit, cur},
		// The first
		{1000000, 0, limit + 1, over},
		{1000000, 0, -limit - 1, over},
		{1, 10000, limit + 1, over}, // of which nothing would be left
		{1, 10000, -limit - 1, over},
		{1, 0, most, over},
		{1, 0, least, over},
		{1000001, 10000, limit, over},
		{1000001, 0, -limit, over},
		{2000000, 5000, limit/2 + 1, over}, // of which half would be an amount
		{2000000, 5000, limit / 2, ok(limit / 2)},
		{1500000, 0, 3074457345618258603, ok(limit)},
		{1500000, 0, -3074457345618258603, over}, // -2^62 and a half, rounded down
		{1500000, 0, -3074457345618258602, ok(1 - limit)},
		{1000000000000, 10000, 4611686018428, over},
		{1000000000000, 10000, 4611686018427, ok(0)},
		// The second, which can refuse debts alone
		{1000000, 1, limit, ok(4611224849825545165)},
		{1000000, 1, -limit, over},
		{1000000, 1, -4611224895937794125, over},
		{1000000, 1, -4611224895937794124, ok(-limit)},
		{1000000, 1, -4611224895937794123, ok(1 - limit)},
		{1000000, 9999, -2305958307129050405, over},
		{1000000, 9999, -2305958307129050404, ok(1 - limit)},
		{1000000, 10000, -limit, over},
		{1000000, 10000, -limit/2 - 1, over},
		{1000000, 10000, -limit / 2, ok(-limit)},
		{2000000, 10000, -limit/4 - 1, over},
		{2000000, 10000, -limit / 4, ok(-limit)},
		{2000000, 10000, limit / 2, ok(0)},
	} {
		if x := got(Worth(api.Cur{Rate: c.rate, Hair: c.hair}, c.amount)); x != c.want {
			t.Errorf("Worth of %d with Rate %d, Hair %d: %v, not %v", c.amount, c.rate, c.hair, x, c.want)
		}
	}
}

package ref

import (
	"testing"

	"bulwark/api"
)

const limit = 1 << 62 // the greatest amount

// outcome is what Base and Worth answer.
type outcome struct {
	x int
	e api.Errno
}

func got(x int, e api.Errno) outcome { return outcome{x, e} }

func ok(x int) outcome { return outcome{x, api.OK} }

var over, arg, cur = outcome{0, api.ErrOver}, outcome{0, api.ErrArg}, outcome{0, api.ErrCur}

// TestBase is P9.1 for Base: amounts in each mode, whatever the haircut is.
func TestBase(t *testing.T) {
	for _, c := range []struct {
		rate, amount         int
		down, up, zero, away outcome
	}{
		{1500000, 7, ok(10), ok(11), ok(10), ok(11)},
		{1500000, -7, ok(-11), ok(-10), ok(-10), ok(-11)},
		{1500000, 8, ok(12), ok(12), ok(12), ok(12)},
		{1500000, -8, ok(-12), ok(-12), ok(-12), ok(-12)},
		{1500000, 0, ok(0), ok(0), ok(0), ok(0)},
		{1000000, 7, ok(7), ok(7), ok(7), ok(7)},
		{1000000, -7, ok(-7), ok(-7), ok(-7), ok(-7)},
		{1000000, limit, ok(limit), ok(limit), ok(limit), ok(limit)}, // the product alone is no amount
		{1000000, -limit, ok(-limit), ok(-limit), ok(-limit), ok(-limit)},
		{1000000, limit + 1, over, over, over, over},
		{1000000, -limit - 1, over, over, over, over},
		{1, 1, ok(0), ok(1), ok(0), ok(1)},
		{1, -1, ok(-1), ok(0), ok(0), ok(-1)},
		{1, 999999, ok(0), ok(1), ok(0), ok(1)},
		{1, 1000000, ok(1), ok(1), ok(1), ok(1)},
		{1, 1000001, ok(1), ok(2), ok(1), ok(2)},
		{1, -1000001, ok(-2), ok(-1), ok(-1), ok(-2)},
		{1, limit, ok(4611686018427), ok(4611686018428), ok(4611686018427), ok(4611686018428)},
		{1, -limit, ok(-4611686018428), ok(-4611686018427), ok(-4611686018427), ok(-4611686018428)},
		{1, limit + 1, over, over, over, over}, // the result alone would be an amount
		{1, -limit - 1, over, over, over, over},
		{1, most, over, over, over, over},
		{1, least, over, over, over, over},
		{999999, limit, ok(limit - 4611686018428), ok(limit - 4611686018427), ok(limit - 4611686018428), ok(limit - 4611686018427)},
		{1000001, 4611681406745981158, ok(limit - 1), ok(limit), ok(limit - 1), ok(limit)},
		{1000001, -4611681406745981158, ok(-limit), ok(1 - limit), ok(1 - limit), ok(-limit)},
		{1000001, 4611681406745981159, ok(limit), over, ok(limit), over},
		{1000001, -4611681406745981159, over, ok(-limit), ok(-limit), over},
		{1000001, 4611681406745981160, over, over, over, over},
		{1000001, limit, over, over, over, over},
		{1500000, 3074457345618258602, ok(limit - 1), ok(limit - 1), ok(limit - 1), ok(limit - 1)},
		{1500000, 3074457345618258603, ok(limit), over, ok(limit), over},
		{1500000, -3074457345618258603, over, ok(-limit), ok(-limit), over},
		{1500000, 3074457345618258604, over, over, over, over},
		{2000000, limit / 2, ok(limit), ok(limit), ok(limit), ok(limit)},
		{2000000, limit/2 + 1, over, over, over, over},
		{2000000, -limit/2 - 1, over, over, over, over},
		{1000000000000, 1, ok(1000000), ok(1000000), ok(1000000), ok(1000000)},
		{1000000000000, 4611686018427, ok(4611686018427000000), ok(4611686018427000000), ok(4611686018427000000), ok(4611686018427000000)},
		{1000000000000, 4611686018428, over, over, over, over},
		{1000000000000, -4611686018428, over, over, over, over},
		{1000000000000, limit, over, over, over, over}, // 2^62 times 10^6 has more than 64 bits
	} {
		for mode, want := range []outcome{c.down, c.up, c.zero, c.away} {
			for _, hair := range []int{0, 1, 1000, 9999, 10000} {
				if x := got(Base(api.Cur{Rate: c.rate, Hair: hair}, c.amount, mode)); x != want {
					t.Errorf("Base of %d with Rate %d, Hair %d, mode %d: %v, not %v", c.amount, c.rate, hair, mode, x, want)
				}
			}
		}
	}
}

// TestBaseCur is that a currency is refused exactly if it is not valid as one other than the base currency: one that is valid as that is valid as another, too.
func TestBaseCur(t *testing.T) {
	for _, c := range []struct {
		rate, hair int
		want       outcome
	}{
		{0, 0, cur}, {-1, 0, cur}, {-1000000, 0, cur}, {1000000000001, 0, cur}, {most, 0, cur}, {least, 0, cur}, {1 << 62, 0, cur},
		{1000000, -1, cur}, {1000000, 10001, cur}, {1000000, most, cur}, {1000000, least, cur}, {0, -1, cur}, {1000000000001, 10001, cur},
		{1, 0, ok(2)}, {1000000000000, 0, ok(2000000000000)}, {1000000, 0, ok(2000000)}, {1000000, 10000, ok(2000000)}, {999999, 0, ok(1999998)}, {1000001, 10000, ok(2000002)},
	} {
		for mode := range 4 {
			if x := got(Base(api.Cur{Rate: c.rate, Hair: c.hair}, 2000000, mode)); x != c.want {
				t.Errorf("Base with Rate %d, Hair %d, mode %d: %v, not %v", c.rate, c.hair, mode, x, c.want)
			}
		}
	}
}

// TestBaseErrors is which error stands first: the currency's, the amount's, the mode's, the result's.
func TestBaseErrors(t *testing.T) {
	bad, good, great := api.Cur{Rate: 0}, api.Cur{Rate: 1500000, Hair: 1000}, api.Cur{Rate: 1000000000000}
	for _, c := range []struct {
		name         string
		c            api.Cur
		amount, mode int
		want         outcome
	}{
		{"nothing", good, 7, 3, ok(11)},
		{"currency", bad, 7, 0, cur},
		{"currency and amount", bad, limit + 1, 0, cur},
		{"currency and mode", bad, 7, 4, cur},
		{"currency, amount and mode", bad, -limit - 1, -1, cur},
		{"haircut, amount and mode", api.Cur{Rate: 1000000, Hair: 10001}, most, most, cur},
		{"amount", good, limit + 1, 0, over},
		{"amount below", good, -limit - 1, 0, over},
		{"amount and mode", good, limit + 1, 4, over},
		{"least amount and mode", good, least, -1, over},
		{"mode 4", good, 7, 4, arg},
		{"mode 5", good, 7, 5, arg},
		{"mode -1", good, 7, -1, arg},
		{"greatest mode", good, 7, most, arg},
		{"least mode", good, 7, least, arg},
		{"mode 2^32", good, 7, 1 << 32, arg},
		{"mode, of nought", good, 0, 4, arg},
		{"mode, without a rest", good, 8, 4, arg},
		{"mode and result", great, limit, 4, arg},
		{"mode and result below", great, -limit, -1, arg},
		{"result", great, limit, 0, over},
		{"result below", great, -limit, 1, over},
	} {
		if x := got(Base(c.c, c.amount, c.mode)); x != c.want {
			t.Errorf("%s: %v, not %v", c.name, x, c.want)
		}
	}
}

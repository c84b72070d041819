package opt

import (
	"math"
	"testing"

	"bulwark/api"
)

const (
	limit = 1 << 62         // the greatest amount
	top   = 100000000000000 // MaxMark
	last  = 100000          // MaxDay
	most  = math.MaxInt
	least = math.MinInt
)

// outcome is what a call answers.
type outcome struct {
	x int
	e api.Errno
}

func got(x int, e api.Errno) outcome { return outcome{x, e} }

func ok(x int) outcome { return outcome{x, api.OK} }

var arg, over, instr = outcome{0, api.ErrArg}, outcome{0, api.ErrOver}, outcome{0, api.ErrInstr}

// option is what a call and a put are valued by.
type option struct{ strike, price, vol, days int }

// valued is Value of such a call or put.
func valued(call bool, o option) outcome { return got(Value(call, o.strike, o.price, o.vol, o.days)) }

// priced is an option with the values of the call and of the put.
type priced struct {
	option
	call, put outcome
}

// checkValues fails at each that has another value.
func checkValues(t *testing.T, all []priced) {
	t.Helper()
	for _, p := range all {
		if x := valued(true, p.option); x != p.call {
			t.Errorf("a call of %+v: %v, not %v", p.option, x, p.call)
		}
		if x := valued(false, p.option); x != p.put {
			t.Errorf("a put of %+v: %v, not %v", p.option, x, p.put)
		}
	}
}

// TestValueExamples are the chapter's examples.
func TestValueExamples(t *testing.T) {
	checkValues(t, []priced{
		{option{100, 100, 3650, 100}, ok(10), ok(10)},
		{option{100, 104, 3650, 100}, ok(12), ok(8)},
		{option{100, 130, 3650, 100}, ok(30), ok(0)},
		{option{100, 90, 3650, 100}, ok(5), ok(15)},
		{option{100, 70, 3650, 100}, ok(0), ok(30)},
		{option{100, 104, 3650, 0}, ok(4), ok(0)},
	})
}

// TestValueBounds is P11.1 at the bounds of strike, price and volatility: each beyond them by itself, several at once, and all at them.
func TestValueBounds(t *testing.T) {
	for _, wrong := range []int{least, least + 1, -top, -2, -1, top + 1, top + 2, limit, most - 1, most} {
		for _, o := range []option{
			{wrong, 1, 1, 1},
			{1, wrong, 1, 1},
			{1, 1, wrong, 1},
			{wrong, wrong, 1, 1},
			{wrong, 1, wrong, 1},
			{1, wrong, wrong, 1},
			{wrong, wrong, wrong, 1},
			{wrong, -1, 1, 1},
			{-1, wrong, 1, 1},
			{top + 1, 1, wrong, 1},
			{0, wrong, 0, 1},
			{wrong, 0, 0, 1},
			{0, 0, wrong, 1},
			{top, top, wrong, 1},
			{wrong, top, top, 1},
			{top, wrong, top, 1},
		} {
			for _, days := range []int{least, -1, 0, 1, last, last + 1, most} {
				o.days = days
				checkValues(t, []priced{{o, arg, arg}})
			}
		}
	}
	checkValues(t, []priced{
		{option{0, 0, 0, 1}, ok(0), ok(0)},
		{option{1, 0, 0, 1}, ok(0), ok(1)},
		{option{0, 1, 0, 1}, ok(1), ok(0)},
		{option{0, 0, 1, 1}, ok(0), ok(0)},
		{option{1, 1, 1, 1}, ok(0), ok(0)},
		{option{top, 0, 0, 1}, ok(0), ok(top)},
		{option{0, top, 0, 1}, ok(top), ok(0)},
		{option{0, 0, top, 1}, ok(0), ok(0)},
		{option{0, top, top, 1}, ok(top), ok(0)},
		{option{1, 0, top, 1}, ok(27397260), ok(27397261)},
		{option{1, 1, top, 1}, ok(27397260), ok(27397260)},
		{option{top, top, 0, 1}, ok(0), ok(0)},
		{option{top, top, 1, 1}, ok(27397260), ok(27397260)},
		{option{top, 0, 1, 1}, ok(0), ok(top)},
		{option{top, top, top, 1}, over, over},
		{option{top, 0, top, 1}, over, over},
	})
}

// TestValueDays is P11.1 for days at their bounds and beyond them.
func TestValueDays(t *testing.T) {
	for _, days := range []int{least, least + 1, -limit, -last - 1, -last, -2, -1, 0} {
		checkValues(t, []priced{
			{option{100, 104, 3650, days}, ok(4), ok(0)},
			{option{100, 97, 3650, days}, ok(0), ok(3)},
			{option{100, 100, 3650, days}, ok(0), ok(0)},
			{option{top, 0, top, days}, ok(0), ok(top)}, // with days to expiry that would be too great
			{option{0, top, top, days}, ok(top), ok(0)},
			{option{top, top, top, days}, ok(0), ok(0)},
			{option{-1, 104, 3650, days}, arg, arg},
			{option{100, -1, 3650, days}, arg, arg},
			{option{100, 104, -1, days}, arg, arg},
			{option{100, 104, top + 1, days}, arg, arg},
		})
	}
	checkValues(t, []priced{
		{option{36500, 36500, 100, 1}, ok(1), ok(1)},
		{option{36500, 36500, 100, 2}, ok(2), ok(2)},
		{option{36500, 36500, 100, last - 1}, ok(last - 1), ok(last - 1)},
		{option{36500, 36500, 100, last}, ok(last), ok(last)},
	})
	for _, days := range []int{last + 1, last + 2, 2 * last, limit, most - 1, most} {
		checkValues(t, []priced{
			{option{36500, 36500, 100, days}, arg, arg},
			{option{0, 0, 0, days}, arg, arg},
			{option{top, top, top, days}, arg, arg}, // V times n is too great, too
			{option{100, -1, 3650, days}, arg, arg},
			{option{100, 104, top + 1, days}, arg, arg},
		})
	}
}

// TestValueGaps is P11.1 for gaps of calls and of puts, about those whose half is the maximum time value.
func TestValueGaps(t *testing.T) {
	checkValues(t, []priced{
		{option{100, 101, 3650, 100}, ok(11), ok(10)}, // the half of 1 is rounded down
		{option{100, 99, 3650, 100}, ok(10), ok(11)},
		{option{100, 102, 3650, 100}, ok(11), ok(9)},
		{option{100, 98, 3650, 100}, ok(9), ok(11)},
		{option{100, 103, 3650, 100}, ok(12), ok(9)},
		{option{100, 97, 3650, 100}, ok(9), ok(12)},
		{option{100, 117, 3650, 100}, ok(19), ok(2)},
		{option{100, 118, 3650, 100}, ok(19), ok(1)},
		{option{100, 82, 3650, 100}, ok(1), ok(19)},
		{option{100, 119, 3650, 100}, ok(20), ok(1)},
		{option{100, 81, 3650, 100}, ok(1), ok(20)},
		{option{100, 120, 3650, 100}, ok(20), ok(0)},
		{option{100, 80, 3650, 100}, ok(0), ok(20)},
		{option{100, 121, 3650, 100}, ok(21), ok(0)},
		{option{100, 79, 3650, 100}, ok(0), ok(21)},
		{option{100, 122, 3650, 100}, ok(22), ok(0)},
		{option{100, 78, 3650, 100}, ok(0), ok(22)},
		{option{100, 0, 3650, 100}, ok(0), ok(100)},
		{option{100, top, 3650, 100}, ok(top - 100), ok(0)},
		{option{0, 7, 3650, 100}, ok(7), ok(0)},
		{option{100, 101, 0, 100}, ok(1), ok(0)}, // the maximum time value is 0
		{option{100, 99, 0, 100}, ok(0), ok(1)},
		{option{100, 100, 0, 100}, ok(0), ok(0)},
		{option{100, 101, 365, 100}, ok(2), ok(1)}, // it is 1
		{option{100, 99, 365, 100}, ok(1), ok(2)},
		{option{100, 102, 365, 100}, ok(2), ok(0)},
		{option{100, 98, 365, 100}, ok(0), ok(2)},
		{option{100, 103, 365, 100}, ok(3), ok(0)},
		{option{100, 97, 365, 100}, ok(0), ok(3)},
	})
}

// TestValueRounding is P11.1 for maximum time values that are rounded down, and for such that are integers.
func TestValueRounding(t *testing.T) {
	for _, c := range []struct{ strike, vol, days, want int }{
		{1, 3649999, 1, 0},
		{1, 3650000, 1, 1},
		{1, 3650001, 1, 1},
		{1, 7299999, 1, 1},
		{1, 7300000, 1, 2},
		{3649999, 1, 1, 0},
		{3650000, 1, 1, 1},
		{3650001, 1, 1, 1},
		{7299999, 1, 1, 1},
		{7300000, 1, 1, 2},
		{1, 36, last, 0},
		{1, 37, last, 1},
		{1, 73, last, 2},
		{36, 1, last, 0},
		{37, 1, last, 1},
		{1, 36499, 100, 0},
		{1, 36500, 100, 1},
		{1, 365, 10000, 1},
		{1, 365, 9999, 0},
		{3, 1216667, 1, 1},
		{3, 3649999, 2, 5}, // 5.99..: the product is divided, neither of its parts
		{3649999, 3, 2, 5},
		{3649999, 3649999, 1, 3649998},
		{top, 100000, 100, 273972602739726}, // K times V times n has more than 64 bits
		{123456789, 98765, 4321, 14434755999},
	} {
		checkValues(t, []priced{{option{c.strike, c.strike, c.vol, c.days}, ok(c.want), ok(c.want)}})
	}
}

// TestValueOver is P11.1 about the greatest amount: V times n, the maximum time value, or the value alone is too great.
func TestValueOver(t *testing.T) {
	checkValues(t, []priced{
		{option{0, 0, limit >> 16, 1 << 16}, ok(0), ok(0)}, // V times n is 2^62
		{option{0, 0, limit>>16 + 1, 1 << 16}, over, over},
		{option{0, 0, limit >> 16, 1<<16 + 1}, over, over},
		{option{0, 0, limit>>16 - 1, 1<<16 + 1}, over, over},
		{option{0, top, limit >> 16, 1 << 16}, ok(top), ok(0)},
		{option{0, top, limit>>16 + 1, 1 << 16}, over, over},
		{option{1, 0, limit >> 16, 1 << 16}, ok(1263475621486), ok(1263475621487)},
		{option{1, 1, limit>>16 + 1, 1 << 16}, over, over},
		{option{0, 5, top, 46116}, ok(5), ok(0)},
		{option{0, 5, top, 46117}, over, over},
		{option{0, 5, top, last}, over, over}, // and more than a word holds
		{option{3650000, 3650000, limit >> 16, 1 << 16}, ok(limit), ok(limit)},
		{option{3650000, 3649999, limit >> 16, 1 << 16}, ok(limit), over}, // the value of the put alone is too great
		{option{3650000, 3650001, limit >> 16, 1 << 16}, over, ok(limit)},
		{option{3650000, 3649998, limit >> 16, 1 << 16}, ok(limit - 1), over},
		{option{3650000, 3650002, limit >> 16, 1 << 16}, over, ok(limit - 1)},
		{option{3650000, 3649997, limit >> 16, 1 << 16}, ok(limit - 1), over},
		{option{3650000, 3650003, limit >> 16, 1 << 16}, over, ok(limit - 1)},
		{option{3650001, 3650001, limit >> 16, 1 << 16}, over, over}, // the maximum time value is
		{option{3650001, 0, limit >> 16, 1 << 16}, over, over},
		{option{3650001, top, limit >> 16, 1 << 16}, over, over}, // the put's time value would not be
		{option{3649999, 0, limit >> 16, 1 << 16}, ok(4611684754949941418), ok(4611684754953591417)},
		{option{3649999, top, limit >> 16, 1 << 16}, over, ok(4611634754953591417)},
		{option{8120043, 8120043, 25772063954730, 80435}, ok(limit), ok(limit)}, // rounded down to 2^62
		{option{5649034, 5649034, 59144126697358, 50381}, ok(limit), ok(limit)},
		{option{5649034, 5649035, 59144126697358, 50381}, over, ok(limit)},
		{option{top, top, 168326539, 1000}, ok(4611686000000000000), ok(4611686000000000000)},
		{option{top, top, 168326540, 1000}, over, over},
		{option{top, top, 168326539672, 1}, ok(limit - 16429000), ok(limit - 16429000)},
		{option{top, top, 168326539673, 1}, over, over},
		{option{top, 0, 168326539673, 1}, over, over},
		{option{top, top - 16429000, 168326539672, 1}, ok(limit - 16429000 - 8214500), ok(limit - 8214500)},
		{option{top, top - 2*16429000, 168326539672, 1}, ok(limit - 2*16429000), ok(limit)},
		{option{top, top - 2*16429000 - 1, 168326539672, 1}, ok(limit - 2*16429000), over},
		{option{top, top - 2*16429000 - 2, 168326539672, 1}, ok(limit - 2*16429000 - 1), over},
		{option{top, 0, top, last}, over, over},
		{option{top, top, top, last}, over, over},
	})
}

// TestValueAgain is that nothing of one call is left in the next (rule 4): one behind an error answers as before it.
func TestValueAgain(t *testing.T) {
	o, wrong, great := option{100, 104, 3650, 100}, option{-1, 104, 3650, 100}, option{top, top, top, last}
	for range 3 {
		checkValues(t, []priced{{o, ok(12), ok(8)}, {great, over, over}, {o, ok(12), ok(8)}, {wrong, arg, arg}})
	}
}

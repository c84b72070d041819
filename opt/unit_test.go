package opt

import (
	"testing"

	"bulwark/api"
)

// quote is what a unit is valued by, beside the instrument.
type quote struct{ price, vol, day int }

// unit is Unit of the instrument.
func unit(i api.Instr, q quote) outcome { return got(Unit(i, q.price, q.vol, q.day)) }

// checkUnit fails if the instrument has another value.
func checkUnit(t *testing.T, i api.Instr, q quote, want outcome) {
	t.Helper()
	if x := unit(i, q); x != want {
		t.Errorf("Unit of %+v with %+v: %v, not %v", i, q, x, want)
	}
}

// marks are integers beyond the bounds of a price and of a volatility; dates such beyond those of a day.
var (
	marks = []int{least, -top, -1, top + 1, limit, most}
	dates = []int{least, -last, -1, last + 1, limit, most}
)

// TestUnitOption is P11.1 for Unit of options: those that are valued, and on which day.
func TestUnitOption(t *testing.T) {
	call := api.Instr{Kind: api.Option, Strike: 100, Expiry: 150, Call: true}
	put := api.Instr{Kind: api.Option, Strike: 100, Expiry: 150}
	for _, c := range []struct {
		quote
		call, put outcome
	}{
		{quote{100, 3650, 50}, ok(10), ok(10)},
		{quote{104, 3650, 50}, ok(12), ok(8)},
		{quote{90, 3650, 50}, ok(5), ok(15)},
		{quote{104, 3650, 0}, ok(17), ok(13)},
		{quote{104, 3650, 140}, ok(4), ok(0)}, // ten days: 1, less the half of 4
		{quote{101, 3650, 140}, ok(2), ok(1)},
		{quote{101, 3650, 141}, ok(1), ok(0)},
		{quote{101, 36500, 149}, ok(2), ok(1)},
		{quote{101, 36500, 150}, ok(1), ok(0)}, // its last day
		{quote{101, 36500, 151}, ok(1), ok(0)}, // and behind it
		{quote{99, 36500, 150}, ok(0), ok(1)},
		{quote{99, 36500, last}, ok(0), ok(1)},
		{quote{0, 3650, 50}, ok(0), ok(100)},
		{quote{top, 3650, 50}, ok(top - 100), ok(0)},
		{quote{100, 0, 50}, ok(0), ok(0)},
		{quote{100, top, 50}, ok(273972602739), ok(273972602739)},
	} {
		checkUnit(t, call, c.quote, c.call)
		checkUnit(t, put, c.quote, c.put)
	}
}

// TestUnitExpiry is P11.1 for each day of expiry: 0, about the day, MaxDay, and beyond, where it is the instrument that is wrong.
func TestUnitExpiry(t *testing.T) {
	for _, call := range []bool{true, false} {
		i := api.Instr{Kind: api.Option, Strike: 36500, Call: call}
		for _, c := range []struct{ expiry, day, want int }{
			{0, 0, 0}, {1, 0, 1}, {2, 0, 2}, {last - 1, 0, last - 1}, {last, 0, last},
			{0, 1, 0}, {1, 1, 0}, {2, 1, 1}, {last, 1, last - 1},
			{0, 50, 0}, {49, 50, 0}, {50, 50, 0}, {51, 50, 1}, {52, 50, 2},
			{0, last, 0}, {last - 1, last, 0}, {last, last, 0}, {last, last - 1, 1},
		} {
			i.Expiry = c.expiry
			checkUnit(t, i, quote{36500, 100, c.day}, ok(c.want))
		}
		for _, wrong := range dates {
			i.Expiry = wrong
			for _, day := range []int{0, 1, 50, last} {
				checkUnit(t, i, quote{36500, 100, day}, instr)
			}
		}
	}
}

// TestUnitPrice is P11.1 for shares and futures: the price, at any volatility and on any day, whatever else the instrument has.
func TestUnitPrice(t *testing.T) {
	anything := []int{least, -1, 0, 1, 50, top + 1, most}
	for _, kind := range []int{api.Equity, api.Future} {
		for _, x := range anything {
			for _, i := range []api.Instr{
				{Kind: kind, Strike: x},
				{Kind: kind, Expiry: x},
				{Kind: kind, Under: x, Mult: x, Strike: x, Expiry: x, Call: true, Mark: x},
			} {
				for _, price := range []int{0, 1, 104, top - 1, top} {
					for _, vol := range []int{0, 1, 3650, top} {
						for _, day := range []int{0, 1, 50, last} {
							checkUnit(t, i, quote{price, vol, day}, ok(price))
						}
					}
				}
			}
		}
	}
}

// TestUnitKind is P11.1 for kinds: those that are known, those beside them, and such far off, which stand before every other error.
func TestUnitKind(t *testing.T) {
	i := api.Instr{Strike: 100, Expiry: 150, Call: true}
	for kind, want := range map[int]int{1: 104, 2: 104, 3: 12} {
		i.Kind = kind
		checkUnit(t, i, quote{104, 3650, 50}, ok(want))
	}
	for _, kind := range []int{least, least + 1, -3, -2, -1, 0, 4, 5, 6, 7, 1<<32 + 1, 1<<32 + 3, limit, most} {
		i.Kind = kind
		for _, strike := range []int{100, -1, top + 1} {
			for _, expiry := range []int{150, -1, last + 1} {
				i.Strike, i.Expiry = strike, expiry
				for _, q := range []quote{{104, 3650, 50}, {-1, 3650, 50}, {104, top + 1, 50}, {104, 3650, -1}, {-1, -1, -1}, {most, most, most}, {0, 0, 0}} {
					checkUnit(t, i, q, instr)
				}
			}
		}
	}
}

// TestUnitQuote is P11.1 for prices, volatilities and days beyond their bounds, which stand before the errors of an option's own.
func TestUnitQuote(t *testing.T) {
	var all []quote
	for _, x := range marks {
		all = append(all, quote{x, 3650, 50}, quote{104, x, 50}, quote{x, x, 50}, quote{x, -1, 50}, quote{-1, x, 50}, quote{x, 0, 0}, quote{top, x, last})
		for _, day := range dates {
			all = append(all, quote{x, 3650, day}, quote{104, x, day}, quote{x, x, day})
		}
	}
	for _, day := range dates {
		all = append(all, quote{104, 3650, day}, quote{0, 0, day}, quote{top, top, day})
	}
	for _, i := range []api.Instr{
		{Kind: api.Equity},
		{Kind: api.Future, Expiry: 150},
		{Kind: api.Option, Strike: 100, Expiry: 150, Call: true},
		{Kind: api.Option, Strike: 100, Expiry: 150},
		{Kind: api.Option, Strike: 100},
		{Kind: api.Option, Strike: 100, Expiry: -1},
		{Kind: api.Option, Strike: 100, Expiry: last + 1},
		{Kind: api.Option, Strike: -1, Expiry: most},
		{Kind: api.Option, Strike: top, Expiry: last}, // with the greatest volatility that would be too great
	} {
		for _, q := range all {
			checkUnit(t, i, q, arg)
		}
	}
}

// TestUnitErrors is P11.1 for an option's own errors: its day of expiry stands before Value's.
func TestUnitErrors(t *testing.T) {
	for _, call := range []bool{true, false} {
		for _, strike := range marks {
			i := api.Instr{Kind: api.Option, Strike: strike, Expiry: 150, Call: call}
			for _, day := range []int{0, 50, 150, 151, last} {
				checkUnit(t, i, quote{104, 3650, day}, arg)
			}
			for _, expiry := range dates {
				i.Expiry = expiry
				checkUnit(t, i, quote{104, 3650, 50}, instr)
			}
		}
		i := api.Instr{Kind: api.Option, Strike: top, Expiry: last, Call: call}
		checkUnit(t, i, quote{top, top, 0}, over)
		checkUnit(t, i, quote{top, top, last - 1}, over)
		checkUnit(t, i, quote{top, top, last}, ok(0))
		checkUnit(t, i, quote{top, 168326539, last - 1000}, ok(4611686000000000000))
		checkUnit(t, i, quote{top, 168326540, last - 1000}, over)
	}
	checkUnit(t, api.Instr{Kind: api.Option, Strike: 3650000, Expiry: 1 << 16, Call: true}, quote{3650001, limit >> 16, 0}, over)
	checkUnit(t, api.Instr{Kind: api.Option, Strike: 3650000, Expiry: 1 << 16}, quote{3650001, limit >> 16, 0}, ok(limit))
}

// TestUnitOthers is P11.1 for the fields that are not examined: whatever they are, the value is the same.
func TestUnitOthers(t *testing.T) {
	for _, i := range []api.Instr{
		{Kind: api.Equity},
		{Kind: api.Future},
		{Kind: api.Option, Strike: 100, Expiry: 150, Call: true},
		{Kind: api.Option, Strike: 100, Expiry: 150},
		{Kind: api.Option, Strike: 100, Expiry: -1},
		{Kind: 4},
	} {
		want := unit(i, quote{104, 3650, 50})
		for _, x := range []int{least, -1, 0, 1, 6, 12, 1000001, top + 1, most} {
			for _, set := range []func(*api.Instr, int){
				func(i *api.Instr, x int) { i.Under = x },
				func(i *api.Instr, x int) { i.Mult = x },
				func(i *api.Instr, x int) { i.Mark = x },
				func(i *api.Instr, x int) { i.Under, i.Mult, i.Mark = x, x, x },
			} {
				other := i
				set(&other, x)
				checkUnit(t, other, quote{104, 3650, 50}, want)
			}
		}
	}
}

package grid

import (
	"slices"
	"testing"

	"bulwark/api"
	"bulwark/opt"
)

// outcome is what Units and Now answer, together.
type outcome struct {
	units  [21]int
	e      api.Errno
	now    int
	nowErr api.Errno
}

// valued are Units and Now of the instrument.
func valued(i api.Instr, u api.Under, day int) outcome {
	var o outcome
	o.units, o.e = Units(i, u, day)
	o.now, o.nowErr = Now(i, u, day)
	return o
}

// byRows are units, three for each shift of the price: those of Now are in the middle.
func byRows(rows [7][3]int) outcome {
	var o outcome
	s := 0
	for _, row := range rows {
		for _, x := range row {
			o.units[s] = x
			s++
		}
	}
	o.now = rows[3][1]
	return o
}

// byPrice are units that no volatility changes.
func byPrice(all ...int) outcome {
	var rows [7][3]int
	for n, x := range all {
		rows[n] = [3]int{x, x, x}
	}
	return byRows(rows)
}

// none is what both answer where there is an error: no number at all.
func none(e api.Errno) outcome { return outcome{e: e, nowErr: e} }

// check fails if the instrument has other units.
func check(t *testing.T, i api.Instr, u api.Under, day int, want outcome) {
	t.Helper()
	if x := valued(i, u, day); x != want {
		t.Errorf("%+v of %+v on day %d: %v, not %v", i, u, day, x, want)
	}
}

// share, future, call and put are instruments as they can be; the options have a strike of 100, and 100 days on day 50.
var (
	share  = api.Instr{Kind: 1, Under: 2, Mult: 7, Mark: 33}
	future = api.Instr{Kind: 2, Under: 1, Mult: 100, Expiry: 90, Mark: 101}
	call   = api.Instr{Kind: 3, Under: 3, Mult: 10, Strike: 100, Expiry: 150, Call: true, Mark: 12}
	put    = api.Instr{Kind: 3, Under: 4, Mult: 10, Strike: 100, Expiry: 150, Mark: 13}
	under  = api.Under{Name: "IBM", Cur: 1, Price: 100, Vol: 3650}
)

// quote is the underlying with another price and volatility.
func quote(price, vol int) api.Under {
	u := under
	u.Price, u.Vol = price, vol
	return u
}

// TestUnitsOfPrices is P12.1 for shares and futures: their units are the prices, on whatever day and with whatever volatility.
func TestUnitsOfPrices(t *testing.T) {
	for _, p := range movedPrices {
		for _, vol := range []int{0, 1, 3, 3650, 9999, topVol} {
			for _, day := range []int{0, 1, 89, 90, 91, last - 1, last} {
				check(t, share, quote(p.price, vol), day, byPrice(p.to[:]...))
				check(t, future, quote(p.price, vol), day, byPrice(p.to[:]...))
			}
		}
	}
	// The chapter's example.
	check(t, api.Instr{Kind: api.Equity}, api.Under{Price: 100}, 0, byPrice(80, 90, 95, 100, 105, 110, 120))
}

// TestUnitsOfOptions is P12.1 for options with a time value: in the scenarios it is at most 7, 10 and 12.
func TestUnitsOfOptions(t *testing.T) {
	check(t, call, under, 50, byRows([7][3]int{{0, 0, 2}, {2, 5, 7}, {5, 8, 10}, {7, 10, 12}, {10, 13, 15}, {12, 15, 17}, {20, 20, 22}}))
	check(t, put, under, 50, byRows([7][3]int{{20, 20, 22}, {12, 15, 17}, {10, 13, 15}, {7, 10, 12}, {5, 8, 10}, {2, 5, 7}, {0, 0, 2}}))
	// At 105 the prices are 84, 94, 99, 105, 110, 115 and 126.
	check(t, call, quote(105, 3650), 50, byRows([7][3]int{{0, 2, 4}, {4, 7, 9}, {7, 10, 12}, {10, 13, 15}, {12, 15, 17}, {15, 18, 20}, {26, 26, 26}}))
	check(t, put, quote(105, 3650), 50, byRows([7][3]int{{16, 18, 20}, {10, 13, 15}, {8, 11, 13}, {5, 8, 10}, {2, 5, 7}, {0, 3, 5}, {0, 0, 0}}))
	// With 150 days it is at most 11, 15 and 18 (11.2.., 15 and 18.7..).
	check(t, call, under, 0, byRows([7][3]int{{1, 5, 8}, {6, 10, 13}, {9, 13, 16}, {11, 15, 18}, {14, 18, 21}, {16, 20, 23}, {21, 25, 28}}))
	check(t, put, under, 0, byRows([7][3]int{{21, 25, 28}, {16, 20, 23}, {14, 18, 21}, {11, 15, 18}, {9, 13, 16}, {6, 10, 13}, {1, 5, 8}}))
}

// TestUnitsOfIntrinsics is P12.1 for options without a time value: they expire that day or did before, or the volatility is 0, or the price is far off.
func TestUnitsOfIntrinsics(t *testing.T) {
	for _, day := range []int{150, 151, 1000, last} {
		check(t, call, under, day, byPrice(0, 0, 0, 0, 5, 10, 20))
		check(t, put, under, day, byPrice(20, 10, 5, 0, 0, 0, 0))
		check(t, call, quote(105, topVol), day, byPrice(0, 0, 0, 5, 10, 15, 26))
		check(t, put, quote(105, topVol), day, byPrice(16, 6, 1, 0, 0, 0, 0))
	}
	check(t, call, quote(100, 0), 0, byPrice(0, 0, 0, 0, 5, 10, 20))
	check(t, put, quote(100, 0), 0, byPrice(20, 10, 5, 0, 0, 0, 0))
	check(t, call, quote(0, 3650), 50, byPrice(0, 0, 0, 0, 0, 0, 0))
	check(t, put, quote(0, 3650), 50, byPrice(100, 100, 100, 100, 100, 100, 100))
	check(t, call, quote(topPrice, 3650), 50, byPrice(799999999900, 899999999900, 949999999900, 999999999900, 1049999999900, 1099999999900, 1199999999900))
	check(t, put, quote(topPrice, 3650), 50, byPrice(0, 0, 0, 0, 0, 0, 0))
}

// TestUnitsAtBounds is P12.1 for options with strike, day and day of expiry at their bounds: the greatest units are amounts.
func TestUnitsAtBounds(t *testing.T) {
	option := func(strike, expiry int, isCall bool) api.Instr {
		return api.Instr{Kind: 3, Strike: strike, Expiry: expiry, Call: isCall}
	}
	check(t, option(0, last, true), quote(100, topVol), 0, byPrice(80, 90, 95, 100, 105, 110, 120))
	check(t, option(0, last, false), quote(100, topVol), 0, byPrice(0, 0, 0, 0, 0, 0, 0))
	check(t, option(topMark, last, false), quote(0, 0), 0, byPrice(topMark, topMark, topMark, topMark, topMark, topMark, topMark))
	check(t, option(topMark, 0, true), quote(topPrice, topVol), last, byPrice(0, 0, 0, 0, 0, 0, 0))
	check(t, option(topMark, last, false), quote(topPrice, topVol), last, byPrice(99200000000000, 99100000000000, 99050000000000, 99000000000000, 98950000000000, 98900000000000, 98800000000000))
	// The maximum time values are 102739726027397260, 136986301369863013 and 171232876712328767.
	great := [3]int{102739726027397260, 136986301369863013, 171232876712328767}
	gaps := [7]int{99200000000000, 99100000000000, 99050000000000, 99000000000000, 98950000000000, 98900000000000, 98800000000000}
	var calls, puts [7][3]int
	for n, gap := range gaps {
		for m, x := range great {
			calls[n][m], puts[n][m] = x-gap/2, x+gap-gap/2
		}
	}
	check(t, option(topMark, last, true), quote(topPrice, topVol), 0, byRows(calls))
	check(t, option(topMark, last, false), quote(topPrice, topVol), 0, byRows(puts))
	// With a day less they are smaller by 1027397260274, 1369863013698 and 1712328767123 and a fraction.
	for n, gap := range gaps {
		for m, x := range [3]int{102738698630136986, 136984931506849315, 171231164383561643} {
			calls[n][m], puts[n][m] = x-gap/2, x+gap-gap/2
		}
	}
	check(t, option(topMark, last, true), quote(topPrice, topVol), 1, byRows(calls))
	check(t, option(topMark, last-1, false), quote(topPrice, topVol), 0, byRows(puts))
}

// Numbers that are no kinds, and such beyond the bounds of a day and of a strike.
var (
	wrongKinds   = []int{least, least + 1, -limit, -1 << 32, -3, -2, -1, 0, 4, 5, 6, 1 << 32, 1<<32 + 1, 1<<32 + 2, 1<<32 + 3, limit, most - 1, most}
	wrongDays    = []int{least, least + 1, -limit, -1 << 32, -last, -2, -1, last + 1, last + 2, 1 << 32, limit, most - 1, most}
	wrongStrikes = []int{least, least + 1, -limit, -topMark, -2, -1, topMark + 1, topMark + 2, limit, most - 1, most}
)

// TestWrongKinds is P12.1 for instruments without a kind: ErrInstr stands ahead of whatever is wrong with the day, the strike and the day of expiry.
func TestWrongKinds(t *testing.T) {
	for _, kind := range wrongKinds {
		for _, i := range []api.Instr{share, future, call, put, {Expiry: -1}, {Strike: -1}, {Strike: least, Expiry: most}} {
			i.Kind = kind
			for _, u := range []api.Under{under, quote(0, 0), quote(topPrice, topVol), {}} {
				check(t, i, u, 50, none(api.ErrInstr))
				for _, day := range wrongDays {
					check(t, i, u, day, none(api.ErrInstr))
				}
			}
		}
	}
}

// TestWrongUnders is P12.1 for underlyings without a point: ErrArg stands ahead of whatever is wrong with the instrument.
func TestWrongUnders(t *testing.T) {
	wrong := []api.Instr{share, future, call, put, {}, {Kind: -1}, {Kind: 4}, {Kind: 3, Expiry: -1}, {Kind: 3, Expiry: last + 1}, {Kind: 3, Strike: -1}, {Kind: 3, Strike: topMark + 1}}
	for _, i := range wrong {
		for _, day := range []int{50, 0, -1, last + 1} {
			for _, price := range wrongPrices {
				check(t, i, quote(price, 3650), day, none(api.ErrArg))
				for _, vol := range wrongVols {
					check(t, i, quote(100, vol), day, none(api.ErrArg))
					check(t, i, quote(price, vol), day, none(api.ErrArg))
				}
			}
		}
	}
}

// TestWrongDays is P12.1 for days beyond their bounds: ErrArg of a share and a future too, and of an option ahead of what is wrong with its day of expiry.
func TestWrongDays(t *testing.T) {
	for _, day := range wrongDays {
		for _, u := range []api.Under{under, quote(0, 0), quote(topPrice, topVol)} {
			for _, i := range []api.Instr{share, future, call, put} {
				check(t, i, u, day, none(api.ErrArg))
				for _, expiry := range wrongDays {
					i.Expiry = expiry
					check(t, i, u, day, none(api.ErrArg))
				}
			}
		}
	}
}

// TestWrongOptions is P12.1 for options of which the day of expiry or the strike is beyond its bounds: ErrInstr of the one stands ahead of ErrArg of the other.
func TestWrongOptions(t *testing.T) {
	for _, i := range []api.Instr{call, put} {
		for _, day := range []int{0, 50, 150, last} {
			for _, strike := range wrongStrikes {
				i.Strike, i.Expiry = strike, 150
				check(t, i, under, day, none(api.ErrArg))
				for _, expiry := range wrongDays {
					i.Expiry = expiry
					check(t, i, under, day, none(api.ErrInstr))
				}
			}
			for _, expiry := range wrongDays {
				i.Strike, i.Expiry = 100, expiry
				check(t, i, under, day, none(api.ErrInstr))
				i.Strike = topMark
				check(t, i, quote(topPrice, topVol), day, none(api.ErrInstr))
			}
		}
	}
}

// TestNoPart is that fields of the instrument and of the underlying that play no part may be anything.
func TestNoPart(t *testing.T) {
	odd := []int{least, -topMark, -1, 0, 1, 3, last + 1, topMark + 1, limit, most}
	for _, i := range []api.Instr{share, future, call, put, {}, {Kind: 3, Expiry: -1}, {Kind: 3, Strike: -1}} {
		want := valued(i, under, 50)
		for _, x := range odd {
			for _, y := range odd {
				j, u := i, under
				j.Under, j.Mult, j.Mark = x, y, x
				u.Name, u.Cur = string(make([]byte, y&15)), y
				check(t, j, u, 50, want)
				u.Name, u.Cur = "not a name", x
				check(t, j, u, 50, want)
				if i.Kind != 3 {
					j.Strike, j.Expiry, j.Call = x, y, !i.Call
					check(t, j, u, 50, want)
				}
			}
		}
	}
}

// TestUnitsAgain is that nothing of one call is left in the next (rule 4), and that the numbers of one are the caller's to change.
func TestUnitsAgain(t *testing.T) {
	for range 3 {
		check(t, share, under, 50, byPrice(80, 90, 95, 100, 105, 110, 120))
		check(t, api.Instr{}, under, 50, none(api.ErrInstr))
		check(t, share, quote(-1, 0), 50, none(api.ErrArg))
		units, _ := Units(share, under, 50)
		clear(units[:])
		check(t, put, under, 150, byPrice(20, 10, 5, 0, 0, 0, 0))
	}
}

// overs are volatilities with the first scenario in which a call with a strike of 4 * 10^13 and MaxDay days, at a price of 5 * 10^13, has a value that is no amount: 4208163 is the greatest one whose maximum time value is an amount, and to that the half of the gap adds from 0 to 10^13, as much as a volatility of 9.1 more.
var overs = []struct{ vol, first int }{
	{0, 21},
	{3366523, 21},
	{3366524, 20},
	{3366525, 20},
	{3366526, 17},
	{3366527, 14},
	{3366528, 11},
	{3366529, 8},
	{3366530, 5},
	{3366531, 5},
	{3366532, 2},
	{4208163, 2},
	{4208164, 1},
	{5610885, 1},
	{5610886, 0},
	{topMark / 2, 0},
}

// TestUnitsOver is that beside the first error of a scenario nothing is told, also where those ahead of it have a value. No underlying that has a point brings that about (see TestNeverOver), so this looks behind the check of price and volatility.
func TestUnitsOver(t *testing.T) {
	i := api.Instr{Kind: 3, Strike: 40000000000000, Expiry: last, Call: true}
	for _, c := range overs {
		want := api.ErrOver
		if c.first == 21 {
			want = api.OK
		}
		units, e := unitsAt(i, 50000000000000, c.vol, 0)
		if e != want || (e == api.OK) != (units != [21]int{}) {
			t.Errorf("volatility %d: %v, %d", c.vol, units, e)
		}
		for s := range c.first {
			price, vol := point(50000000000000, c.vol, s)
			x, e := opt.Unit(i, price, vol, 0)
			if e != api.OK || want == api.OK && x != units[s] {
				t.Errorf("volatility %d, scenario %d: %d, %d", c.vol, s, x, e)
			}
		}
		if c.first < 21 {
			price, vol := point(50000000000000, c.vol, c.first)
			if _, e := opt.Unit(i, price, vol, 0); e != api.ErrOver {
				t.Errorf("volatility %d, scenario %d: %d", c.vol, c.first, e)
			}
		}
	}
}

// TestUnitsFirst is that of several scenarios' errors the first one's is told, behind the check of price and volatility: some prices and volatilities are too great for layer 11, some values are no amounts.
func TestUnitsFirst(t *testing.T) {
	for _, c := range []struct {
		strike, price, vol, expiry int
		want                       api.Errno
	}{
		{0, 83333333333334, 0, 1, api.OK},                       // times 1.2: 10^14 and a fraction
		{0, 83333333333335, 0, 1, api.ErrArg},                   // scenario 18
		{0, 125000000000000, 0, 1, api.ErrArg},                  // scenario 3
		{0, 125000000000002, 0, 1, api.ErrArg},                  // scenario 0
		{0, 5, 80000000000000, 1, api.OK},                       // times 1.25: 10^14
		{0, 5, 80000000000001, 1, api.ErrArg},                   // scenario 2
		{0, 5, 80000000000001, last, api.ErrOver},               // scenario 0
		{0, 125000000000000, 80000000000001, last, api.ErrOver}, // scenario 0, where the price is 10^14
		{0, 125000000000002, 80000000000001, last, api.ErrArg},  // where it is more
		{40000000000000, 90000000000000, 3366532, last, api.ErrOver},
		{40000000000000, 90000000000000, 1, last, api.ErrArg},
		{40000000000000, 130000000000000, 3366532, last, api.ErrArg},
	} {
		i := api.Instr{Kind: 3, Strike: c.strike, Expiry: c.expiry, Call: true}
		units, e := unitsAt(i, c.price, c.vol, 0)
		if e != c.want || e != api.OK && units != [21]int{} {
			t.Errorf("%+v: %v, %d", c, units, e)
		}
	}
}

// TestNeverOver is that no option of an underlying that has a point has a unit that is no amount: not the one with the greatest strike, volatility and time either.
func TestNeverOver(t *testing.T) {
	for _, isCall := range []bool{true, false} {
		for _, price := range []int{0, 1, topPrice / 2, topPrice - 1, topPrice} {
			for _, strike := range []int{topPrice, topMark / 2, topMark - 1, topMark} {
				i := api.Instr{Kind: 3, Strike: strike, Expiry: last, Call: isCall}
				o := valued(i, quote(price, topVol), 0)
				if o.e != api.OK || o.nowErr != api.OK || slices.Max(o.units[:]) > limit/20 {
					t.Errorf("%+v at %d: %v", i, price, o)
				}
			}
		}
	}
}

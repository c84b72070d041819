package opt

import (
	"math/rand"
	"slices"
	"testing"

	"bulwark/api"
)

// near are x and its neighbours, as far as they are from 0 to end.
func near(x, end int) []int {
	var all []int
	for y := x - 4; y <= x+4; y++ {
		if bounded(y, end) {
			all = append(all, y)
		}
	}
	return all
}

// ascending are the integers in order, each once.
func ascending(all []int) []int {
	slices.Sort(all)
	return slices.Compact(all)
}

// prices are those about 0, about the strike, where the time value becomes 0, about both bounds, and between.
func prices(o option) []int {
	gap := int(maximum(o).Int64()) * 2
	var all []int
	for _, x := range []int{0, o.strike, o.strike - gap, o.strike + gap, o.strike / 2, o.strike - gap/2, o.strike + gap/2, o.strike * 2, top} {
		all = append(all, near(x, top)...)
	}
	return ascending(all)
}

// bases are options of which one argument will be changed, with small maximum time values and great ones, rounded and not.
func bases() []option {
	all := []option{{0, 0, 0, 1}, {0, 0, 5000, 100}, {top, top, 50000, 1}, {top, 0, 1, 100}, {top, 0, 168326539, 1000}, {3650000, 0, limit >> 16, 1 << 16}}
	for _, strike := range []int{1, 2, 99, 100, 101, 36500, 1000000007} {
		for _, vol := range []int{0, 1, 365, 3649, 3650, 3651, 50000} {
			for _, days := range []int{-1, 0, 1, 2, 99, 100, 364, 365, last} {
				all = append(all, option{strike, 0, vol, days})
			}
		}
	}
	r := rand.New(rand.NewSource(6))
	for range 2000 {
		all = append(all, option{strike: size(r, top), vol: size(r, 50000), days: size(r, last)})
	}
	return all
}

// worth is an option with its values as a call and as a put.
type worth struct {
	option
	call, put int
}

// worths are those of the options that have both values.
func worths(t *testing.T, all []option) []worth {
	t.Helper()
	var with []worth
	for _, o := range all {
		call, put := valued(true, o), valued(false, o)
		if call.e == api.OK && put.e == api.OK {
			with = append(with, worth{o, call.x, put.x})
		} else if call.e != api.OK && call != over || put.e != api.OK && put != over {
			t.Fatalf("%+v: %v and %v", o, call, put)
		}
	}
	return with
}

// atPrices are the options like o at all its prices, ascending.
func atPrices(t *testing.T, o option) []worth {
	t.Helper()
	var all []option
	for _, price := range prices(o) {
		o.price = price
		all = append(all, o)
	}
	return worths(t, all)
}

// pairs visits every two of them, the one ahead first.
func pairs(all []worth, visit func(a, b worth)) {
	for j, b := range all {
		for _, a := range all[:j] {
			visit(a, b)
		}
	}
}

// TestPriceOrder is that a call has no smaller value at a greater price, and a put no greater one (P11.2).
func TestPriceOrder(t *testing.T) {
	tried := 0
	for _, o := range bases() {
		pairs(atPrices(t, o), func(a, b worth) {
			tried++
			if a.call > b.call || a.put < b.put {
				t.Fatalf("%+v, then %+v", a, b)
			}
		})
	}
	if tried < 500000 {
		t.Fatalf("only %d pairs have values", tried)
	}
}

// growing fails where an option that stands behind another one, like it but for more volatility or more days, has a smaller value.
func growing(t *testing.T, all []worth) int {
	t.Helper()
	tried := 0
	pairs(all, func(a, b worth) {
		tried++
		if a.call > b.call || a.put > b.put {
			t.Fatalf("%+v, then %+v", a, b)
		}
	})
	return tried
}

// gaps are prices of various gaps, beside the strike of o.
func gaps(o option) []int {
	var all []int
	for _, gap := range []int{0, 1, 2, 3, 50, 51, 1000, int(maximum(o).Int64()), 2 * int(maximum(o).Int64())} {
		for _, price := range []int{o.strike - gap, o.strike + gap} {
			if bounded(price, top) {
				all = append(all, price)
			}
		}
	}
	return ascending(all)
}

// TestVolOrder is that no option has a smaller value with a greater volatility (P11.2): by one and by more, across the one at which it begins to have a time value.
func TestVolOrder(t *testing.T) {
	tried := 0
	for _, o := range bases() {
		for _, price := range gaps(o) {
			o.price = price
			var all []option
			for _, vol := range ascending(slices.Concat(near(0, top), near(o.vol, top), near(2*o.vol, top), near(50000, top), near(top, top))) {
				o.vol = vol
				all = append(all, o)
			}
			tried += growing(t, worths(t, all))
		}
	}
	if tried < 500000 {
		t.Fatalf("only %d pairs have values", tried)
	}
}

// TestDaysOrder is that no option has a smaller value with more days to expiry (P11.2): by one and by more, from none and from less than none.
func TestDaysOrder(t *testing.T) {
	tried := 0
	for _, o := range bases() {
		for _, price := range gaps(o) {
			o.price = price
			days := []int{least, -last, -2, -1}
			for _, x := range []int{0, o.days, 2 * o.days, last} {
				days = append(days, near(x, last)...)
			}
			var all []option
			for _, n := range ascending(days) {
				o.days = n
				all = append(all, o)
			}
			tried += growing(t, worths(t, all))
		}
	}
	if tried < 500000 {
		t.Fatalf("only %d pairs have values", tried)
	}
}

// TestRuns is P11.2 step by step, over runs of prices, of volatilities and of days.
func TestRuns(t *testing.T) {
	inPrice := func(a, b worth) bool { return a.call <= b.call && a.put >= b.put }
	inOthers := func(a, b worth) bool { return a.call <= b.call && a.put <= b.put }
	for y := range 400 {
		judgeRun(t, func(x int) option { return option{200, x, 50 * y, 100} }, inPrice)
		judgeRun(t, func(x int) option { return option{200, y, 100 * x, 100} }, inOthers)
		judgeRun(t, func(x int) option { return option{200, y, 1000, x - 5} }, inOthers)
	}
}

// judgeRun fails where two of the first options that stand side by side aren't as holds says.
func judgeRun(t *testing.T, at func(int) option, holds func(a, b worth) bool) {
	t.Helper()
	var all []option
	for x := range 500 {
		all = append(all, at(x))
	}
	with := worths(t, all)
	for i := 1; i < len(with); i++ {
		if !holds(with[i-1], with[i]) {
			t.Fatalf("%+v, then %+v", with[i-1], with[i])
		}
	}
}

// TestIntrinsic is that an option has at least its intrinsic value, and exactly that without days to expiry (P11.2).
func TestIntrinsic(t *testing.T) {
	for _, base := range bases() {
		for _, w := range atPrices(t, base) {
			call, put := max(w.price-w.strike, 0), max(w.strike-w.price, 0)
			if w.call < call || w.put < put {
				t.Fatalf("%+v: the intrinsic values are %d and %d", w, call, put)
			}
			for _, days := range []int{least, -1, 0} {
				o := w.option
				o.days = days
				checkValues(t, []priced{{o, ok(call), ok(put)}})
			}
		}
	}
}

// TestParity is P11.3: a call less the put is the price less the strike, with days to expiry and without.
func TestParity(t *testing.T) {
	tried := 0
	for _, o := range bases() {
		for _, w := range atPrices(t, o) {
			tried++
			if w.call-w.put != w.price-w.strike {
				t.Fatalf("%+v", w)
			}
		}
	}
	r := rand.New(rand.NewSource(7))
	for range 200000 {
		for _, w := range worths(t, []option{{size(r, top), size(r, top), size(r, 50000), size(r, last) - 10}}) {
			tried++
			if w.call-w.put != w.price-w.strike {
				t.Fatalf("%+v", w)
			}
		}
	}
	if tried < 200000 {
		t.Fatalf("only %d options have values", tried)
	}
}

// TestOneMore is P11.4: at a price greater by one a call's value is greater by at most one, and a put's less by at most one.
func TestOneMore(t *testing.T) {
	tried := 0
	check := func(o option) {
		next := o
		next.price++
		pairs(worths(t, []option{o, next}), func(a, b worth) {
			tried++
			if b.call-a.call > 1 || a.put-b.put > 1 {
				t.Fatalf("%+v, then %+v", a, b)
			}
		})
	}
	for _, o := range bases() {
		for _, price := range prices(o) {
			if price < top {
				o.price = price
				check(o)
			}
		}
	}
	r := rand.New(rand.NewSource(8))
	for range 200000 {
		check(option{size(r, top), size(r, top-1), size(r, 50000), size(r, last) - 10})
	}
	if tried < 200000 {
		t.Fatalf("only %d pairs have values", tried)
	}
}

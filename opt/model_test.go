package opt

import (
	"math/big"
	"math/rand"
	"slices"
	"testing"

	"bulwark/api"
)

// integer is x without bounds.
func integer(x int) *big.Int { return big.NewInt(int64(x)) }

// isAmount reports whether x is one.
func isAmount(x *big.Int) bool { return x.CmpAbs(integer(limit)) <= 0 }

// bounded reports whether x is from 0 to end.
func bounded(x, end int) bool { return x >= 0 && x <= end }

// gapOf says the chapter's words on the gap.
func gapOf(call bool, o option) *big.Int {
	if call {
		return new(big.Int).Sub(integer(o.price), integer(o.strike))
	}
	return new(big.Int).Sub(integer(o.strike), integer(o.price))
}

// intrinsicOf says those on the intrinsic value.
func intrinsicOf(call bool, o option) *big.Int {
	if gap := gapOf(call, o); gap.Sign() > 0 {
		return gap
	}
	return integer(0)
}

// maximum says those on the maximum time value.
func maximum(o option) *big.Int {
	product := new(big.Int).Mul(integer(o.strike), integer(o.vol))
	product.Mul(product, integer(o.days))
	return product.Div(product, integer(10000*365))
}

// timeOf says those on the time value.
func timeOf(o option) *big.Int {
	half := new(big.Int).Abs(gapOf(true, o))
	half.Div(half, integer(2))
	if time := new(big.Int).Sub(maximum(o), half); time.Sign() > 0 {
		return time
	}
	return integer(0)
}

// answer says what Value answers.
func answer(call bool, o option) outcome {
	if !bounded(o.strike, top) || !bounded(o.price, top) || !bounded(o.vol, top) {
		return arg
	}
	intrinsic := intrinsicOf(call, o)
	if o.days <= 0 {
		return ok(int(intrinsic.Int64()))
	}
	if o.days > last {
		return arg
	}
	value := new(big.Int).Add(intrinsic, timeOf(o))
	for _, x := range []*big.Int{new(big.Int).Mul(integer(o.vol), integer(o.days)), maximum(o), value} {
		if !isAmount(x) {
			return over
		}
	}
	return ok(int(value.Int64()))
}

// unitAnswer says what Unit answers.
func unitAnswer(i api.Instr, q quote) outcome {
	if i.Kind < 1 || i.Kind > 3 {
		return instr
	}
	if !bounded(q.price, top) || !bounded(q.vol, top) || !bounded(q.day, last) {
		return arg
	}
	if i.Kind < 3 {
		return ok(q.price)
	}
	if !bounded(i.Expiry, last) {
		return instr
	}
	return answer(i.Call, option{i.Strike, q.price, q.vol, i.Expiry - q.day})
}

// judge fails if the call or the put has another value than the model's.
func judge(t *testing.T, o option) {
	t.Helper()
	for _, call := range []bool{true, false} {
		if x, want := valued(call, o), answer(call, o); x != want {
			t.Fatalf("call %v of %+v: %v, not %v", call, o, x, want)
		}
	}
}

// judgeUnit fails if the instrument has another value than the model's.
func judgeUnit(t *testing.T, i api.Instr, q quote) {
	t.Helper()
	if x, want := unit(i, q), unitAnswer(i, q); x != want {
		t.Fatalf("Unit of %+v with %+v: %v, not %v", i, q, x, want)
	}
}

// turns are the integers at which an answer of this package may turn, with their neighbours and opposites.
func turns() []int {
	var all []int
	for _, x := range []int{0, 100, 10000, 36500, 50000, last, 3650000, 1 << 31, 168326539672, limit >> 16, top / 2, top, limit / last, limit, most} {
		for _, y := range []int{x - 1, x, x + 1} { // the greatest one's neighbour is the least
			all = append(all, y, -y)
		}
	}
	slices.Sort(all)
	return slices.Compact(all)
}

// pick is one of the turns, or near one of them, or of any size.
func pick(r *rand.Rand, all []int) int {
	switch r.Intn(4) {
	case 0:
		return all[r.Intn(len(all))] + r.Intn(21) - 10
	case 1:
		return int(r.Uint64()) >> r.Intn(64)
	}
	return all[r.Intn(len(all))]
}

// size is a number from 0 to end, of any order of magnitude.
func size(r *rand.Rand, end int) int { return r.Intn(1 + end>>r.Intn(47)) }

// TestValueModel: every two of the four numbers at whatever matters, the others being small or great.
func TestValueModel(t *testing.T) {
	all := turns()
	for _, x := range all {
		for _, y := range all {
			for _, z := range []int{1, 100, last, top} {
				for _, o := range []option{{x, y, z, 100}, {x, z, y, 100}, {z, x, y, 100}, {x, z, 365, y}, {z, x, 365, y}, {z, z + 1, x, y}, {1, z, x, y}, {0, z, x, y}} {
					judge(t, o)
				}
			}
		}
	}
}

// TestValueSmall: every option of small strikes and prices, with maximum time values from none to more than any gap's half.
func TestValueSmall(t *testing.T) {
	for strike := range 31 {
		for price := range 81 {
			for _, vol := range []int{0, 60833, 121666, 121667, 365000, 1216667, 3650000, 4000001} {
				for days := -1; days <= 3; days++ {
					judge(t, option{strike, price, vol, days})
				}
			}
		}
	}
}

// TestValueDrawn: options of numbers of any size, valid and not.
func TestValueDrawn(t *testing.T) {
	r, all := rand.New(rand.NewSource(1)), turns()
	for range 200000 {
		judge(t, option{pick(r, all), pick(r, all), pick(r, all), pick(r, all)})
		judge(t, option{size(r, top), size(r, top), size(r, top), 1 + size(r, last-1)})
	}
}

// TestValueNear: drawn options with prices at which half of the gap is about the maximum time value.
func TestValueNear(t *testing.T) {
	r := rand.New(rand.NewSource(2))
	for range 200000 {
		o := option{strike: size(r, top), vol: size(r, 50000), days: 1 + size(r, last-1)}
		gap := 2*int(maximum(o).Int64()) + r.Intn(9) - 4
		o.price = o.strike + gap
		judge(t, o)
		o.price = o.strike - gap
		judge(t, o)
		o.price = o.strike + r.Intn(9) - 4
		judge(t, o)
	}
}

// volFor is the greatest volatility with which the maximum time value is an amount.
func volFor(strike, days int) int {
	vol := integer(limit)
	vol.Mul(vol.Add(vol, integer(1)), integer(3650000))
	vol.Sub(vol, integer(1))
	vol.Div(vol, new(big.Int).Mul(integer(strike), integer(days)))
	return int(vol.Int64())
}

// judgeAbout judges the option at drawn prices and at those about which half of the gap is as great as x, and counts its answers.
func judgeAbout(t *testing.T, r *rand.Rand, o option, x int, tried map[api.Errno]int) {
	t.Helper()
	for _, gap := range []int{2*x - 1, 2 * x, 2*x + 1, 2*x + 2, 2*x + 3, r.Intn(9), size(r, o.strike)} {
		for _, price := range []int{o.strike - gap, o.strike + gap} {
			o.price = min(max(price, 0), top)
			judge(t, o)
			tried[valued(true, o).e]++
			tried[valued(false, o).e]++
		}
	}
}

// TestValueGreat: drawn options whose V times n, maximum time value or value is about the greatest amount. Enough of them have a value, and enough have not.
func TestValueGreat(t *testing.T) {
	r := rand.New(rand.NewSource(3))
	tried := map[api.Errno]int{}
	for range 20000 {
		days := 46117 + r.Intn(last-46116)
		judgeAbout(t, r, option{strike: r.Intn(3), vol: limit/days + r.Intn(3) - 1, days: days}, 0, tried)
		days, strike := 1+size(r, 9), 1000000000000+size(r, top/2)
		o := option{strike: strike, vol: volFor(strike, days), days: days}
		judgeAbout(t, r, o, limit-int(maximum(o).Int64()), tried)
		o.vol += r.Intn(3) - 1
		judgeAbout(t, r, o, 0, tried)
	}
	if len(tried) != 2 || tried[api.OK] < 100000 || tried[api.ErrOver] < 100000 {
		t.Fatalf("the options drawn answered %v", tried)
	}
}

// fields set each of an instrument's numbers, and of a quote's.
var fields = []func(*api.Instr, *quote, int){
	func(i *api.Instr, q *quote, x int) { i.Kind = x },
	func(i *api.Instr, q *quote, x int) { i.Under = x },
	func(i *api.Instr, q *quote, x int) { i.Mult = x },
	func(i *api.Instr, q *quote, x int) { i.Strike = x },
	func(i *api.Instr, q *quote, x int) { i.Expiry = x },
	func(i *api.Instr, q *quote, x int) { i.Mark = x },
	func(i *api.Instr, q *quote, x int) { q.price = x },
	func(i *api.Instr, q *quote, x int) { q.vol = x },
	func(i *api.Instr, q *quote, x int) { q.day = x },
}

// TestUnitModel: an instrument of every kind with every two of the numbers changed to whatever matters.
func TestUnitModel(t *testing.T) {
	all := turns()
	for kind := range 5 {
		for f, first := range fields {
			for _, second := range fields[:f] {
				for _, x := range all {
					for _, y := range all {
						i, q := api.Instr{Kind: kind, Strike: 100, Expiry: 150, Call: true}, quote{104, 3650, 50}
						first(&i, &q, x)
						second(&i, &q, y)
						judgeUnit(t, i, q)
						i.Call = false
						judgeUnit(t, i, q)
					}
				}
			}
		}
	}
}

// TestUnitDrawn: instruments and quotes that are drawn, with some of their numbers changed.
func TestUnitDrawn(t *testing.T) {
	r, all := rand.New(rand.NewSource(5)), turns()
	for range 300000 {
		i := api.Instr{Kind: 1 + r.Intn(3), Under: r.Intn(6), Mult: r.Intn(100), Strike: size(r, top), Expiry: size(r, last), Call: r.Intn(2) == 0, Mark: size(r, top)}
		q := quote{size(r, top), size(r, 50000), size(r, last)}
		judgeUnit(t, i, q)
		for _, set := range fields {
			if r.Intn(5) == 0 {
				set(&i, &q, pick(r, all))
			}
		}
		judgeUnit(t, i, q)
	}
}

package grid

import (
	"math/big"
	"math/rand"
	"slices"
	"testing"

	"bulwark/api"
)

// integer is x without bounds.
func integer(x int) *big.Int { return big.NewInt(int64(x)) }

// bounded reports whether x is from 0 to end.
func bounded(x, end int) bool { return x >= 0 && x <= end }

// shiftsOf says the chapter's words on the shifts of a scenario.
func shiftsOf(s int) (int, int) {
	return []int{-2000, -1000, -500, 0, 500, 1000, 2000}[s/3], []int{-2500, 0, 2500}[s%3]
}

// moved says those on its point.
func moved(x, shift int) *big.Int {
	sum := new(big.Int).Add(integer(10000), integer(shift))
	product := new(big.Int).Mul(integer(x), sum)
	return product.Div(product, integer(10000))
}

// spotOf says what Point answers.
func spotOf(price, vol, s int) spot {
	if s < 0 || s > 20 || !bounded(price, topPrice) || !bounded(vol, topVol) {
		return noSpot
	}
	byPrice, byVol := shiftsOf(s)
	return spot{int(moved(price, byPrice).Int64()), int(moved(vol, byVol).Int64()), api.OK}
}

// valueOf says the words of layer 11 on an option whose strike, price and volatility are in their bounds; whether it has a value.
func valueOf(isCall bool, strike, price, vol, days int) (*big.Int, bool) {
	gap := new(big.Int).Sub(integer(price), integer(strike))
	if !isCall {
		gap.Neg(gap)
	}
	value := integer(max(int(gap.Int64()), 0))
	if days <= 0 {
		return value, true
	}
	time := new(big.Int).Mul(integer(vol), integer(days))
	fits := time.CmpAbs(integer(limit)) <= 0
	time.Mul(time, integer(strike))
	time.Div(time, integer(3650000))
	fits = fits && time.CmpAbs(integer(limit)) <= 0
	half := new(big.Int).Abs(gap)
	half.Div(half, integer(2))
	if time.Sub(time, half).Sign() > 0 {
		value.Add(value, time)
	}
	return value, fits && value.CmpAbs(integer(limit)) <= 0
}

// unitOf says what layer 11's Unit answers.
func unitOf(i api.Instr, price, vol, day int) (int, api.Errno) {
	if i.Kind < 1 || i.Kind > 3 {
		return 0, api.ErrInstr
	}
	if !bounded(price, topMark) || !bounded(vol, topMark) || !bounded(day, last) {
		return 0, api.ErrArg
	}
	if i.Kind < 3 {
		return price, api.OK
	}
	if !bounded(i.Expiry, last) {
		return 0, api.ErrInstr
	}
	if !bounded(i.Strike, topMark) {
		return 0, api.ErrArg
	}
	value, fits := valueOf(i.Call, i.Strike, price, vol, i.Expiry-day)
	if !fits {
		return 0, api.ErrOver
	}
	return int(value.Int64()), api.OK
}

// unitsOf says what Units answers.
func unitsOf(i api.Instr, u api.Under, day int) ([21]int, api.Errno) {
	var units [21]int
	for s := range 21 {
		at := spotOf(u.Price, u.Vol, s)
		if at.e != api.OK {
			return [21]int{}, at.e
		}
		x, e := unitOf(i, at.price, at.vol, day)
		if e != api.OK {
			return [21]int{}, e
		}
		units[s] = x
	}
	return units, api.OK
}

// nowOf says what Now answers.
func nowOf(i api.Instr, u api.Under, day int) (int, api.Errno) {
	if !bounded(u.Price, topPrice) || !bounded(u.Vol, topVol) {
		return 0, api.ErrArg
	}
	return unitOf(i, u.Price, u.Vol, day)
}

// judge fails if the instrument has other units than the model's; it returns the error.
func judge(t *testing.T, i api.Instr, u api.Under, day int) api.Errno {
	t.Helper()
	var want outcome
	want.units, want.e = unitsOf(i, u, day)
	want.now, want.nowErr = nowOf(i, u, day)
	if x := valued(i, u, day); x != want {
		t.Fatalf("%+v of %+v on day %d: %v, not %v", i, u, day, x, want)
	}
	return want.e
}

// judgePoint fails if the scenario has another point than the model's.
func judgePoint(t *testing.T, price, vol, s int) {
	t.Helper()
	if x, want := pointed(price, vol, s), spotOf(price, vol, s); x != want {
		t.Fatalf("Point(%d, %d, %d): %v, not %v", price, vol, s, x, want)
	}
}

// turns are the integers at which an answer of this package may turn, with their neighbours and opposites.
func turns() []int {
	var all []int
	for _, x := range []int{0, 3, 7, 10, 20, 100, 10000, topVol, 62500, last, 3650000, 1 << 32, topPrice / 2, topPrice, topPrice * 6 / 5, topMark, limit, most} {
		for _, y := range []int{x - 1, x, x + 1} { // the greatest one's neighbour is the least
			all = append(all, y, -y)
		}
	}
	slices.Sort(all)
	return slices.Compact(all)
}

// pick is one of the turns, or near one of them, or of any size.
func pick(r *rand.Rand, all []int) int {
	switch r.Intn(4) {
	case 0:
		return all[r.Intn(len(all))] + r.Intn(21) - 10
	case 1:
		return int(r.Uint64()) >> r.Intn(64)
	}
	return all[r.Intn(len(all))]
}

// size is a number from 0 to end, of any order of magnitude.
func size(r *rand.Rand, end int) int { return r.Intn(1 + end>>r.Intn(47)) }

// TestPointModel: each scenario, and others, with prices and volatilities at whatever matters, and with all small ones.
func TestPointModel(t *testing.T) {
	all := turns()
	for _, price := range all {
		for _, vol := range all {
			for _, s := range all {
				judgePoint(t, price, vol, s)
			}
			for s := range 23 {
				judgePoint(t, price, vol, s-1)
			}
		}
	}
	for x := range 10001 {
		for s := range 21 {
			judgePoint(t, x, topVol-x, s)
			judgePoint(t, topPrice-x, x, s)
		}
	}
}

// TestPointDrawn: points of drawn prices and volatilities, in their bounds and not.
func TestPointDrawn(t *testing.T) {
	r, all := rand.New(rand.NewSource(1)), turns()
	for range 200000 {
		judgePoint(t, size(r, topPrice), size(r, topVol), r.Intn(21))
		judgePoint(t, pick(r, all), pick(r, all), pick(r, all))
		judgePoint(t, pick(r, all), size(r, topVol), r.Intn(23)-1)
		judgePoint(t, size(r, topPrice), pick(r, all), r.Intn(23)-1)
	}
}

// fields set each of the numbers of an instrument, of an underlying, and a day.
var fields = []func(*api.Instr, *api.Under, *int, int){
	func(i *api.Instr, u *api.Under, day *int, x int) { i.Kind = x },
	func(i *api.Instr, u *api.Under, day *int, x int) { i.Under = x },
	func(i *api.Instr, u *api.Under, day *int, x int) { i.Mult = x },
	func(i *api.Instr, u *api.Under, day *int, x int) { i.Strike = x },
	func(i *api.Instr, u *api.Under, day *int, x int) { i.Expiry = x },
	func(i *api.Instr, u *api.Under, day *int, x int) { i.Mark = x },
	func(i *api.Instr, u *api.Under, day *int, x int) { u.Cur = x },
	func(i *api.Instr, u *api.Under, day *int, x int) { u.Price = x },
	func(i *api.Instr, u *api.Under, day *int, x int) { u.Vol = x },
	func(i *api.Instr, u *api.Under, day *int, x int) { *day = x },
}

// TestUnitsModel: an instrument of every kind with every two of the numbers changed to whatever matters.
func TestUnitsModel(t *testing.T) {
	all := turns()
	for _, base := range []api.Instr{share, future, call, put} {
		for f, one := range fields {
			for _, other := range fields[:f] {
				for _, x := range all {
					for _, y := range all {
						i, u, day := base, under, 50
						one(&i, &u, &day, x)
						other(&i, &u, &day, y)
						judge(t, i, u, day)
					}
				}
			}
		}
	}
}

// drawn is an instrument with its underlying and a day, each of them as it can be. Half of the strikes are about the price.
func drawn(r *rand.Rand) (api.Instr, api.Under, int) {
	i := api.Instr{Kind: 1 + r.Intn(3), Under: r.Intn(6), Mult: 1 + r.Intn(100), Strike: size(r, topMark), Expiry: size(r, last), Call: r.Intn(2) == 0, Mark: size(r, topMark)}
	u := api.Under{Name: "X", Cur: r.Intn(4), Price: size(r, topPrice), Vol: size(r, topVol)}
	if r.Intn(2) == 0 {
		i.Strike = u.Price * (7 + r.Intn(7)) / 10
	}
	return i, u, size(r, last)
}

// TestUnitsDrawn: instruments, underlyings and days that are drawn, as they are and with some of their numbers changed. Enough of them have units, and enough have each of the errors.
func TestUnitsDrawn(t *testing.T) {
	r, all := rand.New(rand.NewSource(2)), turns()
	tried := map[api.Errno]int{}
	for range 100000 {
		i, u, day := drawn(r)
		tried[judge(t, i, u, day)]++
		for _, set := range fields {
			if r.Intn(8) == 0 {
				set(&i, &u, &day, pick(r, all))
			}
		}
		tried[judge(t, i, u, day)]++
	}
	if len(tried) != 3 || tried[api.OK] < 100000 || tried[api.ErrArg] < 10000 || tried[api.ErrInstr] < 5000 {
		t.Fatalf("the instruments drawn answered %v", tried)
	}
}

// TestUnitsShort: drawn options with few days to expiry, and such that have just expired.
func TestUnitsShort(t *testing.T) {
	r := rand.New(rand.NewSource(3))
	for range 50000 {
		i, u, _ := drawn(r)
		i.Kind = api.Option
		for n := -2; n <= 3; n++ {
			if day := i.Expiry - n; bounded(day, last) {
				judge(t, i, u, day)
			}
		}
	}
}

// TestUnitsSmall: options of small strikes and prices.
func TestUnitsSmall(t *testing.T) {
	for strike := range 31 {
		for price := range 41 {
			for _, vol := range []int{0, 1, 3, 9999, topVol} {
				for _, expiry := range []int{0, 1, 73, 365, 1000} {
					for _, isCall := range []bool{true, false} {
						judge(t, api.Instr{Kind: 3, Strike: strike, Expiry: expiry, Call: isCall}, quote(price, vol), 0)
					}
				}
			}
		}
	}
}

package grid

import (
	"math/rand"
	"testing"

	"bulwark/api"
)

// underlyings are some with all prices and volatilities that matter, and with drawn ones.
func underlyings() []api.Under {
	var all []api.Under
	for _, p := range movedPrices {
		for _, v := range movedVols {
			all = append(all, quote(p.price, v.vol))
		}
	}
	r := rand.New(rand.NewSource(4))
	for range 1000 {
		all = append(all, quote(size(r, topPrice), size(r, topVol)))
	}
	return all
}

// kinds are a share, a future, a call and a put, the options with that strike and day of expiry.
func kinds(strike, expiry int) [4]api.Instr {
	return [4]api.Instr{
		{Kind: api.Equity},
		{Kind: api.Future, Expiry: expiry},
		{Kind: api.Option, Strike: strike, Expiry: expiry, Call: true},
		{Kind: api.Option, Strike: strike, Expiry: expiry},
	}
}

// visit visits instruments of all kinds with all the underlyings, the strikes far from the price and near it, with days to expiry and without.
func visit(t *testing.T, see func(i api.Instr, u api.Under, o outcome)) {
	t.Helper()
	for _, u := range underlyings() {
		for _, strike := range []int{0, 1, u.Price / 2, u.Price * 4 / 5, u.Price * 19 / 20, u.Price, u.Price + 1, u.Price * 11 / 10, u.Price * 3, topPrice, topMark} {
			for _, expiry := range []int{0, 50, 51, 150, 415, last} {
				for _, i := range kinds(strike, expiry) {
					o := valued(i, u, 50)
					if o.e != api.OK || o.nowErr != api.OK {
						t.Fatalf("%+v of %+v: %v", i, u, o)
					}
					see(i, u, o)
				}
			}
		}
	}
}

// TestCurrent is that scenario 10 is the current state (P12.2): its point has no shifts, and its units are those of Now.
func TestCurrent(t *testing.T) {
	for _, u := range underlyings() {
		if x := pointed(u.Price, u.Vol, 10); x != (spot{u.Price, u.Vol, api.OK}) {
			t.Fatalf("%+v: %v", u, x)
		}
	}
	for s, shifts := range All() {
		if (s == 10) != (shifts == [2]int{}) {
			t.Errorf("scenario %d has the shifts %v", s, shifts)
		}
	}
	visit(t, func(i api.Instr, u api.Under, o outcome) {
		if o.units[10] != o.now {
			t.Fatalf("%+v of %+v: %v", i, u, o)
		}
	})
}

// pairs are all pairs of scenarios that differ in the shift of the price alone, the one with the smaller shift first.
func pairs() [][2]int {
	var all [][2]int
	for a, less := range All() {
		for b, more := range All() {
			if less[1] == more[1] && less[0] < more[0] {
				all = append(all, [2]int{a, b})
			}
		}
	}
	return all
}

// TestPriceOrder is that in a scenario with a greater shift of the price alone a share, a future and a call have no smaller value, and a put no greater one (P12.2).
func TestPriceOrder(t *testing.T) {
	all := pairs()
	if len(all) != 63 {
		t.Fatalf("%d pairs", len(all))
	}
	rising, falling := 0, 0
	visit(t, func(i api.Instr, u api.Under, o outcome) {
		isPut := i.Kind == api.Option && !i.Call
		for _, p := range all {
			a, b := o.units[p[0]], o.units[p[1]]
			if a < b {
				rising++
			} else if a > b {
				falling++
			}
			if isPut && a < b || !isPut && a > b {
				t.Fatalf("%+v of %+v in scenarios %v: %d and %d", i, u, p, a, b)
			}
		}
	})
	if rising < 1000000 || falling < 100000 {
		t.Fatalf("only %d values rise, and %d fall", rising, falling)
	}
}

// TestVolOrder is that in a scenario with a greater shift of the volatility alone no option has a smaller value, and a share and a future have the same: the greater shift is behind the smaller one.
func TestVolOrder(t *testing.T) {
	visit(t, func(i api.Instr, u api.Under, o outcome) {
		for s := 0; s < 21; s += 3 {
			a, b, c := o.units[s], o.units[s+1], o.units[s+2]
			if a > b || b > c || i.Kind != api.Option && a != c {
				t.Fatalf("%+v of %+v from scenario %d on: %d, %d, %d", i, u, s, a, b, c)
			}
		}
	})
}

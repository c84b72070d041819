package grid

import (
	"math"
	"slices"
	"testing"

	"bulwark/api"
)

const (
	topPrice = 1000000000000   // MaxPrice
	topVol   = 50000           // MaxVol
	topMark  = 100000000000000 // MaxMark
	last     = 100000          // MaxDay
	limit    = 1 << 62         // the greatest amount
	most     = math.MaxInt
	least    = math.MinInt
)

// spot is what Point answers.
type spot struct {
	price, vol int
	e          api.Errno
}

// pointed is Point of the arguments.
func pointed(price, vol, s int) spot {
	p, v, e := Point(price, vol, s)
	return spot{p, v, e}
}

// noSpot is what Point answers where there is none.
var noSpot = spot{0, 0, api.ErrArg}

// movedPrices are prices with what the seven shifts make of them.
var movedPrices = []struct {
	price int
	to    [7]int
}{
	{0, [7]int{0, 0, 0, 0, 0, 0, 0}},
	{1, [7]int{0, 0, 0, 1, 1, 1, 1}},
	{2, [7]int{1, 1, 1, 2, 2, 2, 2}},
	{5, [7]int{4, 4, 4, 5, 5, 5, 6}},
	{7, [7]int{5, 6, 6, 7, 7, 7, 8}},
	{10, [7]int{8, 9, 9, 10, 10, 11, 12}},
	{19, [7]int{15, 17, 18, 19, 19, 20, 22}},
	{20, [7]int{16, 18, 19, 20, 21, 22, 24}},
	{100, [7]int{80, 90, 95, 100, 105, 110, 120}},
	{105, [7]int{84, 94, 99, 105, 110, 115, 126}},
	{9999, [7]int{7999, 8999, 9499, 9999, 10498, 10998, 11998}},
	{10000, [7]int{8000, 9000, 9500, 10000, 10500, 11000, 12000}},
	{10001, [7]int{8000, 9000, 9500, 10001, 10501, 11001, 12001}},
	{topPrice - 1, [7]int{799999999999, 899999999999, 949999999999, 999999999999, 1049999999998, 1099999999998, 1199999999998}},
	{topPrice, [7]int{800000000000, 900000000000, 950000000000, 1000000000000, 1050000000000, 1100000000000, 1200000000000}},
}

// movedVols are volatilities with what the three shifts make of them.
var movedVols = []struct {
	vol int
	to  [3]int
}{
	{0, [3]int{0, 0, 0}},
	{1, [3]int{0, 1, 1}},
	{2, [3]int{1, 2, 2}},
	{3, [3]int{2, 3, 3}},
	{4, [3]int{3, 4, 5}},
	{3650, [3]int{2737, 3650, 4562}},
	{9999, [3]int{7499, 9999, 12498}},
	{10000, [3]int{7500, 10000, 12500}},
	{10001, [3]int{7500, 10001, 12501}},
	{topVol - 1, [3]int{37499, 49999, 62498}},
	{topVol, [3]int{37500, 50000, 62500}},
}

// TestPoint is P12.1 for Point in each scenario, of prices and volatilities whose quotients are rounded down and of such whose are not.
func TestPoint(t *testing.T) {
	for _, p := range movedPrices {
		for _, v := range movedVols {
			s := 0
			for _, price := range p.to {
				for _, vol := range v.to {
					if x, want := pointed(p.price, v.vol, s), (spot{price, vol, api.OK}); x != want {
						t.Errorf("Point(%d, %d, %d): %v, not %v", p.price, v.vol, s, x, want)
					}
					s++
				}
			}
			if s != 21 {
				t.Fatalf("%d scenarios", s)
			}
		}
	}
}

// TestPointExample is the chapter's example.
func TestPointExample(t *testing.T) {
	if x, want := pointed(105, 3650, 0), (spot{84, 2737, api.OK}); x != want {
		t.Errorf("Point(105, 3650, 0): %v, not %v", x, want)
	}
}

// The numbers that are no scenarios, no prices and no volatilities.
var (
	wrongScens  = []int{least, least + 1, -limit, -1 << 32, -21, -20, -3, -2, -1, 21, 22, 23, 24, 42, 256, 1 << 32, 1<<32 + 10, limit, most - 1, most}
	wrongPrices = []int{least, least + 1, -limit, -topPrice, -10000, -2, -1, topPrice + 1, topPrice + 2, topMark, 1 << 50, limit, most - 1, most}
	wrongVols   = []int{least, least + 1, -limit, -topVol, -10000, -2, -1, topVol + 1, topVol + 2, topPrice, 1 << 50, limit, most - 1, most}
)

// boundSpots are points of the first and the last scenario at the bounds of price and volatility.
var boundSpots = []struct {
	price, vol, s int
	want          spot
}{
	{0, 0, 0, spot{0, 0, api.OK}},
	{0, topVol, 0, spot{0, 37500, api.OK}},
	{topPrice, 0, 0, spot{800000000000, 0, api.OK}},
	{topPrice, topVol, 0, spot{800000000000, 37500, api.OK}},
	{0, 0, 20, spot{0, 0, api.OK}},
	{0, topVol, 20, spot{0, 62500, api.OK}},
	{topPrice, 0, 20, spot{1200000000000, 0, api.OK}},
	{topPrice, topVol, 20, spot{1200000000000, 62500, api.OK}},
}

// TestPointBounds is P12.1 for Point with each argument beyond its bounds, by itself and together with others, and with all at them.
func TestPointBounds(t *testing.T) {
	none := func(price, vol, s int) {
		t.Helper()
		if x := pointed(price, vol, s); x != noSpot {
			t.Errorf("Point(%d, %d, %d): %v, not %v", price, vol, s, x, noSpot)
		}
	}
	for _, b := range boundSpots {
		if x := pointed(b.price, b.vol, b.s); x != b.want {
			t.Errorf("Point(%d, %d, %d): %v, not %v", b.price, b.vol, b.s, x, b.want)
		}
		for _, s := range wrongScens {
			none(b.price, b.vol, s)
			for _, price := range wrongPrices {
				none(price, b.vol, b.s)
				none(price, b.vol, s)
				for _, vol := range wrongVols {
					none(b.price, vol, b.s)
					none(b.price, vol, s)
					none(price, vol, b.s)
					none(price, vol, s)
				}
			}
		}
	}
}

// TestPointAgain is that nothing of one call is left in the next (rule 4).
func TestPointAgain(t *testing.T) {
	for range 3 {
		for _, b := range boundSpots {
			if x := pointed(b.price, b.vol, b.s); x != b.want {
				t.Errorf("Point(%d, %d, %d): %v, not %v", b.price, b.vol, b.s, x, b.want)
			}
			if x := pointed(b.price, b.vol, -1); x != noSpot {
				t.Errorf("Point(%d, %d, -1): %v", b.price, b.vol, x)
			}
		}
	}
}

// TestTouched is that the tables leave no quotient out: each shift of some price, and of some volatility, is rounded down, and of another one is not.
func TestTouched(t *testing.T) {
	exact := func(x, by int) bool { return x*(10000+by)%10000 == 0 }
	for _, by := range []int{-2000, -1000, -500, 500, 1000, 2000} {
		var kinds []bool
		for _, p := range movedPrices {
			kinds = append(kinds, exact(p.price, by))
		}
		if !slices.Contains(kinds, true) || !slices.Contains(kinds, false) {
			t.Errorf("prices shifted by %d: %v", by, kinds)
		}
	}
	for _, by := range []int{-2500, 2500} {
		var kinds []bool
		for _, v := range movedVols {
			kinds = append(kinds, exact(v.vol, by))
		}
		if !slices.Contains(kinds, true) || !slices.Contains(kinds, false) {
			t.Errorf("volatilities shifted by %d: %v", by, kinds)
		}
	}
}

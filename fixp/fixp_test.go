package fixp

import (
	"math"
	"math/big"
	"slices"
	"testing"

	"bulwark/api"
)

const (
	most  = 1 << 62
	least = -most
)

// outcome is what a call answers.
type outcome struct {
	x int
	e api.Errno
}

func got(x int, e api.Errno) outcome { return outcome{x, e} }

var over, arg = outcome{0, api.ErrOver}, outcome{0, api.ErrArg}

func ok(x int) outcome { return outcome{x, api.OK} }

// edges are the ints at which an answer may turn: nought, the limits, roots and factors of the limits, each with its neighbours and its opposite.
func edges() []int {
	var xs []int
	for _, x := range []int{0, 3, 7, 10000, 1 << 31, 1 << 32, 1 << 61, most / 3, most, math.MaxInt} {
		for _, y := range []int{x - 1, x, x + 1} { // MaxInt + 1 wraps to the least int
			xs = append(xs, y, -y)
		}
	}
	slices.Sort(xs)
	return slices.Compact(xs)
}

// amounts are the edges that are amounts.
func amounts() []int {
	return slices.DeleteFunc(edges(), func(x int) bool { return x < least || x > most })
}

// spread gives ints of all sizes and both signs, the same ones each time.
type spread uint64

func (s *spread) next() int {
	*s = *s*6364136223846793005 + 1442695040888963407
	x := uint64(*s)
	x ^= x >> 29
	return int(x*0x9E3779B97F4A7C15) >> (uint64(*s) >> 58)
}

func beyond(xs ...int) bool {
	return slices.ContainsFunc(xs, func(x int) bool { return x < least || x > most })
}

// wanted answers with x, an exact result, for these arguments.
func wanted(x *big.Int, args ...int) outcome {
	if beyond(args...) || new(big.Int).Abs(x).Cmp(big.NewInt(most)) > 0 {
		return over
	}
	return ok(int(x.Int64()))
}

// wantedDiv answers what MulDiv has to, out of the exact floor of the quotient.
func wantedDiv(a, b, c, mode int) outcome {
	switch {
	case beyond(a, b, c):
		return over
	case c == 0 || mode < 0 || mode > 3:
		return arg
	}
	product := new(big.Int).Mul(big.NewInt(int64(a)), big.NewInt(int64(b)))
	divisor := big.NewInt(int64(c))
	if c < 0 { // Euclidean division is the floor only for a divisor above 0
		product.Neg(product)
		divisor.Neg(divisor)
	}
	x, rest := new(big.Int).DivMod(product, divisor, new(big.Int))
	up := mode == 1 || mode == 2 && product.Sign() < 0 || mode == 3 && product.Sign() > 0
	if rest.Sign() != 0 && up {
		x.Add(x, big.NewInt(1))
	}
	return wanted(x)
}

func TestFits(t *testing.T) {
	for _, x := range []int{0, 1, -1, most, most - 1, least, least + 1} {
		if !Fits(x) {
			t.Errorf("%d is an amount", x)
		}
	}
	for _, x := range []int{most + 1, least - 1, math.MaxInt, math.MinInt, math.MinInt + 1} {
		if Fits(x) {
			t.Errorf("%d is not an amount", x)
		}
	}
}

func TestAdd(t *testing.T) {
	for _, c := range []struct {
		a, b int
		want outcome
	}{
		{0, 0, ok(0)},
		{2, 3, ok(5)},
		{2, -3, ok(-1)},
		{most, 0, ok(most)},
		{most, -1, ok(most - 1)},
		{most - 1, 1, ok(most)},
		{most, least, ok(0)},
		{least, 1, ok(least + 1)},
		{1 << 61, 1 << 61, ok(most)},
		{-1 << 61, -1 << 61, ok(least)},
		{1 << 61, 1<<61 + 1, over},
		{-1 << 61, -1<<61 - 1, over},
		{most, 1, over},
		{least, -1, over},
		{most, most, over},
		{least, least, over},
		{most + 1, -1, over},
		{-1, most + 1, over},
		{least - 1, 1, over},
		{1, least - 1, over},
		{math.MaxInt, math.MinInt, over},
		{math.MinInt, math.MinInt, over},
		{math.MinInt, math.MaxInt, over},
		{math.MinInt, 0, over},
		{0, math.MaxInt, over},
		{math.MaxInt, math.MaxInt, over},
	} {
		if x := got(Add(c.a, c.b)); x != c.want {
			t.Errorf("Add(%d, %d): %v, not %v", c.a, c.b, x, c.want)
		}
	}
}

func TestSub(t *testing.T) {
	for _, c := range []struct {
		a, b int
		want outcome
	}{
		{0, 0, ok(0)},
		{2, 3, ok(-1)},
		{3, 2, ok(1)},
		{2, -3, ok(5)},
		{0, most, ok(least)},
		{0, least, ok(most)},
		{most, most, ok(0)},
		{least, least, ok(0)},
		{-1, most - 1, ok(least)},
		{-1, most, over},
		{1, least, over},
		{1, least + 1, ok(most)},
		{most, -1, over},
		{least, 1, over},
		{most, least, over},
		{least, most, over},
		{most + 1, 1, over},
		{1, most + 1, over},
		{least - 1, -1, over},
		{-1, least - 1, over},
		{math.MinInt, math.MinInt, over},
		{0, math.MinInt, over},
		{-1, math.MinInt, over},
		{math.MaxInt, math.MaxInt, over},
	} {
		if x := got(Sub(c.a, c.b)); x != c.want {
			t.Errorf("Sub(%d, %d): %v, not %v", c.a, c.b, x, c.want)
		}
	}
}

func TestMul(t *testing.T) {
	for _, c := range []struct {
		a, b int
		want outcome
	}{
		{0, 0, ok(0)},
		{3, 4, ok(12)},
		{-3, 4, ok(-12)},
		{3, -4, ok(-12)},
		{-3, -4, ok(12)},
		{most, 1, ok(most)},
		{most, -1, ok(least)},
		{least, -1, ok(most)},
		{least, 0, ok(0)},
		{1 << 31, 1 << 31, ok(most)},
		{-1 << 31, 1 << 31, ok(least)},
		{1 << 31, 1 << 32, over},
		{1 << 31, 1<<31 + 1, over},
		{-1 << 31, 1<<31 + 1, over},
		{1<<31 + 1, 1<<31 - 1, ok(most - 1)},
		{1 << 61, 2, ok(most)},
		{1<<61 + 1, 2, over},
		{1 << 32, 1 << 32, over}, // 2^64 would wrap to 0
		{most, 4, over},
		{most, most, over},
		{least, least, over},
		{most, least, over},
		{0, most + 1, over},
		{most + 1, 0, over},
		{least - 1, 0, over},
		{0, math.MinInt, over},
		{math.MinInt, -1, over},
	} {
		if x := got(Mul(c.a, c.b)); x != c.want {
			t.Errorf("Mul(%d, %d): %v, not %v", c.a, c.b, x, c.want)
		}
	}
}

// TestMulDivRounding: each way to round, with every combination of signs, with a rest and without.
func TestMulDivRounding(t *testing.T) {
	for _, c := range []struct {
		a, b, c              int
		down, up, zero, away int
	}{
		{7, 3, 2, 10, 11, 10, 11},
		{7, 3, -2, -11, -10, -10, -11},
		{7, -3, 2, -11, -10, -10, -11},
		{7, -3, -2, 10, 11, 10, 11},
		{-7, 3, 2, -11, -10, -10, -11},
		{-7, 3, -2, 10, 11, 10, 11},
		{-7, -3, 2, 10, 11, 10, 11},
		{-7, -3, -2, -11, -10, -10, -11},
		{1, 1, 3, 0, 1, 0, 1},
		{-1, 1, 3, -1, 0, 0, -1},
		{1, 2, 3, 0, 1, 0, 1},
		{1, -2, 3, -1, 0, 0, -1},
		{6, 4, 3, 8, 8, 8, 8},
		{-6, 4, 3, -8, -8, -8, -8},
		{6, 4, -3, -8, -8, -8, -8},
		{-6, 4, -3, 8, 8, 8, 8},
		{0, 5, 3, 0, 0, 0, 0},
		{0, -5, -3, 0, 0, 0, 0},
		{1, 1, most, 0, 1, 0, 1},
		{1, -1, most, -1, 0, 0, -1},
		{1, -1, least, 0, 1, 0, 1},
		{most, most, most, most, most, most, most},
		{most, least, most, least, least, least, least},
		{least, least, least, least, least, least, least},
		{most - 1, most, most, most - 1, most - 1, most - 1, most - 1},
		{most - 1, most - 1, most, most - 2, most - 1, most - 2, most - 1},
		{most - 1, least + 1, most, least + 1, least + 2, least + 2, least + 1},
	} {
		for mode, want := range []int{c.down, c.up, c.zero, c.away} {
			if x := got(MulDiv(c.a, c.b, c.c, mode)); x != ok(want) {
				t.Errorf("MulDiv(%d, %d, %d, %d): %v, not %d", c.a, c.b, c.c, mode, x, want)
			}
		}
	}
}

// TestMulDivLimit: quotients that just are, or just are not, amounts before or after they are rounded.
func TestMulDivLimit(t *testing.T) {
	for _, c := range []struct {
		a, b, c              int
		down, up, zero, away outcome
	}{
		{most, 1, 1, ok(most), ok(most), ok(most), ok(most)},
		{least, 1, 1, ok(least), ok(least), ok(least), ok(least)},
		// A little less than 2^62, and a little less than 2^62 + 1
		{1<<61 + 1, 1<<62 - 2, 1 << 61, ok(most - 1), ok(most), ok(most - 1), ok(most)},
		{1<<61 + 1, 1<<62 - 1, 1 << 61, ok(most), over, ok(most), over},
		{1 << 61, 1 << 61, 1<<60 + 1, ok(most - 4), ok(most - 3), ok(most - 4), ok(most - 3)},
		{most - 1, 3, 3, ok(most - 1), ok(most - 1), ok(most - 1), ok(most - 1)},
		// 9223372036854775809 = 2^63 + 1 is 3 times 3074457345618258603: over 2 that is 2^62 and a half
		{3074457345618258603, 3, 2, ok(most), over, ok(most), over},
		{3074457345618258603, -3, 2, over, ok(least), ok(least), over},
		{-3074457345618258603, 3, 2, over, ok(least), ok(least), over},
		{3074457345618258603, 3, -2, over, ok(least), ok(least), over},
		{-3074457345618258603, -3, 2, ok(most), over, ok(most), over},
		// 2^63 - 1 is 7 times 1317624576693539401: over 2 that is 2^62 less a half
		{1317624576693539401, 7, 2, ok(most - 1), ok(most), ok(most - 1), ok(most)},
		{1317624576693539401, -7, 2, ok(least), ok(least + 1), ok(least + 1), ok(least)},
		// Quotients of 2^64, and beyond it
		{most, 4, 1, over, over, over, over},
		{most, 8, 2, over, over, over, over},
		{most, most, 1, over, over, over, over},
		{least, most, 1, over, over, over, over},
		{most, most, 1 << 60, over, over, over, over},
		{most, most, most - 1, over, over, over, over},
		{most, most, 1 - most, over, over, over, over},
		// 2^64 - 1 and a half, whose rounding would wrap to 0: 2^65 - 1 is 31 times 1190112520884487201
		{1190112520884487201, 31, 2, over, over, over, over},
		{1190112520884487201, -31, 2, over, over, over, over},
	} {
		for mode, want := range []outcome{c.down, c.up, c.zero, c.away} {
			if x := got(MulDiv(c.a, c.b, c.c, mode)); x != want {
				t.Errorf("MulDiv(%d, %d, %d, %d): %v, not %v", c.a, c.b, c.c, mode, x, want)
			}
		}
	}
}

// TestMulDivErrors: ErrOver of an argument stands ahead of ErrArg, and that ahead of ErrOver of the result.
func TestMulDivErrors(t *testing.T) {
	for _, c := range []struct {
		a, b, c, mode int
		want          outcome
	}{
		{1, 1, 0, 0, arg},
		{0, 0, 0, 0, arg},
		{1, 1, 0, 3, arg},
		{1, 1, 1, -1, arg},
		{1, 1, 1, 4, arg},
		{1, 1, 1, math.MaxInt, arg},
		{1, 1, 1, math.MinInt, arg},
		{1, 1, 0, 4, arg},
		{4, 1, 2, 4, arg}, // without a rest, too
		{0, 1, 2, -1, arg},
		{most, most, 0, 0, arg},
		{most, most, 1, 4, arg},
		{most, 4, 1, -1, arg},
		{most + 1, 1, 1, 0, over},
		{1, most + 1, 1, 0, over},
		{1, 1, most + 1, 0, over},
		{least - 1, 1, 1, 0, over},
		{1, least - 1, 1, 0, over},
		{1, 1, least - 1, 0, over},
		{math.MinInt, 1, 1, 0, over},
		{1, math.MinInt, 1, 0, over},
		{1, 1, math.MinInt, 0, over},
		{math.MaxInt, 1, math.MaxInt, 0, over},
		{0, math.MaxInt, 1, 0, over},
		{most + 1, 1, 0, 0, over},
		{1, most + 1, 0, 0, over},
		{most + 1, 1, 1, 4, over},
		{1, least - 1, 1, -1, over},
		{1, 1, most + 1, 4, over},
		{1, 1, math.MinInt, -1, over},
		{math.MinInt, math.MinInt, 0, 4, over},
	} {
		if x := got(MulDiv(c.a, c.b, c.c, c.mode)); x != c.want {
			t.Errorf("MulDiv(%d, %d, %d, %d): %v, not %v", c.a, c.b, c.c, c.mode, x, c.want)
		}
	}
}

func TestSum(t *testing.T) {
	for _, c := range []struct {
		xs   []int
		want outcome
	}{
		{nil, ok(0)},
		{[]int{}, ok(0)},
		{[]int{5}, ok(5)},
		{[]int{1, 2, -5}, ok(-2)},
		{[]int{most}, ok(most)},
		{[]int{least}, ok(least)},
		{[]int{most, -1, 1}, ok(most)},
		{[]int{most, least, least, most}, ok(0)},
		{[]int{-1, most, 1}, ok(most)},
		{[]int{most, 1, -1}, over}, // though the whole would be an amount
		{[]int{least, -1, 1}, over},
		{[]int{1, most, -1}, over},
		{[]int{most, most, least, least}, over},
		{[]int{most + 1}, over},
		{[]int{-1, most + 1}, over},
		{[]int{least - 1, 1}, over},
		{[]int{0, 0, math.MinInt}, over},
		{[]int{math.MinInt, math.MinInt}, over},
		{[]int{math.MaxInt, math.MinInt, 1}, over},
		{[]int{1, 1, most}, over},
		{[]int{5, most, 5}, over},
	} {
		if x := got(Sum(c.xs...)); x != c.want {
			t.Errorf("Sum(%d): %v, not %v", c.xs, x, c.want)
		}
	}
}

func TestProd(t *testing.T) {
	for _, c := range []struct {
		xs   []int
		want outcome
	}{
		{nil, ok(1)},
		{[]int{}, ok(1)},
		{[]int{5}, ok(5)},
		{[]int{0}, ok(0)},
		{[]int{3, -4}, ok(-12)},
		{[]int{-2, -3, -5}, ok(-30)},
		{[]int{most}, ok(most)},
		{[]int{least, -1}, ok(most)},
		{[]int{1 << 31, 1 << 31}, ok(most)},
		{[]int{1 << 31, -1 << 30, 2}, ok(least)},
		{[]int{0, most, most}, ok(0)},
		{[]int{most, 2, 0}, over}, // though the whole would be 0
		{[]int{1 << 31, 1 << 32, 0}, over},
		{[]int{1 << 32, 1 << 32, 1}, over},
		{[]int{0, most + 1}, over},
		{[]int{most + 1, 0}, over},
		{[]int{least - 1}, over},
		{[]int{1, 0, math.MinInt}, over},
		{[]int{math.MinInt, -1}, over},
		{[]int{2, most, 7}, over},
	} {
		if x := got(Prod(c.xs...)); x != c.want {
			t.Errorf("Prod(%d): %v, not %v", c.xs, x, c.want)
		}
	}
}

// TestChapterExamples: those of chapter 1.
func TestChapterExamples(t *testing.T) {
	for mode, want := range []int{10, 11, 10, 11} {
		if x := got(MulDiv(7, 3, 2, mode)); x != ok(want) {
			t.Errorf("7 times 3 over 2, mode %d: %v", mode, x)
		}
	}
	for mode, want := range []int{-11, -10, -10, -11} {
		if x := got(MulDiv(-7, 3, 2, mode)); x != ok(want) {
			t.Errorf("-7 times 3 over 2, mode %d: %v", mode, x)
		}
	}
	for _, c := range []struct{ have, want outcome }{
		{got(MulDiv(1<<62, 1<<62, 1<<62, api.Down)), ok(1 << 62)},
		{got(Add(1<<62, 1)), over},
		{got(Mul(1<<31, 1<<32)), over},
		{got(Add(1<<62+1, -1)), over},
		{got(MulDiv(1, 1, 0, 0)), arg},
	} {
		if c.have != c.want {
			t.Errorf("%v, not %v", c.have, c.want)
		}
	}
}

// TestDocumentExamples: the amounts in the document's examples 2, 3 and 7.
func TestDocumentExamples(t *testing.T) {
	for _, c := range []struct{ have, want outcome }{
		{got(MulDiv(51*100, 2000, api.Bps, api.Up)), ok(1020)}, // 51 shares at 100 lose a fifth
		{got(MulDiv(50*100, 2000, api.Bps, api.Up)), ok(1000)},
		{got(Prod(20, 99-100)), ok(-20)},
		{got(Sub(1000, -20)), ok(1020)},
		{got(MulDiv(20, 2, 1, api.Zero)), ok(40)}, // twice as many shares
		{got(MulDiv(40, 1, 2, api.Down)), ok(20)}, // at half the price
	} {
		if c.have != c.want {
			t.Errorf("%v, not %v", c.have, c.want)
		}
	}
}

// TestExact: every combination of edges against integers without a limit.
func TestExact(t *testing.T) {
	for _, a := range edges() {
		for _, b := range edges() {
			x, y := big.NewInt(int64(a)), big.NewInt(int64(b))
			for _, c := range []struct {
				name       string
				have, want outcome
			}{
				{"Add", got(Add(a, b)), wanted(new(big.Int).Add(x, y), a, b)},
				{"Sub", got(Sub(a, b)), wanted(new(big.Int).Sub(x, y), a, b)},
				{"Mul", got(Mul(a, b)), wanted(new(big.Int).Mul(x, y), a, b)},
				{"Sum", got(Sum(a, b)), wanted(new(big.Int).Add(x, y), a, b)},
				{"Prod", got(Prod(a, b)), wanted(new(big.Int).Mul(x, y), a, b)},
			} {
				if c.have != c.want {
					t.Fatalf("%s(%d, %d): %v, not %v", c.name, a, b, c.have, c.want)
				}
			}
			for _, c := range edges() {
				for mode := -1; mode <= 4; mode++ {
					have, want := got(MulDiv(a, b, c, mode)), wantedDiv(a, b, c, mode)
					if have != want {
						t.Fatalf("MulDiv(%d, %d, %d, %d): %v, not %v", a, b, c, mode, have, want)
					}
				}
			}
		}
	}
}

// TestExactSpread: the same for ints of all sizes between the edges.
func TestExactSpread(t *testing.T) {
	s := spread(1)
	for range 100000 {
		a, b, c := s.next(), s.next(), s.next()
		x, y := big.NewInt(int64(a)), big.NewInt(int64(b))
		if have, want := got(Add(a, b)), wanted(new(big.Int).Add(x, y), a, b); have != want {
			t.Fatalf("Add(%d, %d): %v, not %v", a, b, have, want)
		}
		if have, want := got(Sub(a, b)), wanted(new(big.Int).Sub(x, y), a, b); have != want {
			t.Fatalf("Sub(%d, %d): %v, not %v", a, b, have, want)
		}
		if have, want := got(Mul(a, b)), wanted(new(big.Int).Mul(x, y), a, b); have != want {
			t.Fatalf("Mul(%d, %d): %v, not %v", a, b, have, want)
		}
		for mode := range 4 {
			if have, want := got(MulDiv(a, b, c, mode)), wantedDiv(a, b, c, mode); have != want {
				t.Fatalf("MulDiv(%d, %d, %d, %d): %v, not %v", a, b, c, mode, have, want)
			}
		}
	}
}

// TestFoldSteps: Sum and Prod answer what Add and Mul do, one argument after the other.
func TestFoldSteps(t *testing.T) {
	s := spread(2)
	for range 20000 {
		xs := []int{s.next(), s.next() >> 1, s.next(), s.next() >> 40}
		sum, prod := ok(0), ok(1)
		for _, x := range xs {
			if sum.e == api.OK {
				sum = got(Add(sum.x, x))
			}
			if prod.e == api.OK {
				prod = got(Mul(prod.x, x))
			}
		}
		if x := got(Sum(xs...)); x != sum {
			t.Fatalf("Sum(%d): %v, not %v", xs, x, sum)
		}
		if x := got(Prod(xs...)); x != prod {
			t.Fatalf("Prod(%d): %v, not %v", xs, x, prod)
		}
	}
}

// TestWaysToRound: Down and Up stand at most one apart, and Zero and Away are each one of them.
func TestWaysToRound(t *testing.T) {
	for _, a := range amounts() {
		for _, b := range amounts() {
			for _, c := range amounts() {
				down, up := got(MulDiv(a, b, c, api.Down)), got(MulDiv(a, b, c, api.Up))
				zero, away := got(MulDiv(a, b, c, api.Zero)), got(MulDiv(a, b, c, api.Away))
				if down.e == api.OK && up.e == api.OK && (down.x > up.x || up.x-down.x > 1) {
					t.Fatalf("%d times %d over %d: Down %v, Up %v", a, b, c, down, up)
				}
				if zero != down && zero != up || away != down && away != up {
					t.Fatalf("%d times %d over %d: Down %v, Up %v, Zero %v, Away %v", a, b, c, down, up, zero, away)
				}
				if zero.e == api.OK && away.e == api.OK && (zero.x > 0 && away.x < zero.x || zero.x < 0 && away.x > zero.x) {
					t.Fatalf("%d times %d over %d: Zero %v, Away %v", a, b, c, zero, away)
				}
			}
		}
	}
}

// TestOrderAndUndoing: Add and Mul don't depend on the order of their arguments, and Sub inverts Add.
func TestOrderAndUndoing(t *testing.T) {
	for _, a := range edges() {
		for _, b := range edges() {
			sum := got(Add(a, b))
			if sum != got(Add(b, a)) {
				t.Fatalf("Add of %d and %d depends on their order", a, b)
			}
			if got(Mul(a, b)) != got(Mul(b, a)) {
				t.Fatalf("Mul of %d and %d depends on their order", a, b)
			}
			if sum.e == api.OK && (got(Sub(sum.x, b)) != ok(a) || got(Sub(sum.x, a)) != ok(b)) {
				t.Fatalf("Sub doesn't invert Add of %d and %d", a, b)
			}
		}
	}
}

// TestRecoverable: what MulDiv rounds Down, times c, lacks at least 0 and less than c of a times b; for a negative c the rest has c's sign.
func TestRecoverable(t *testing.T) {
	for _, a := range amounts() {
		for _, b := range amounts() {
			for _, c := range amounts() {
				x, e := MulDiv(a, b, c, api.Down)
				if e != api.OK {
					continue
				}
				divisor := big.NewInt(int64(c))
				rest := new(big.Int).Mul(big.NewInt(int64(a)), big.NewInt(int64(b)))
				rest.Sub(rest, new(big.Int).Mul(big.NewInt(int64(x)), divisor))
				if rest.Sign()*divisor.Sign() < 0 || rest.CmpAbs(divisor) >= 0 {
					t.Fatalf("%d times %d over %d: %d leaves %v", a, b, c, x, rest)
				}
			}
		}
	}
}

// TestArgumentsStay: Sum and Prod leave their arguments, and what lies behind them, as they were, and answer the same again.
func TestArgumentsStay(t *testing.T) {
	for _, all := range [][]int{
		{2, 3, -4, 77, 78},
		{most, 1, -1, 77, 78},
		{most, 2, 0, 77, 78},
		{math.MinInt, math.MaxInt, 0, 77, 78},
	} {
		xs := slices.Clone(all)
		sum, prod := got(Sum(xs[:3]...)), got(Prod(xs[:3]...))
		if !slices.Equal(xs, all) {
			t.Errorf("%d became %d", all, xs)
		}
		if sum != got(Sum(xs[:3]...)) || prod != got(Prod(xs[:3]...)) {
			t.Errorf("%d: another answer the second time", all)
		}
	}
}

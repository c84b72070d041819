package ref

import (
	"math/big"
	"math/rand"
	"regexp"
	"slices"
	"testing"

	"bulwark/api"
)

var nameForm = regexp.MustCompile(`\A[A-Z]{1,8}\z`)

// validCur says the chapter's paragraph on currencies.
func validCur(c api.Cur, n int) bool {
	rates := c.Rate >= 1 && c.Rate <= 1000000000000
	if n == 0 {
		rates = c.Rate == 1000000
	}
	return rates && c.Hair >= 0 && c.Hair <= 10000
}

// validUnder says the chapter's paragraph on underlyings.
func validUnder(u api.Under, curs int) bool {
	wrong := u.Cur < 0 || u.Cur >= curs || u.Price < 1 || u.Price > 1000000000000 || u.Vol < 0 || u.Vol > 50000
	return !wrong && nameForm.MatchString(u.Name)
}

// validInstr says the chapter's paragraph on instruments.
func validInstr(i api.Instr, unders int) bool {
	common := i.Under >= 0 && i.Under < unders && i.Mult >= 1 && i.Mult <= 1000000 && i.Mark >= 0 && i.Mark <= 100000000000000
	expires := i.Expiry >= 1 && i.Expiry <= 100000
	strikes := i.Strike >= 1 && i.Strike <= 1000000000000
	isEquity := i.Kind == 1 && i == api.Instr{Kind: 1, Under: i.Under, Mult: i.Mult, Mark: i.Mark}
	isFuture := i.Kind == 2 && expires && i == api.Instr{Kind: 2, Under: i.Under, Mult: i.Mult, Expiry: i.Expiry, Mark: i.Mark}
	isOption := i.Kind == 3 && expires && strikes
	return common && (isEquity || isFuture || isOption)
}

// amount answers with x, if it is an amount.
func amount(x *big.Int) outcome {
	if x.CmpAbs(big.NewInt(limit)) > 0 {
		return over
	}
	return ok(int(x.Int64()))
}

// rounded is x, rounded as mode says.
func rounded(x *big.Rat, mode int) *big.Int {
	lower, rest := new(big.Int).DivMod(x.Num(), x.Denom(), new(big.Int))
	up := mode == 1 || mode == 2 && x.Sign() < 0 || mode == 3 && x.Sign() > 0
	if rest.Sign() != 0 && up {
		lower.Add(lower, big.NewInt(1))
	}
	return lower
}

// value is what an amount of the currency is in the base currency, unrounded.
func value(c api.Cur, x int) *big.Rat {
	rate := new(big.Rat).SetFrac64(int64(c.Rate), 1000000)
	return rate.Mul(rate, new(big.Rat).SetInt64(int64(x)))
}

// based says what Base answers.
func based(c api.Cur, x int, mode int) outcome {
	switch {
	case !validCur(c, 1):
		return cur
	case x < -limit || x > limit:
		return over
	case mode < 0 || mode > 3:
		return arg
	}
	return amount(rounded(value(c, x), mode))
}

// worth says what Worth answers.
func worth(c api.Cur, x int) outcome {
	first := based(c, x, 0)
	if first.e != api.OK {
		return first
	}
	part := int64(10000 - c.Hair)
	if first.x < 0 {
		part = int64(10000 + c.Hair)
	}
	kept := new(big.Rat).SetFrac64(part, 10000)
	return amount(rounded(kept.Mul(kept, new(big.Rat).SetInt64(int64(first.x))), 0))
}

// turns are the integers at which an answer of this package may turn, with their neighbours and opposites.
func turns() []int {
	var all []int
	for _, x := range []int{0, 3, 6, 10000, 50000, 100000, 1000000, 1500000, 2000000, 1 << 32, 1000000000000, 4611686018427, 100000000000000, limit / 2, 3074457345618258603, 4611224895937794124, 4611681406745981159, limit, most} {
		for _, y := range []int{x - 1, x, x + 1} { // the greatest one's neighbour is the least
			all = append(all, y, -y)
		}
	}
	slices.Sort(all)
	return slices.Compact(all)
}

// pick is one of the turns, or near one of them, or of any size.
func pick(r *rand.Rand, all []int) int {
	switch r.Intn(4) {
	case 0:
		return all[r.Intn(len(all))] + r.Intn(21) - 10
	case 1:
		return int(r.Uint64()) >> r.Intn(64)
	}
	return all[r.Intn(len(all))]
}

// TestCurModel: every pair of a rate and a haircut, with numbers of every kind.
func TestCurModel(t *testing.T) {
	all := turns()
	for _, rate := range all {
		for _, hair := range all {
			c := api.Cur{Rate: rate, Hair: hair}
			for _, n := range numbers {
				if x := Cur(c, n); x != validCur(c, n) {
					t.Fatalf("Cur(%+v, %d) is %v", c, n, x)
				}
			}
		}
	}
}

// TestUnderModel: every pair of two numbers, the others being valid, with names and without, and drawn ones.
func TestUnderModel(t *testing.T) {
	all := turns()
	check := func(u api.Under, curs int) {
		if x := Under(u, curs); x != validUnder(u, curs) {
			t.Fatalf("Under(%+v, %d) is %v", u, curs, x)
		}
	}
	for _, x := range all {
		for _, y := range all {
			for _, name := range []string{"A", "ABCDEFGH", "", "ABCDEFGHI", "a", "A\xff"} {
				check(api.Under{Name: name, Cur: x, Price: 1}, y)
				check(api.Under{Name: name, Price: x, Vol: y}, 1)
				check(api.Under{Name: name, Price: x, Cur: y}, 3)
				check(api.Under{Name: name, Price: 1, Vol: x, Cur: y}, 4)
			}
		}
	}
	r := rand.New(rand.NewSource(1))
	for range 200000 {
		u := api.Under{Name: names[r.Intn(len(names))].s, Cur: r.Intn(6) - 1, Price: pick(r, all), Vol: pick(r, all)}
		check(u, r.Intn(6)-1)
	}
}

// fields set each of an instrument's numbers.
var fields = []func(*api.Instr, int){
	func(i *api.Instr, x int) { i.Kind = x },
	func(i *api.Instr, x int) { i.Under = x },
	func(i *api.Instr, x int) { i.Mult = x },
	func(i *api.Instr, x int) { i.Strike = x },
	func(i *api.Instr, x int) { i.Expiry = x },
	func(i *api.Instr, x int) { i.Mark = x },
}

// TestInstrModel: each valid instrument with every two of its fields changed to whatever matters, with Call and without, and drawn ones.
func TestInstrModel(t *testing.T) {
	all := turns()
	check := func(i api.Instr, unders int) {
		if x := Instr(i, unders); x != validInstr(i, unders) {
			t.Fatalf("Instr(%+v, %d) is %v", i, unders, x)
		}
	}
	for _, v := range valid {
		for f, first := range fields {
			for _, second := range fields[:f] {
				for _, x := range all {
					for _, y := range all {
						i := v.i
						first(&i, x)
						second(&i, y)
						check(i, 3)
						i.Call = !i.Call
						check(i, 3)
					}
				}
			}
		}
	}
	r := rand.New(rand.NewSource(2))
	for range 500000 {
		i := valid[r.Intn(len(valid))].i
		for _, set := range fields {
			if r.Intn(3) == 0 {
				set(&i, pick(r, all))
			}
		}
		i.Call = i.Call != (r.Intn(4) == 0)
		check(i, r.Intn(9)-2)
	}
}

// TestInstrUndersModel: every pair of an underlying and a number of them.
func TestInstrUndersModel(t *testing.T) {
	all := turns()
	for _, v := range valid {
		for _, unders := range all {
			for _, under := range all {
				i := v.i
				i.Under = under
				if x := Instr(i, unders); x != validInstr(i, unders) {
					t.Fatalf("Instr(%+v, %d) is %v", i, unders, x)
				}
			}
		}
	}
}

// checkMoney compares Base, in every mode and in some that are none, and Worth with what they have to answer.
func checkMoney(t *testing.T, c api.Cur, x int) {
	t.Helper()
	for _, mode := range []int{0, 1, 2, 3, -1, 4, most, least} {
		if a, b := got(Base(c, x, mode)), based(c, x, mode); a != b {
			t.Fatalf("Base(%+v, %d, %d): %v, not %v", c, x, mode, a, b)
		}
	}
	if a, b := got(Worth(c, x)), worth(c, x); a != b {
		t.Fatalf("Worth(%+v, %d): %v, not %v", c, x, a, b)
	}
}

// TestMoneyModel: amounts at every edge, of currencies at every edge, valid and not, and drawn ones.
func TestMoneyModel(t *testing.T) {
	all := turns()
	for _, rate := range []int{least, -1, 0, 1, 2, 999999, 1000000, 1000001, 1500000, 2000000, 999999999999, 1000000000000, 1000000000001, most} {
		for _, hair := range []int{least, -1, 0, 1, 1000, 5000, 9999, 10000, 10001, most} {
			for _, x := range all {
				checkMoney(t, api.Cur{Rate: rate, Hair: hair}, x)
			}
		}
	}
	r := rand.New(rand.NewSource(3))
	for range 50000 {
		rate := 1 + int(r.Uint64()>>(24+r.Intn(40)))%1000000000000
		checkMoney(t, api.Cur{Rate: rate, Hair: r.Intn(10001)}, pick(r, all))
	}
}

// TestMoneyLimit: amounts about the one whose value, or whose Worth, is no amount any more.
func TestMoneyLimit(t *testing.T) {
	r := rand.New(rand.NewSource(4))
	for range 2000 {
		rate := 1000000 + int(r.Uint64()>>(24+r.Intn(40)))%999999000001
		hair := []int{0, 1, 1000, 9999, 10000, r.Intn(10001)}[r.Intn(6)]
		last := new(big.Int).Mul(big.NewInt(limit), big.NewInt(1000000))
		last.Div(last, big.NewInt(int64(rate)))
		debt := new(big.Int).Mul(last, big.NewInt(10000))
		debt.Div(debt, big.NewInt(int64(10000+hair)))
		for near := -2; near <= 2; near++ {
			for _, x := range []int{int(last.Int64()), int(debt.Int64())} {
				checkMoney(t, api.Cur{Rate: rate, Hair: hair}, x+near)
				checkMoney(t, api.Cur{Rate: rate, Hair: hair}, -x+near)
			}
		}
	}
}

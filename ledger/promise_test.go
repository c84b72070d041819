package ledger

import (
	"math/big"
	"math/rand"
	"testing"

	"bulwark/api"
)

// sumOf is the cash of all accounts in a currency, without limits.
func sumOf(l api.Ledger, cur int) *big.Int {
	sum := new(big.Int)
	for _, a := range l.Accts {
		sum.Add(sum, whole(a.Cash[cur]))
	}
	return sum
}

// paying pays, and fails unless that leads from a valid ledger to a valid one with the same sums, in which nothing but the cash of the two accounts has changed.
func paying(t *testing.T, l api.Ledger, cur, amount, from, to int) (api.Ledger, api.Errno) {
	t.Helper()
	p, e := checkPay(t, l, cur, amount, from, to)
	if e != api.OK {
		return l, e
	}
	if !Good(p) || !valid(p) {
		t.Fatalf("Pay(%+v, %d, %d, %d, %d): %+v", l, cur, amount, from, to, p)
	}
	for c := range l.Curs {
		before, was := Total(l, c)
		behind, is := Total(p, c)
		if was == api.OK && is == api.OK && before != behind || c != cur && was != is || sumOf(l, c).Cmp(sumOf(p, c)) != 0 {
			t.Fatalf("Pay(%+v, %d, %d, %d, %d): Total of %d is %d, %d, not %d, %d", l, cur, amount, from, to, c, behind, is, before, was)
		}
	}
	back := apart(p)
	back.Accts[from].Cash[cur], back.Accts[to].Cash[cur] = l.Accts[from].Cash[cur], l.Accts[to].Cash[cur]
	checkSame(t, "all else", back, l, true)
	if from == to || amount == 0 {
		checkSame(t, "nothing was paid", p, l, true)
	} else if p.Accts[from].Cash[cur] != l.Accts[from].Cash[cur]-amount || p.Accts[to].Cash[cur] != l.Accts[to].Cash[cur]+amount {
		t.Fatalf("Pay(%+v, %d, %d, %d, %d): %+v", l, cur, amount, from, to, p)
	}
	return p, api.OK
}

// TestPayWalk is P15.2: through many payments from drawn valid ledgers.
func TestPayWalk(t *testing.T) {
	r := rand.New(rand.NewSource(1520))
	count := map[api.Errno]int{}
	told := 0
	for range 300 {
		l := anyValid(r)
		if r.Intn(2) == 0 {
			for v := range l.Accts {
				for c := range l.Curs {
					l.Accts[v].Cash[c] >>= 5 + r.Intn(50)
				}
			}
		}
		first := apart(l)
		for range 60 {
			cur, from, to := r.Intn(len(l.Curs)), r.Intn(len(l.Accts)), r.Intn(len(l.Accts))
			amount := anyAmount(r) >> r.Intn(40)
			switch r.Intn(6) {
			case 0:
				amount = l.Accts[from].Cash[cur]
			case 1:
				amount = top - l.Accts[to].Cash[cur] + r.Intn(3) - 1
			case 2:
				amount = top + l.Accts[from].Cash[cur] + r.Intn(3) - 1
			}
			var e api.Errno
			l, e = paying(t, l, cur, amount, from, to)
			count[e]++
		}
		for c := range l.Curs {
			before, was := Total(first, c)
			behind, is := Total(l, c)
			if was == api.OK && is == api.OK {
				told++
				if before != behind {
					t.Fatalf("Total of %d is %d, not %d", c, behind, before)
				}
			}
		}
	}
	if count[api.OK] < 5000 || count[api.ErrOver] < 1000 || told < 200 || len(count) != 2 {
		t.Errorf("only %v, and %d", count, told)
	}
}

// TestPaySmall is P15.2 for all payments of few amounts in a small ledger, twice behind one another.
func TestPaySmall(t *testing.T) {
	l := sized(sizes{curs: 2, accts: 3})
	l.Accts[0].Cash, l.Accts[1].Cash, l.Accts[2].Cash = []int{top, 0}, []int{-top, 5}, []int{-3, -top + 1}
	amounts := []int{-top, -2, 0, 1, top}
	for from := range 3 {
		for to := range 3 {
			for cur := range 2 {
				for _, amount := range amounts {
					p, _ := paying(t, l, cur, amount, from, to)
					for n := range 9 * len(amounts) {
						paying(t, p, cur, amounts[n%len(amounts)], n/len(amounts)%3, n/len(amounts)/3)
					}
				}
			}
		}
	}
}

// TestSameThree is P15.3 for drawn ledgers in threes, many of which are the same: each the same as itself, in either order, and through a third one.
func TestSameThree(t *testing.T) {
	r := rand.New(rand.NewSource(1530))
	count := map[int]int{}
	for range 10000 {
		var three [3]api.Ledger
		three[0] = anyLedger(r)
		for k := 1; k < 3; k++ {
			three[k] = Copy(three[r.Intn(k)])
			if r.Intn(2) == 0 {
				spoil(r, &three[k])
			}
			if r.Intn(10) == 0 {
				three[k] = anyLedger(r)
			}
		}
		n := 0
		for j := range three {
			checkSame(t, "itself", three[j], three[j], true)
			checkSame(t, "its copy", three[j], Copy(three[j]), true)
			for k := range j {
				checkSame(t, "another one", three[j], three[k], twin(three[j], three[k]))
				if Same(three[j], three[k]) {
					n++
				}
			}
		}
		// Through the third one: just two of three pairs can't be the same.
		if n == 2 {
			t.Fatalf("%+v", three)
		}
		count[n]++
	}
	if count[0] < 1000 || count[1] < 1000 || count[3] < 1000 {
		t.Errorf("only %v", count)
	}
}

// TestSameCopy is P15.3 for every sample, and for a copy of a copy.
func TestSameCopy(t *testing.T) {
	for _, l := range samples() {
		c := Copy(l)
		checkSame(t, "a copy", l, c, true)
		checkSame(t, "a copy of a copy", l, Copy(c), true)
		checkSame(t, "two copies", Copy(l), c, true)
	}
}

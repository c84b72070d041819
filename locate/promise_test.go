package locate

import (
	"math/rand"
	"slices"
	"testing"

	"bulwark/api"
)

// total is what is available and reserved of an instrument.
func total(avail []int, locs []api.Loc, instr int) int {
	sum := avail[instr]
	for _, l := range locs {
		if l.Instr == instr {
			sum += l.Qty
		}
	}
	return sum
}

// others are the reservations but that of an account and an instrument.
func others(locs []api.Loc, acct, instr int) []api.Loc {
	return slices.DeleteFunc(slices.Clone(locs), func(l api.Loc) bool { return l.Acct == acct && l.Instr == instr })
}

// reserving reserves, and fails unless that leads to valid lists with the same sums and nothing else changed, and giving back leads back.
func reserving(t *testing.T, avail []int, locs []api.Loc, acct, instr, qty int) ([]int, []api.Loc, api.Errno) {
	t.Helper()
	a, l, e := Reserve(avail, locs, acct, instr, qty)
	if e != api.OK {
		if len(a) != 0 || len(l) != 0 {
			t.Fatalf("Reserve(%v, %v, %d, %d, %d): %v, %v, %d", avail, locs, acct, instr, qty, a, l, e)
		}
		return avail, locs, e
	}
	if !Good(a, l, 16, 12) || !valid(a, l, 16, 12) {
		t.Fatalf("Reserve(%v, %v, %d, %d, %d): %v, %v", avail, locs, acct, instr, qty, a, l)
	}
	for k := range avail {
		if total(a, l, k) != total(avail, locs, k) || k != instr && a[k] != avail[k] {
			t.Fatalf("Reserve(%v, %v, %d, %d, %d): %v, %v: of instrument %d", avail, locs, acct, instr, qty, a, l, k)
		}
	}
	if Held(l, acct, instr) != Held(locs, acct, instr)+qty || !slices.Equal(others(l, acct, instr), others(locs, acct, instr)) {
		t.Fatalf("Reserve(%v, %v, %d, %d, %d): %v, %v", avail, locs, acct, instr, qty, a, l)
	}
	if b, m, e := Reserve(a, l, acct, instr, -qty); !slices.Equal(b, avail) || !slices.Equal(m, locs) || e != api.OK {
		t.Fatalf("Reserve(%v, %v, %d, %d, %d), then of its negation: %v, %v, %d", avail, locs, acct, instr, qty, b, m, e)
	}
	return a, l, api.OK
}

// supplying supplies, and fails unless that leads to valid lists with nothing else changed, and taking away leads back.
func supplying(t *testing.T, avail []int, locs []api.Loc, instr, qty int) ([]int, api.Errno) {
	t.Helper()
	a, e := Supply(avail, instr, qty)
	if e != api.OK {
		if len(a) != 0 {
			t.Fatalf("Supply(%v, %d, %d): %v, %d", avail, instr, qty, a, e)
		}
		return avail, e
	}
	if !Good(a, locs, 16, 12) || !valid(a, locs, 16, 12) || !slices.Equal(with(a, instr, avail[instr]), avail) || a[instr] != avail[instr]+qty {
		t.Fatalf("Supply(%v, %d, %d): %v", avail, instr, qty, a)
	}
	if b, e := Supply(a, instr, -qty); !slices.Equal(b, avail) || e != api.OK {
		t.Fatalf("Supply(%v, %d, %d), then of its negation: %v, %d", avail, instr, qty, b, e)
	}
	return a, api.OK
}

// TestBack is P14.2 for every account and instrument in valid lists of several lengths, with quantities at the bounds.
func TestBack(t *testing.T) {
	for _, n := range []int{0, 1, 2, 12, 30, 31, 32} {
		for _, held := range []int{1, 7, topQty - 1, topQty} {
			for _, x := range []int{0, 1, 7, topQty - 7, topQty - 1, topQty} {
				avail, locs := slices.Repeat([]int{x}, 12), many(n)
				for k := range locs {
					locs[k].Qty = held
				}
				if !Good(avail, locs, 16, 12) {
					t.Fatalf("not valid: %v, %v", avail, locs)
				}
				for instr := range 12 {
					for _, qty := range []int{-topQty, -x, -x - 1, -7, -1, 0, 1, 7, topQty - x, topQty - x + 1, topQty} {
						supplying(t, avail, locs, instr, qty)
						for _, acct := range []int{2, 3, 5, 12, 15} {
							reserving(t, avail, locs, acct, instr, qty)
							reserving(t, avail, locs, acct, instr, x)
							reserving(t, avail, locs, acct, instr, -held)
							reserving(t, avail, locs, acct, instr, topQty-held)
						}
					}
				}
			}
		}
	}
}

// drawn is an account, an instrument and a quantity to reserve: often of a reservation that there is, and always of one when they are to become fewer.
func drawn(r *rand.Rand, avail []int, locs []api.Loc, fewer bool) (int, int, int) {
	acct, instr := 2+r.Intn(14), r.Intn(12)
	if len(locs) > 0 && (fewer || r.Intn(3) == 0) {
		l := locs[r.Intn(len(locs))]
		return l.Acct, l.Instr, []int{-l.Qty, -l.Qty, -l.Qty / 2, anyQty(r), avail[l.Instr], topQty - l.Qty}[r.Intn(6)]
	}
	return acct, instr, []int{anyQty(r), avail[instr], avail[instr] / 2, 1 + r.Intn(5), avail[instr] + 1}[r.Intn(5)]
}

// TestWalk is P14.2: from valid lists to valid ones, through many drawn calls, till there are as many reservations as there may be and back.
func TestWalk(t *testing.T) {
	r := rand.New(rand.NewSource(142))
	supplies, reserves := map[api.Errno]int{}, map[api.Errno]int{}
	for walk := range 60 {
		avail, locs := anySupply(r, 12), validLocs(r, 16, 12, r.Intn(33))
		longest, fewest := 0, 99
		for step := range 1800 {
			var e api.Errno
			fewer := step%900 >= 500
			if r.Intn(3) == 0 {
				instr, qty := r.Intn(12), anyQty(r)
				if fewer && r.Intn(2) == 0 {
					qty = -avail[instr]
				}
				avail, e = supplying(t, avail, locs, instr, qty)
				supplies[e]++
				continue
			}
			acct, instr, qty := drawn(r, avail, locs, fewer)
			avail, locs, e = reserving(t, avail, locs, acct, instr, qty)
			reserves[e]++
			longest, fewest = max(longest, len(locs)), min(fewest, len(locs))
		}
		if longest != 32 || fewest > 5 {
			t.Errorf("walk %d: from %d to %d", walk, fewest, longest)
		}
	}
	for _, e := range []api.Errno{api.OK, api.ErrQty, api.ErrLocate, api.ErrRoom} {
		if reserves[e] < 1000 {
			t.Errorf("Reserve: only %d answers %d", reserves[e], e)
		}
	}
	if supplies[api.OK] < 1000 || supplies[api.ErrQty] < 1000 {
		t.Errorf("Supply: only %v", supplies)
	}
}

package locate

import (
	"math/rand"
	"slices"
	"sort"
	"testing"

	"bulwark/api"
)

// key is the account and the instrument of a reservation.
type key [2]int

// reserved are the quantities of reservations.
func reserved(locs []api.Loc) map[key]int {
	m := map[key]int{}
	for _, l := range locs {
		m[key{l.Acct, l.Instr}] = l.Qty
	}
	return m
}

// listed are reservations with those quantities, as the chapter orders them.
func listed(m map[key]int) []api.Loc {
	var locs []api.Loc
	for k, qty := range m {
		locs = append(locs, loc(k[0], k[1], qty))
	}
	sort.Slice(locs, func(i, j int) bool {
		return locs[i].Acct < locs[j].Acct || locs[i].Acct == locs[j].Acct && locs[i].Instr < locs[j].Instr
	})
	return locs
}

// valid says what Good answers.
func valid(avail []int, locs []api.Loc, accts, instrs int) bool {
	good := len(avail) == instrs && len(locs) <= 32 && slices.Equal(locs, listed(reserved(locs)))
	for _, x := range avail {
		good = good && x >= 0 && x <= topQty
	}
	for _, l := range locs {
		good = good && l.Acct > 1 && l.Acct < accts && l.Instr >= 0 && l.Instr < instrs && l.Qty > 0 && l.Qty <= topQty
	}
	return good
}

// supplied says what Supply answers.
func supplied(avail []int, instr, qty int) ([]int, api.Errno) {
	if instr < 0 || instr >= len(avail) {
		return nil, api.ErrInstr
	}
	if qty < -topQty || qty > topQty || avail[instr]+qty < 0 || avail[instr]+qty > topQty {
		return nil, api.ErrQty
	}
	return with(avail, instr, avail[instr]+qty), api.OK
}

// moved says what Reserve answers.
func moved(avail []int, locs []api.Loc, acct, instr, qty int) ([]int, []api.Loc, api.Errno) {
	if instr < 0 || instr >= len(avail) {
		return nil, nil, api.ErrInstr
	}
	m := reserved(locs)
	old, found := m[key{acct, instr}]
	if qty < -topQty || qty > topQty || old+qty < 0 || old+qty > topQty {
		return nil, nil, api.ErrQty
	}
	if qty > avail[instr] {
		return nil, nil, api.ErrLocate
	}
	if avail[instr]-qty > topQty {
		return nil, nil, api.ErrQty
	}
	m[key{acct, instr}] = old + qty
	if old+qty == 0 {
		delete(m, key{acct, instr})
	} else if !found && len(locs) >= 32 {
		return nil, nil, api.ErrRoom
	}
	return with(avail, instr, avail[instr]-qty), listed(m), api.OK
}

// lacks says what Short answers: the shares are taken one kind after the other from the position.
func lacks(pos, selling, qty int) int {
	if qty >= 0 {
		return 0
	}
	left := pos - selling
	left -= -qty
	if left > 0 {
		return 0
	}
	return -left
}

// like fails where Held, Supply or Reserve answers something else than the model.
func like(t *testing.T, avail []int, locs []api.Loc, acct, instr, qty int) [2]api.Errno {
	t.Helper()
	if got, want := Held(locs, acct, instr), reserved(locs)[key{acct, instr}]; got != want {
		t.Fatalf("Held(%v, %d, %d): %d, not %d", locs, acct, instr, got, want)
	}
	got, supplyErr := Supply(avail, instr, qty)
	want, e := supplied(avail, instr, qty)
	if !slices.Equal(got, want) || supplyErr != e {
		t.Fatalf("Supply(%v, %d, %d): %v, %d, not %v, %d", avail, instr, qty, got, supplyErr, want, e)
	}
	got, rest, reserveErr := Reserve(avail, locs, acct, instr, qty)
	want, wantRest, e := moved(avail, locs, acct, instr, qty)
	if !slices.Equal(got, want) || !slices.Equal(rest, wantRest) || reserveErr != e {
		t.Fatalf("Reserve(%v, %v, %d, %d, %d): %v, %v, %d, not %v, %v, %d", avail, locs, acct, instr, qty, got, rest, reserveErr, want, wantRest, e)
	}
	return [2]api.Errno{supplyErr, reserveErr}
}

// anyQty is a number about 0, about the bounds of a quantity, within them or beyond them.
func anyQty(r *rand.Rand) int {
	switch r.Intn(6) {
	case 0:
		return r.Intn(9) - 4
	case 1:
		return topQty - 2 + r.Intn(5)
	case 2:
		return -topQty + 2 - r.Intn(5)
	case 3:
		return int(r.Uint64()) >> r.Intn(64)
	}
	return (r.Intn(2*topQty+1) - topQty) >> r.Intn(31)
}

// anyStock is a quantity from 0 to MaxQty, of any order of magnitude, with its bounds more often than the others.
func anyStock(r *rand.Rand) int {
	switch r.Intn(8) {
	case 0:
		return 0
	case 1:
		return topQty
	case 2:
		return topQty - r.Intn(5)
	}
	return r.Intn(topQty+1) >> r.Intn(31)
}

// anyNumber is the number of an account or an instrument: nearly always a small one.
func anyNumber(r *rand.Rand) int {
	if r.Intn(20) == 0 {
		return []int{least, least + 1, -1 << 32, -5, 1 << 32, most - 1, most}[r.Intn(7)]
	}
	return r.Intn(14) - 2
}

// anySupply is what there is of n instruments.
func anySupply(r *rand.Rand, n int) []int {
	avail := make([]int, n)
	for k := range avail {
		avail[k] = anyStock(r)
	}
	return avail
}

// anyLocs are at most n reservations in order, with quantities from 0 to MaxQty.
func anyLocs(r *rand.Rand, n int) []api.Loc {
	m := map[key]int{}
	for range n {
		m[key{anyNumber(r), anyNumber(r)}] = anyStock(r)
	}
	return listed(m)
}

// TestDrawn is P14.1 for Held, Supply and Reserve of drawn lists, in which there may be many more reservations than MaxLocs.
func TestDrawn(t *testing.T) {
	r := rand.New(rand.NewSource(14))
	count := [2]map[api.Errno]int{{}, {}}
	tally := func(all [2]api.Errno) {
		for n, e := range all {
			count[n][e]++
		}
	}
	for range 4000 {
		avail, locs := anySupply(r, r.Intn(15)), anyLocs(r, r.Intn([]int{3, 10, 45, 70}[r.Intn(4)]+1))
		for range 4 {
			tally(like(t, avail, locs, anyNumber(r), anyNumber(r), anyQty(r)))
			if len(avail) > 0 {
				instr := r.Intn(len(avail))
				for _, qty := range []int{avail[instr], avail[instr] + 1, -avail[instr], -avail[instr] - 1, avail[instr] - topQty, avail[instr] - topQty - 1} {
					tally(like(t, avail, locs, anyNumber(r), instr, qty))
				}
			}
			if len(locs) > 0 {
				l := locs[r.Intn(len(locs))]
				for _, qty := range []int{anyQty(r), -l.Qty, -l.Qty / 2, -l.Qty - 1, topQty - l.Qty, topQty + 1 - l.Qty, 1} {
					tally(like(t, avail, locs, l.Acct, l.Instr, qty))
				}
			}
		}
	}
	for n, errs := range [2][]api.Errno{{api.OK, api.ErrInstr, api.ErrQty}, {api.OK, api.ErrInstr, api.ErrQty, api.ErrLocate, api.ErrRoom}} {
		for _, e := range errs {
			if count[n][e] < 1000 {
				t.Errorf("only %d answers %d, of call %d", count[n][e], e, n)
			}
		}
	}
}

// validLocs are at most n valid reservations.
func validLocs(r *rand.Rand, accts, instrs, n int) []api.Loc {
	m := map[key]int{}
	for accts > 2 && instrs > 0 && n > 0 {
		n--
		m[key{2 + r.Intn(accts-2), r.Intn(instrs)}] = max(1, anyStock(r))
	}
	return listed(m)
}

// spoil changes one number of the supply or one reservation, or exchanges two.
func spoil(r *rand.Rand, avail []int, locs []api.Loc) {
	if len(avail) > 0 && r.Intn(3) == 0 {
		avail[r.Intn(len(avail))] = anyQty(r)
	}
	if len(locs) == 0 {
		return
	}
	l, other := &locs[r.Intn(len(locs))], &locs[r.Intn(len(locs))]
	switch r.Intn(8) {
	case 0:
		l.Acct = anyNumber(r)
	case 1:
		l.Instr = anyNumber(r)
	case 2:
		l.Qty = anyQty(r)
	case 3:
		l.Acct = other.Acct
	case 4:
		l.Instr = other.Instr
	case 5:
		*l, *other = *other, *l
	case 6:
		l.Acct, l.Instr = other.Acct, other.Instr
	}
}

// TestGoodDrawn is P14.1 for Good of drawn lists: valid ones, and such with one or two faults.
func TestGoodDrawn(t *testing.T) {
	r := rand.New(rand.NewSource(15))
	count := map[bool]int{}
	for range 30000 {
		accts, instrs := 2+r.Intn(15), r.Intn(13)
		avail, locs := anySupply(r, instrs), validLocs(r, accts, instrs, r.Intn(40))
		for range r.Intn(3) {
			spoil(r, avail, locs)
		}
		if r.Intn(10) == 0 {
			instrs += r.Intn(5) - 2
		}
		if r.Intn(20) == 0 {
			accts = counts[r.Intn(len(counts))]
		}
		want := valid(avail, locs, accts, instrs)
		checkGood(t, avail, locs, accts, instrs, want)
		count[want]++
	}
	if count[true] < 8000 || count[false] < 8000 {
		t.Errorf("only %d valid lists, and %d others", count[true], count[false])
	}
}

// TestShortDrawn is P14.1 for Short of drawn numbers.
func TestShortDrawn(t *testing.T) {
	r := rand.New(rand.NewSource(16))
	count := map[bool]int{}
	for range 100000 {
		pos, qty := anyStock(r)-anyStock(r), anyStock(r)-anyStock(r)
		selling := r.Intn(1<<40+1) >> r.Intn(41)
		if qty < 0 && r.Intn(3) == 0 {
			selling = max(0, pos+qty+r.Intn(5)-2)
		}
		want := lacks(pos, selling, qty)
		checkShort(t, pos, selling, qty, want)
		count[want == 0]++
	}
	if count[true] < 10000 || count[false] < 10000 {
		t.Errorf("only %v", count)
	}
}

// TestNeverPanics is rule 1 of the document: on lists that are in no order, with any numbers, every call ends, and answers the same again.
func TestNeverPanics(t *testing.T) {
	r := rand.New(rand.NewSource(17))
	for range 10000 {
		var avail []int
		var locs []api.Loc
		for range r.Intn(14) {
			avail = append(avail, anyQty(r))
		}
		for range r.Intn(50) {
			locs = append(locs, loc(anyNumber(r), anyNumber(r), anyQty(r)))
		}
		if r.Intn(3) == 0 {
			locs = listed(reserved(locs))
		}
		acct, instr, qty := anyNumber(r), anyNumber(r), anyQty(r)
		if len(locs) > 0 && r.Intn(2) == 0 {
			acct, instr = locs[0].Acct, locs[0].Instr
		}
		checkGood(t, avail, locs, acct, instr, valid(avail, locs, acct, instr))
		checkGood(t, avail, locs, acct, len(avail), valid(avail, locs, acct, len(avail)))
		checkAgain(t, avail, locs, acct, instr, qty)
	}
}

// checkAgain fails where a call answers something else than just before, or something beside an error.
func checkAgain(t *testing.T, avail []int, locs []api.Loc, acct, instr, qty int) {
	t.Helper()
	if Held(locs, acct, instr) != Held(locs, acct, instr) || Short(acct, instr, qty) != Short(acct, instr, qty) {
		t.Fatalf("Held of %d, %d in %v, or Short of them and %d", acct, instr, locs, qty)
	}
	a, e := Supply(avail, instr, qty)
	b, again := Supply(avail, instr, qty)
	if !slices.Equal(a, b) || e != again || e != api.OK && len(a) != 0 {
		t.Fatalf("Supply(%v, %d, %d): %v, %d", avail, instr, qty, a, e)
	}
	a, l, e := Reserve(avail, locs, acct, instr, qty)
	b, m, again := Reserve(avail, locs, acct, instr, qty)
	if !slices.Equal(a, b) || !slices.Equal(l, m) || e != again || e != api.OK && (len(a) != 0 || len(l) != 0) {
		t.Fatalf("Reserve(%v, %v, %d, %d, %d): %v, %v, %d", avail, locs, acct, instr, qty, a, l, e)
	}
}

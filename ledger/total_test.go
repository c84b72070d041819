package ledger

import (
	"testing"

	"bulwark/api"
)

// checkTotal fails where Total answers something else than the model.
func checkTotal(t *testing.T, l api.Ledger, cur int) (int, api.Errno) {
	t.Helper()
	got, e := Total(l, cur)
	if want, wantErr := totalled(l, cur); got != want || e != wantErr {
		t.Errorf("Total(%+v, %d): %d, %d, not %d, %d", l, cur, got, e, want, wantErr)
	}
	return got, e
}

// TestTotal is P15.1 for Total by written values.
func TestTotal(t *testing.T) {
	for _, c := range []struct {
		what string
		cash [][]int
		cur  int
		want int
		e    api.Errno
	}{
		{"one account", [][]int{{5}}, 0, 5, api.OK},
		{"its first currency", [][]int{{5, 6, 7}, {1, 2, 3}}, 0, 6, api.OK},
		{"one in the midst", [][]int{{5, 6, 7}, {1, 2, 3}}, 1, 8, api.OK},
		{"the last one", [][]int{{5, 6, 7}, {1, 2, 3}}, 2, 10, api.OK},
		{"one beyond", [][]int{{5, 6, 7}, {1, 2, 3}}, 3, 0, api.ErrCur},
		{"number -1", [][]int{{5, 6, 7}, {1, 2, 3}}, -1, 0, api.ErrCur},
		{"the greatest int", [][]int{{5, 6, 7}, {1, 2, 3}}, most, 0, api.ErrCur},
		{"the least int", [][]int{{5, 6, 7}, {1, 2, 3}}, least, 0, api.ErrCur},
		{"2^32", [][]int{{5, 6, 7}, {1, 2, 3}}, 1 << 32, 0, api.ErrCur},
		{"the first one has none", [][]int{{}, {5}, {6}}, 0, 0, api.ErrCur},
		{"the one in the midst has none", [][]int{{5}, nil, {6}}, 0, 0, api.ErrCur},
		{"the last one has none", [][]int{{5}, {6}, {}}, 0, 0, api.ErrCur},
		{"the first one has fewer", [][]int{{1}, {5, 6}}, 1, 0, api.ErrCur},
		{"the last one has fewer", [][]int{{5, 6}, {1}}, 1, 0, api.ErrCur},
		{"some have more", [][]int{{5, 6}, {1, 2, 3}, {7, 8}}, 1, 16, api.OK},
		{"none has any", [][]int{nil, {}}, 0, 0, api.ErrCur},
		{"of both signs", [][]int{{5}, {-7}, {-3}, {1}}, 0, -4, api.OK},
		{"the greatest amount", [][]int{{top}, {0}}, 0, top, api.OK},
		{"one more", [][]int{{top}, {1}}, 0, 0, api.ErrOver},
		{"the least amount", [][]int{{0}, {-top}}, 0, -top, api.OK},
		{"one less", [][]int{{-1}, {-top}}, 0, 0, api.ErrOver},
		{"the greatest and the least", [][]int{{top}, {-top}, {top}}, 0, top, api.OK},
		{"two of the greatest", [][]int{{top}, {top}}, 0, 0, api.ErrOver},
		{"two of the least", [][]int{{-top}, {-top}}, 0, 0, api.ErrOver},
		{"four of the greatest", [][]int{{top}, {top}, {top}, {top}}, 0, 0, api.ErrOver},
		{"four of the least", [][]int{{-top}, {-top}, {-top}, {-top}}, 0, 0, api.ErrOver},
		{"above in the midst", [][]int{{top}, {1}, {-1}}, 0, 0, api.ErrOver},
		{"not above in the midst", [][]int{{top}, {-1}, {1}}, 0, top, api.OK},
		{"below in the midst", [][]int{{-top}, {-1}, {1}}, 0, 0, api.ErrOver},
		{"not below in the midst", [][]int{{-top}, {1}, {-1}}, 0, -top, api.OK},
		{"no amount", [][]int{{top + 1}}, 0, 0, api.ErrOver},
		{"no amount, below", [][]int{{-top - 1}}, 0, 0, api.ErrOver},
		{"no amount, though the sum is one", [][]int{{-5}, {top + 1}, {-9}}, 0, 0, api.ErrOver},
		{"no amount, below, though the sum is one", [][]int{{5}, {-top - 1}}, 0, 0, api.ErrOver},
		{"the greatest int as cash", [][]int{{0}, {most}}, 0, 0, api.ErrOver},
		{"the least int as cash", [][]int{{least}, {0}}, 0, 0, api.ErrOver},
		{"the greatest and the least int", [][]int{{most}, {least}, {1}}, 0, 0, api.ErrOver},
		{"no amount of another currency", [][]int{{most, 5}, {least, 6}}, 1, 11, api.OK},
		{"above, then none", [][]int{{top}, {1}, {}}, 0, 0, api.ErrOver},
		{"none, then above", [][]int{{}, {top}, {1}}, 0, 0, api.ErrCur},
		{"none just ahead of what is above", [][]int{{top}, {}, {1}}, 0, 0, api.ErrCur},
		{"below, then none", [][]int{{-top}, {-1}, {5}, {}}, 0, 0, api.ErrOver},
		{"none, then below", [][]int{{5}, {}, {-top}, {-top}}, 0, 0, api.ErrCur},
		{"no amount, then none", [][]int{{top + 1}, {}}, 0, 0, api.ErrOver},
		{"none, then no amount", [][]int{{}, {top + 1}}, 0, 0, api.ErrCur},
	} {
		l := funds(c.cash...)
		if got, e := checkTotal(t, l, c.cur); got != c.want || e != c.e {
			t.Errorf("%s: Total(%v, %d): %d, %d, not %d, %d", c.what, c.cash, c.cur, got, e, c.want, c.e)
		}
	}
}

// TestTotalNone is P15.1 for Total without accounts: 0, whichever the currency.
func TestTotalNone(t *testing.T) {
	for _, cur := range []int{least, -1, 0, 1, 3, 1 << 32, most} {
		for _, l := range []api.Ledger{{}, {Accts: []api.Acct{}}, {Curs: full().Curs}, {Curs: []api.Cur{}, Avail: []int{5}}} {
			if got, e := checkTotal(t, l, cur); got != 0 || e != api.OK {
				t.Errorf("Total(%+v, %d): %d, %d", l, cur, got, e)
			}
		}
	}
}

// TestTotalAccounts is P15.1 for what Total asks: the cash of the accounts, and nothing else of the ledger.
func TestTotalAccounts(t *testing.T) {
	for cur, want := range []int{504, 1<<61 - 7, 193} {
		l := full()
		if got, e := checkTotal(t, l, cur); got != want || e != api.OK {
			t.Errorf("Total(full, %d): %d, %d", cur, got, e)
		}
		l = api.Ledger{Day: -1, Accts: l.Accts}
		for v := range l.Accts {
			l.Accts[v].Parent, l.Accts[v].Flag, l.Accts[v].Last = v, true, -v
		}
		if got, e := checkTotal(t, l, cur); got != want || e != api.OK {
			t.Errorf("Total of the accounts alone, %d: %d, %d", cur, got, e)
		}
	}
	for _, cur := range []int{-1, 3} {
		l := full()
		l.Curs = sized(greatest).Curs
		if got, e := checkTotal(t, l, cur); got != 0 || e != api.ErrCur {
			t.Errorf("Total(full, %d): %d, %d", cur, got, e)
		}
	}
}

// TestTotalSamples is P15.1 for Total of all samples.
func TestTotalSamples(t *testing.T) {
	for _, l := range samples() {
		for _, cur := range []int{least, -1, 0, 1, 2, 3, 4, 5, 6, 1 << 32, most} {
			checkTotal(t, l, cur)
		}
	}
}

package ledger

import (
	"testing"

	"bulwark/api"
)

// checkPay fails where Pay answers something else than the model.
func checkPay(t *testing.T, l api.Ledger, cur, amount, from, to int) (api.Ledger, api.Errno) {
	t.Helper()
	got, e := Pay(l, cur, amount, from, to)
	if want, wantErr := paid(l, cur, amount, from, to); !twin(got, want) || e != wantErr {
		t.Errorf("Pay(%+v, %d, %d, %d, %d): %+v, %d, not %+v, %d", l, cur, amount, from, to, got, e, want, wantErr)
	}
	return got, e
}

// pays fails unless Pay leaves that cash to the two accounts, and all else as it was.
func pays(t *testing.T, l api.Ledger, cur, amount, from, to, less, more int) {
	t.Helper()
	got, e := checkPay(t, l, cur, amount, from, to)
	want := apart(l)
	want.Accts[from].Cash[cur] = less
	want.Accts[to].Cash[cur] = more
	if e != api.OK || !twin(got, want) {
		t.Errorf("Pay(%+v, %d, %d, %d, %d): %+v, %d, not %+v", l, cur, amount, from, to, got, e, want)
	}
}

// refuses fails unless Pay answers that error, and no ledger.
func refuses(t *testing.T, l api.Ledger, cur, amount, from, to int, want api.Errno) {
	t.Helper()
	got, e := checkPay(t, l, cur, amount, from, to)
	if e != want || !twin(got, api.Ledger{}) {
		t.Errorf("Pay(%+v, %d, %d, %d, %d): %+v, %d, not %d", l, cur, amount, from, to, got, e, want)
	}
}

// TestExamples are the chapter's examples.
func TestExamples(t *testing.T) {
	l := First()
	pays(t, l, 0, 5, 0, 1, -5, 5)
	p, _ := Pay(l, 0, 5, api.House, api.Rounding)
	if total, e := Total(p, 0); total != 0 || e != api.OK {
		t.Errorf("Total: %d, %d", total, e)
	}
	for v := range 2 {
		q, e := Pay(p, 0, 7, v, v)
		if e != api.OK || !Same(p, q) {
			t.Errorf("from %d to itself: %+v, %d", v, q, e)
		}
	}
}

// TestPay is P15.1 for Pay by written values: from and to each account, in each currency, back and forth.
func TestPay(t *testing.T) {
	l := full()
	pays(t, l, 0, 100, 0, 1, 400, 99)
	pays(t, l, 0, -100, 0, 1, 600, -101)
	pays(t, l, 1, 20, 0, 7, -40, 101)
	pays(t, l, 2, 3, 3, 0, 11, 6)
	pays(t, l, 0, 501, 0, 3, -1, 513)
	pays(t, l, 1, 0, 4, 6, -6, -77)
	pays(t, l, 2, 5, 5, 4, top-5, -top+5)
	pays(t, l, 2, top, 5, 4, 0, 0)
	pays(t, l, 0, -1, 7, 2, -79, -1)
	for from := range l.Accts {
		for to := range l.Accts {
			for cur := range 3 {
				if from != to {
					pays(t, l, cur, 0, from, to, l.Accts[from].Cash[cur], l.Accts[to].Cash[cur])
				}
			}
			if from != to {
				pays(t, l, 0, 9, from, to, l.Accts[from].Cash[0]-9, l.Accts[to].Cash[0]+9)
				pays(t, l, 1, -9, from, to, l.Accts[from].Cash[1]+9, l.Accts[to].Cash[1]-9)
			}
		}
	}
}

// TestPayItself is P15.1 for Pay from an account to itself: nothing changes, but the cash without the amount has to be an amount.
func TestPayItself(t *testing.T) {
	l := full()
	for v := range l.Accts {
		for cur, x := range l.Accts[v].Cash {
			for _, amount := range []int{0, 1, -1, 7, -7, x, -x} {
				if rest := x - amount; rest >= -top && rest <= top {
					pays(t, l, cur, amount, v, v, x, x)
				} else {
					refuses(t, l, cur, amount, v, v, api.ErrOver)
				}
			}
		}
	}
	for _, x := range []int{-top, -top + 1, -5, 0, 5, top - 1, top} {
		l := funds([]int{x}, []int{9})
		pays(t, l, 0, 0, 0, 0, x, x)
		// The least and the greatest amount that leave an amount.
		low, high := max(x, 0)-top, top+min(x, 0)
		pays(t, l, 0, low, 0, 0, x, x)
		pays(t, l, 0, high, 0, 0, x, x)
		refuses(t, l, 0, low-1, 0, 0, api.ErrOver)
		refuses(t, l, 0, high+1, 0, 0, api.ErrOver)
	}
	for _, x := range []int{least, -top - 1, top + 1, most} {
		for _, amount := range []int{-1, 0, 1, top, -top, x} {
			refuses(t, funds([]int{x}, []int{9}), 0, amount, 0, 0, api.ErrOver)
		}
	}
}

// TestPayAmounts is P15.1 for amounts and cash at their limits, on both sides.
func TestPayAmounts(t *testing.T) {
	for _, amount := range []int{least, least + 1, -top - 2, -top - 1, top + 1, top + 2, most - 1, most} {
		for _, x := range []int{-top, -1, 0, 1, top} {
			for _, y := range []int{-top, -1, 0, 1, top} {
				refuses(t, funds([]int{x}, []int{y}), 0, amount, 0, 1, api.ErrOver)
			}
		}
	}
	for _, amount := range []int{-top, -1, 0, 1, top} {
		pays(t, funds([]int{0}, []int{0}), 0, amount, 0, 1, -amount, amount)
		// From has just as much as it can bear, then one less; then the same of to.
		giver, taker, step := amount-top, top-amount, -1
		if amount < 0 {
			giver, taker, step = amount+top, -top-amount, 1
		}
		pays(t, funds([]int{giver}, []int{0}), 0, amount, 0, 1, giver-amount, amount)
		pays(t, funds([]int{0}, []int{taker}), 0, amount, 0, 1, -amount, taker+amount)
		pays(t, funds([]int{giver}, []int{taker}), 0, amount, 0, 1, giver-amount, taker+amount)
		refuses(t, funds([]int{giver + step}, []int{0}), 0, amount, 0, 1, api.ErrOver)
		refuses(t, funds([]int{0}, []int{taker - step}), 0, amount, 0, 1, api.ErrOver)
		refuses(t, funds([]int{giver}, []int{taker - step}), 0, amount, 0, 1, api.ErrOver)
		refuses(t, funds([]int{giver + step}, []int{taker}), 0, amount, 0, 1, api.ErrOver)
	}
	for _, x := range []int{least, -top - 1, top + 1, most} {
		for _, amount := range []int{-5, 0, 5, top, -top, most, least} {
			refuses(t, funds([]int{x}, []int{0}), 0, amount, 0, 1, api.ErrOver)
			refuses(t, funds([]int{0}, []int{x}), 0, amount, 0, 1, api.ErrOver)
		}
	}
	l := funds([]int{most, 5, least}, []int{top + 1, 6, -top - 1}, []int{most, most, most})
	pays(t, l, 1, 2, 0, 1, 3, 8)
	refuses(t, l, 1, 2, 0, 2, api.ErrOver)
}

// TestPayAccounts is P15.1 for accounts that there aren't, on either side.
func TestPayAccounts(t *testing.T) {
	for _, l := range []api.Ledger{First(), full(), sized(greatest)} {
		n := len(l.Accts)
		for _, v := range []int{least, -n, -2, -1, n, n + 1, 1 << 32, 1<<32 + 1, most} {
			for _, amount := range []int{-1, 0, 1, top + 1, least} {
				refuses(t, l, 0, amount, v, 0, api.ErrAcct)
				refuses(t, l, 0, amount, 0, v, api.ErrAcct)
				refuses(t, l, 0, amount, n-1, v, api.ErrAcct)
				refuses(t, l, 0, amount, v, v, api.ErrAcct)
				refuses(t, l, 0, amount, v, -v, api.ErrAcct)
			}
		}
		x, y := l.Accts[0].Cash[0], l.Accts[n-1].Cash[0]
		pays(t, l, 0, 3, 0, n-1, x-3, y+3)
		pays(t, l, 0, 3, n-1, 0, y-3, x+3)
	}
	refuses(t, api.Ledger{}, 0, 0, 0, 0, api.ErrAcct)
	refuses(t, api.Ledger{Curs: full().Curs}, 0, 0, 0, 1, api.ErrAcct)
	refuses(t, api.Ledger{Accts: []api.Acct{}}, 0, 0, 0, 0, api.ErrAcct)
}

// TestPayErrors is P15.1 for each error of Pay and each two at one time: which of them stands first.
func TestPayErrors(t *testing.T) {
	l := funds([]int{top, -top}, []int{-top}, []int{}, []int{top, top, 5}, nil)
	const none, over = 9, top + 1
	for _, amount := range []int{0, 1, -1, over, -over, least, most} {
		refuses(t, l, 0, amount, none, none, api.ErrAcct) // neither account
		refuses(t, l, 0, amount, none, 2, api.ErrAcct)    // no account from, and to lacks the currency
		refuses(t, l, 2, amount, none, 0, api.ErrAcct)
		refuses(t, l, 0, amount, 2, none, api.ErrCur) // from lacks the currency, and no account to
		refuses(t, l, 1, amount, 1, none, api.ErrCur)
		refuses(t, l, -1, amount, 0, none, api.ErrCur)
		refuses(t, l, 0, amount, 2, 4, api.ErrCur) // both lack the currency
		refuses(t, l, 0, amount, 2, 2, api.ErrCur)
		refuses(t, l, 0, amount, none, 0, api.ErrAcct) // each by itself
		refuses(t, l, 0, amount, 0, none, api.ErrAcct)
		refuses(t, l, 0, amount, 2, 0, api.ErrCur)
		refuses(t, l, 0, amount, 0, 2, api.ErrCur)
		refuses(t, l, 1, amount, 0, 1, api.ErrCur)
		refuses(t, l, 1, amount, 1, 0, api.ErrCur)
		refuses(t, l, 2, amount, 3, 0, api.ErrCur)
		for _, cur := range []int{least, -1, 3, 4, 1 << 32, most} {
			refuses(t, l, cur, amount, none, 3, api.ErrAcct)
			refuses(t, l, cur, amount, 3, none, api.ErrCur)
			refuses(t, l, cur, amount, 3, 0, api.ErrCur)
			refuses(t, l, cur, amount, 3, 3, api.ErrCur)
		}
	}
	refuses(t, l, 0, 1, 1, none, api.ErrAcct) // from can't bear it, and no account to
	refuses(t, l, 0, 1, 1, 2, api.ErrCur)     // from can't bear it, and to lacks the currency
	refuses(t, l, 0, 1, none, 0, api.ErrAcct) // no account from, and to can't bear it
	refuses(t, l, 0, 1, 2, 0, api.ErrCur)     // from lacks the currency, and to can't bear it
	refuses(t, l, 0, 1, 1, 0, api.ErrOver)    // neither can bear it
	refuses(t, l, 0, 1, 1, 3, api.ErrOver)
	refuses(t, l, 1, 1, 0, 3, api.ErrOver)
	refuses(t, l, 0, -1, 0, 1, api.ErrOver)
	pays(t, l, 0, 1, 0, 1, top-1, -top+1)
	pays(t, l, 0, -1, 1, 0, -top+1, top-1)
}

// TestPayAll is P15.1 for every choice of arguments about the edges, in all samples, against the model.
func TestPayAll(t *testing.T) {
	for _, l := range samples() {
		n := len(l.Accts)
		for _, from := range []int{least, -1, 0, 1, 2, n - 1, n, most} {
			for _, to := range []int{least, -1, 0, 1, 4, n - 1, n, most} {
				for _, cur := range []int{least, -1, 0, 1, 2, 4, most} {
					for _, amount := range []int{least, -top - 1, -top, -1, 0, 5, top, top + 1, most} {
						checkPay(t, l, cur, amount, from, to)
					}
				}
			}
		}
	}
}

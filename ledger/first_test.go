package ledger

import (
	"testing"

	"bulwark/api"
)

// TestFirst is P15.1 for First, field by field.
func TestFirst(t *testing.T) {
	l := First()
	if l.Day != 0 {
		t.Errorf("the day is %d", l.Day)
	}
	if len(l.Curs) != 1 || l.Curs[0].Rate != 1000000 || l.Curs[0].Hair != 0 {
		t.Errorf("the currencies are %+v", l.Curs)
	}
	if len(l.Accts) != 2 {
		t.Fatalf("the accounts are %+v", l.Accts)
	}
	for v, a := range l.Accts {
		if a.Parent != -1 || len(a.Cash) != 1 || a.Cash[0] != 0 || a.Flag || a.Last != 0 {
			t.Errorf("account %d is %+v", v, a)
		}
	}
	if len(l.Unders)+len(l.Instrs)+len(l.Poss)+len(l.Orders)+len(l.Avail)+len(l.Locs) != 0 {
		t.Errorf("there is more: %+v", l)
	}
}

// TestFirstValid is the first sentence of P15.2.
func TestFirstValid(t *testing.T) {
	checkGood(t, "the initial ledger", First(), true)
	if total, e := Total(First(), 0); total != 0 || e != api.OK {
		t.Errorf("its Total is %d, %d", total, e)
	}
}

// TestFirstOwn is P15.4 for First: what is done to one answer isn't seen in another one, nor in the next.
func TestFirstOwn(t *testing.T) {
	a, b := First(), First()
	want := apart(b)
	separate(t, "two of First", a, b)
	a.Curs[0] = api.Cur{Rate: 5, Hair: 6}
	a.Accts[0].Cash[0], a.Accts[1].Cash[0] = 7, 8
	a.Accts[0], a.Accts[1] = api.Acct{Parent: 3, Last: 4}, api.Acct{Flag: true}
	checkSame(t, "the other one", b, want, true)
	checkSame(t, "a third one", First(), want, true)
	ruin(&b)
	checkSame(t, "a fourth one", First(), want, true)
}

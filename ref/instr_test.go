package ref

import (
	"testing"

	"bulwark/api"
)

// share, future, put and call are valid where there are three underlyings.
var (
	share  = api.Instr{Kind: api.Equity, Under: 2, Mult: 1, Mark: 40}
	future = api.Instr{Kind: api.Future, Under: 2, Mult: 10, Expiry: 5, Mark: 40}
	put    = api.Instr{Kind: api.Option, Under: 2, Mult: 100, Strike: 50, Expiry: 5, Mark: 40}
	call   = api.Instr{Kind: api.Option, Under: 2, Mult: 100, Strike: 50, Expiry: 5, Call: true, Mark: 40}
)

// valid are those, each with its name.
var valid = []struct {
	name string
	i    api.Instr
}{{"share", share}, {"future", future}, {"put", put}, {"call", call}}

// with is the instrument after change.
func with(i api.Instr, change func(*api.Instr)) api.Instr {
	change(&i)
	return i
}

// TestInstr is P9.1 for Instr: valid ones, and those that have a field which their kind must not have, or lack one which it must.
func TestInstr(t *testing.T) {
	for _, c := range []struct {
		name string
		i    api.Instr
		want bool
	}{
		{"a share", share, true},
		{"a future", future, true},
		{"a put", put, true},
		{"a call", call, true},
		{"nothing", api.Instr{}, false},
		{"a share with a strike", with(share, func(i *api.Instr) { i.Strike = 1 }), false},
		{"a share with a strike below 0", with(share, func(i *api.Instr) { i.Strike = -1 }), false},
		{"a share with a day", with(share, func(i *api.Instr) { i.Expiry = 1 }), false},
		{"a share with a day below 0", with(share, func(i *api.Instr) { i.Expiry = -1 }), false},
		{"a share with Call", with(share, func(i *api.Instr) { i.Call = true }), false},
		{"a share with all of an option", with(call, func(i *api.Instr) { i.Kind = 1 }), false},
		{"a share with all of a future", with(future, func(i *api.Instr) { i.Kind = 1 }), false},
		{"a share whose strike and day add up to 0", with(share, func(i *api.Instr) { i.Strike, i.Expiry = 1, -1 }), false},
		{"a future with a strike", with(future, func(i *api.Instr) { i.Strike = 1 }), false},
		{"a future with a strike below 0", with(future, func(i *api.Instr) { i.Strike = -1 }), false},
		{"a future with Call", with(future, func(i *api.Instr) { i.Call = true }), false},
		{"a future without a day", with(future, func(i *api.Instr) { i.Expiry = 0 }), false},
		{"a future with all of a put", with(put, func(i *api.Instr) { i.Kind = 2 }), false},
		{"a future with all of a share", with(share, func(i *api.Instr) { i.Kind = 2 }), false},
		{"a put without a strike", with(put, func(i *api.Instr) { i.Strike = 0 }), false},
		{"a call without a strike", with(call, func(i *api.Instr) { i.Strike = 0 }), false},
		{"a put without a day", with(put, func(i *api.Instr) { i.Expiry = 0 }), false},
		{"a call without a day", with(call, func(i *api.Instr) { i.Expiry = 0 }), false},
		{"an option with all of a share", with(share, func(i *api.Instr) { i.Kind = 3 }), false},
		{"an option with all of a future", with(future, func(i *api.Instr) { i.Kind = 3 }), false},
	} {
		if Instr(c.i, 3) != c.want {
			t.Errorf("%s: Instr is %v", c.name, !c.want)
		}
	}
}

// TestInstrKinds is that there are no other kinds.
func TestInstrKinds(t *testing.T) {
	for _, kind := range []int{0, -1, -2, -3, 4, 5, 6, 1<<32 + 1, 1<<32 + 3, most, least, least + 1, least + 3} {
		for _, c := range valid {
			if i := with(c.i, func(i *api.Instr) { i.Kind = kind }); Instr(i, 3) {
				t.Errorf("%s with kind %d: Instr is true", c.name, kind)
			}
		}
	}
}

// edges are what one field may be: the first and the last that are valid. None is valid for a kind that must not have the field.
type edges struct {
	name        string
	set         func(*api.Instr, int)
	first, last int
	kinds       []bool // whether the kinds 1, 2 and 3 have it
}

// TestInstrEdges is that each field is valid at both its edges, and neither one beyond them nor far beyond.
func TestInstrEdges(t *testing.T) {
	all := []bool{true, true, true}
	for _, f := range []edges{
		{"Under", func(i *api.Instr, x int) { i.Under = x }, 0, 2, all},
		{"Mult", func(i *api.Instr, x int) { i.Mult = x }, 1, 1000000, all},
		{"Mark", func(i *api.Instr, x int) { i.Mark = x }, 0, 100000000000000, all},
		{"Strike", func(i *api.Instr, x int) { i.Strike = x }, 1, 1000000000000, []bool{false, false, true}},
		{"Expiry", func(i *api.Instr, x int) { i.Expiry = x }, 1, 100000, []bool{false, true, true}},
	} {
		for _, c := range valid {
			has := f.kinds[c.i.Kind-1]
			for _, x := range []int{f.first, f.first + 1, f.last - 1, f.last} {
				if i := with(c.i, func(i *api.Instr) { f.set(i, x) }); Instr(i, 3) != has {
					t.Errorf("%s with %s %d: Instr is %v", c.name, f.name, x, !has)
				}
			}
			for _, x := range []int{f.first - 1, f.last + 1, -2, -f.last, 2*f.last + 1, most, least} {
				// 0 is what a kind without the field must have.
				if x == 0 && !has {
					continue
				}
				if i := with(c.i, func(i *api.Instr) { f.set(i, x) }); Instr(i, 3) {
					t.Errorf("%s with %s %d: Instr is true", c.name, f.name, x)
				}
			}
		}
	}
}

// TestInstrUnders is that the underlying of an instrument is one of them, counted from 0.
func TestInstrUnders(t *testing.T) {
	for _, c := range []struct {
		under, unders int
		want          bool
	}{
		{0, 1, true}, {1, 1, false}, {1, 2, true}, {2, 2, false}, {0, 6, true}, {5, 6, true}, {6, 6, false}, {7, 6, false}, {6, 7, true},
		{0, 0, false}, {1, 0, false}, {-1, 0, false}, {0, -1, false}, {-1, -1, false}, {-2, -1, false}, {-1, -2, false},
		{-1, 1, false}, {-1, 6, false}, {-6, 6, false}, {1 << 32, 6, false}, {0, most, true}, {most - 1, most, true}, {most, most, false},
		{0, least, false}, {least, least, false}, {least, 6, false}, {most, 6, false}, {-1, most, false},
	} {
		for _, v := range valid {
			if i := with(v.i, func(i *api.Instr) { i.Under = c.under }); Instr(i, c.unders) != c.want {
				t.Errorf("%s on %d of %d: Instr is %v", v.name, c.under, c.unders, !c.want)
			}
		}
	}
}

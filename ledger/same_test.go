package ledger

import (
	"fmt"
	"reflect"
	"slices"
	"strings"
	"testing"

	"bulwark/api"
)

// others are values that a field hasn't.
func others(leaf reflect.Value) []reflect.Value {
	var list []reflect.Value
	switch x := leaf.Interface().(type) {
	case bool:
		list = append(list, reflect.ValueOf(!x))
	case string:
		for _, s := range []string{"", x + "A", "A" + x, strings.ToLower(x), x + "\x00", x[:len(x)-1], "ZZZ", "IBMX", "A", "NB"} {
			list = append(list, reflect.ValueOf(s))
		}
	case int:
		for _, y := range []int{x + 1, x - 1, -x, ^x, x + 1<<32, x ^ least, x ^ 1<<31, 0, 1, 2, 3, 4, 5, 1 << 40, most, least} {
			list = append(list, reflect.ValueOf(y))
		}
	}
	return slices.DeleteFunc(list, func(v reflect.Value) bool { return v.Equal(leaf) })
}

// TestNamed is P15.1 for Named: the first one, however often the name is there.
func TestNamed(t *testing.T) {
	list := func(names ...string) []api.Under {
		var unders []api.Under
		for k, name := range names {
			unders = append(unders, api.Under{Name: name, Price: k})
		}
		return unders
	}
	for _, c := range []struct {
		names []string
		name  string
		want  int
	}{
		{nil, "A", -1}, {nil, "", -1}, {[]string{}, "A", -1},
		{[]string{"A", "B", "C"}, "A", 0}, {[]string{"A", "B", "C"}, "B", 1}, {[]string{"A", "B", "C"}, "C", 2}, {[]string{"A", "B", "C"}, "D", -1}, {[]string{"A"}, "A", 0},
		{[]string{"B", "A", "A"}, "A", 1}, {[]string{"A", "B", "A"}, "A", 0}, {[]string{"A", "A", "A"}, "A", 0}, {[]string{"B", "C", "A", "D", "A"}, "A", 2},
		{[]string{"A", "B"}, "", -1}, {[]string{"A", ""}, "", 1}, {[]string{"", ""}, "", 0}, {[]string{""}, "A", -1},
		{[]string{"IBM", "IB", "IBMX", "I"}, "IB", 1}, {[]string{"IBM", "IB", "IBMX", "I"}, "I", 3}, {[]string{"IBM", "IB", "IBMX", "I"}, "IBMX", 2}, {[]string{"IBM", "IB", "IBMX"}, "IBMY", -1}, {[]string{"IBM", "IB"}, "I", -1}, {[]string{"IBM"}, "BM", -1},
		{[]string{"a", "A"}, "A", 1}, {[]string{"a", "A"}, "a", 0}, {[]string{"A "}, "A", -1}, {[]string{"A\x00", "A"}, "A", 1}, {[]string{"\xff", "\xfe"}, "\xfe", 1},
	} {
		if got := Named(list(c.names...), c.name); got != c.want || named(list(c.names...), c.name) != c.want {
			t.Errorf("Named(%q, %q): %d, not %d", c.names, c.name, got, c.want)
		}
	}
	unders := []api.Under{{Name: "A", Cur: 1}, {Name: "B"}, {Name: "A", Price: 7, Vol: 8}, {Name: "B", Cur: 2}}
	if Named(unders, "A") != 0 || Named(unders, "B") != 1 {
		t.Error("whatever else the underlyings have")
	}
}

// TestSameFields is P15.1 for Same of ledgers that differ in one field alone, for each field of each element.
func TestSameFields(t *testing.T) {
	count := 0
	l := full()
	leaves(inside(&l), "", func(path string, leaf reflect.Value) {
		for _, x := range others(leaf) {
			before := reflect.ValueOf(leaf.Interface())
			leaf.Set(x)
			checkSame(t, path, l, full(), false)
			leaf.Set(before)
			checkSame(t, path, l, full(), true)
			count++
		}
	})
	if count < 1500 {
		t.Errorf("only %d", count)
	}
}

// TestSameLengths is P15.1 for Same of ledgers one of whose lists is longer or shorter, at its end, its beginning and in its midst.
func TestSameLengths(t *testing.T) {
	l := full()
	lists(inside(&l), "", func(path string, list reflect.Value) {
		before := reflect.ValueOf(list.Interface())
		n := list.Len()
		try := func(what string, other reflect.Value) {
			t.Helper()
			list.Set(other)
			checkSame(t, path+" "+what, l, full(), false)
			list.Set(before)
		}
		try("without the last one", before.Slice(0, n-1))
		try("without the first one", before.Slice(1, n))
		try("with the last one twice", reflect.Append(before.Slice3(0, n, n), before.Index(n-1)))
		try("with one of zeros more", reflect.Append(before.Slice3(0, n, n), reflect.Zero(list.Type().Elem())))
		try("without any", before.Slice(0, 0))
		try("that is nil", reflect.Zero(list.Type()))
		for k := range n {
			try("without one", reflect.AppendSlice(before.Slice3(0, k, k), before.Slice(k+1, n)))
			try("with one twice", reflect.AppendSlice(before.Slice3(0, k+1, k+1), before.Slice(k, n)))
		}
	})
	checkSame(t, "full", l, full(), true)
}

// TestSameExchanged is P15.1 for Same of ledgers in which two elements of a list are exchanged.
func TestSameExchanged(t *testing.T) {
	l := full()
	lists(inside(&l), "", func(path string, list reflect.Value) {
		swap := reflect.Swapper(list.Interface())
		for k := range list.Len() {
			for j := range k {
				swap(j, k)
				checkSame(t, fmt.Sprintf("%s: %d and %d exchanged", path, j, k), l, full(), false)
				swap(j, k)
			}
		}
	})
	checkSame(t, "full", l, full(), true)
	l.Accts[2].Cash, l.Accts[3].Cash = l.Accts[3].Cash, l.Accts[2].Cash
	checkSame(t, "the cash of two accounts exchanged", l, full(), false)
	l = full()
	l.Poss, l.Locs = []api.Pos{pos(2, 0, 4)}, []api.Loc{loc(3, 0, 4)}
	m := full()
	m.Poss, m.Locs = []api.Pos{pos(3, 0, 4)}, []api.Loc{loc(2, 0, 4)}
	checkSame(t, "a position and a reservation exchanged", l, m, false)
}

// TestSameEmpty is P15.1 and rule 5 of the document for Same: an empty list equals nil, the cash of an account too.
func TestSameEmpty(t *testing.T) {
	l := full()
	lists(inside(&l), "", func(path string, list reflect.Value) {
		before := reflect.ValueOf(list.Interface())
		kinds := []reflect.Value{reflect.Zero(list.Type()), reflect.MakeSlice(list.Type(), 0, 0), reflect.MakeSlice(list.Type(), 0, 5), before.Slice(0, 0), before.Slice(1, 1)}
		for _, x := range kinds {
			for _, y := range kinds {
				list.Set(x)
				m := l
				m.Accts = slices.Clone(l.Accts)
				list.Set(y)
				checkSame(t, path, l, m, true)
				list.Set(before)
			}
		}
	})
	checkSame(t, "no lists", api.Ledger{}, samples()[9], true)
	checkSame(t, "no cash", funds(nil, []int{}, nil), funds([]int{}, nil, make([]int, 0, 9)), true)
	checkSame(t, "accounts without cash", funds(nil), funds(nil, nil), false)
	checkSame(t, "a cash of 0", funds(nil), funds([]int{0}), false)
}

// TestSameSamples is P15.1 for Same of every two samples, and of a sample and another making of it.
func TestSameSamples(t *testing.T) {
	for j, a := range samples() {
		for k, b := range samples() {
			checkSame(t, fmt.Sprintf("samples %d and %d", j, k), a, b, j == k || twin(a, b))
		}
	}
}

// TestCopy is P15.1 for Copy of ledgers, valid and not.
func TestCopy(t *testing.T) {
	for k, l := range samples() {
		before := apart(l)
		checkSame(t, fmt.Sprintf("sample %d and its copy", k), Copy(l), before, true)
		checkSame(t, fmt.Sprintf("sample %d behind Copy", k), l, before, true)
		if Good(Copy(l)) != valid(before) {
			t.Errorf("Good of the copy of sample %d is %t", k, !valid(before))
		}
		s := spread(l)
		checkSame(t, fmt.Sprintf("a copy of sample %d with spare capacity", k), Copy(s.arg), before, true)
	}
}

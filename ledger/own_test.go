package ledger

import (
	"cmp"
	"fmt"
	"reflect"
	"slices"
	"strings"
	"testing"

	"bulwark/api"
)

// fill makes junk of v: lists in new memory, and elsewhere x.
func fill(v reflect.Value, x int) {
	switch v.Kind() {
	case reflect.Struct:
		for k := range v.NumField() {
			fill(v.Field(k), x)
		}
	case reflect.Slice:
		v.Set(reflect.MakeSlice(v.Type(), 3, 3))
		scribble(v, x)
	case reflect.Int:
		v.SetInt(int64(x))
	case reflect.Bool:
		v.SetBool(x%2 != 0)
	case reflect.String:
		v.SetString(fmt.Sprint("JUNK", x))
	}
}

// scribble makes junk of each element of a list, with its spare capacity.
func scribble(list reflect.Value, x int) {
	for k := range list.Cap() {
		fill(list.Slice(0, list.Cap()).Index(k), x)
	}
}

// part is a list of a ledger as it was found: it can be written to when the ledger no longer has it.
type part struct {
	path string
	list reflect.Value
}

// parts are all lists of a ledger.
func parts(l *api.Ledger) []part {
	var all []part
	lists(inside(l), "", func(path string, list reflect.Value) {
		all = append(all, part{path, reflect.ValueOf(list.Interface())})
	})
	return all
}

// ruin makes junk of all lists of a ledger, with their spare capacity.
func ruin(l *api.Ledger) {
	for _, p := range parts(l) {
		scribble(p.list, 99)
	}
}

// separate fails where two lists of these ledgers, or of one of them, share memory.
func separate(t *testing.T, what string, ledgers ...api.Ledger) {
	t.Helper()
	type stretch struct {
		from, to uintptr
		name     string
	}
	var all []stretch
	for n := range ledgers {
		for _, p := range parts(&ledgers[n]) {
			if p.list.Cap() > 0 {
				from := p.list.Pointer()
				all = append(all, stretch{from, from + uintptr(p.list.Cap())*p.list.Type().Elem().Size(), fmt.Sprint(n, p.path)})
			}
		}
	}
	slices.SortFunc(all, func(a, b stretch) int { return cmp.Compare(a.from, b.from) })
	for k := 1; k < len(all); k++ {
		if all[k].from < all[k-1].to {
			t.Fatalf("%s: %s and %s share memory", what, all[k-1].name, all[k].name)
		}
	}
}

// spreading is a ledger each list of which stands in the midst of an array.
type spreading struct {
	arg            api.Ledger
	wholes, before []reflect.Value
}

// spread is the ledger with each of its lists, also an empty one, in the midst of an array.
func spread(l api.Ledger) *spreading {
	s := &spreading{arg: l}
	s.lay(inside(&s.arg))
	s.look()
	return s
}

// lay puts the lists of v into arrays.
func (s *spreading) lay(v reflect.Value) {
	switch v.Kind() {
	case reflect.Struct:
		for k := range v.NumField() {
			s.lay(v.Field(k))
		}
	case reflect.Slice:
		n := v.Len()
		whole := reflect.MakeSlice(v.Type(), n+7, n+7)
		scribble(whole, 77)
		reflect.Copy(whole.Slice(2, 2+n), v)
		for k := range n {
			s.lay(whole.Index(2 + k))
		}
		v.Set(whole.Slice(2, 2+n))
		s.wholes = append(s.wholes, whole)
	}
}

// look remembers what is in the arrays.
func (s *spreading) look() {
	s.before = nil
	for _, whole := range s.wholes {
		s.before = append(s.before, cloned(whole))
	}
}

// kept reports whether the whole arrays are as they were.
func (s *spreading) kept() bool {
	return slices.EqualFunc(s.wholes, s.before, equal)
}

// overwrite makes junk of the whole arrays.
func (s *spreading) overwrite(x int) {
	for _, whole := range s.wholes {
		scribble(whole, x)
	}
	s.look()
}

// owns fails unless a call leaves alone the whole arrays in which its argument's lists stand, and answers memory that is neither the argument's nor another answer's, nor twice in one answer.
func owns(t *testing.T, what string, l api.Ledger, call func(api.Ledger) api.Ledger) {
	t.Helper()
	s := spread(l)
	first, second, third := call(s.arg), call(s.arg), call(s.arg)
	want := apart(first)
	kept := func(when string) {
		t.Helper()
		if !s.kept() {
			t.Fatalf("%s: the arguments' arrays %s are %v, not %v", what, when, s.wholes, s.before)
		}
		if !twin(second, want) || !twin(third, want) {
			t.Fatalf("%s: the answers %s are %+v and %+v, not %+v", what, when, second, third, want)
		}
	}
	kept("behind the calls")
	separate(t, what, s.arg, first, second, third)
	ruin(&first)
	kept("after a change of another answer")
	for _, p := range parts(&second) {
		alone(t, what, p, &second, func() bool { return s.kept() && twin(third, want) })
	}
	kept("after a change of each list, which was taken back")
	s.overwrite(55)
	kept("after a change of the argument")
	ruin(&second)
	second = want
	kept("after a change of an answer")
}

// alone fails unless a change of one list of an answer leaves the other lists of it alone, and all else; it takes the change back.
func alone(t *testing.T, what string, changed part, answer *api.Ledger, rest func() bool) {
	t.Helper()
	all := parts(answer)
	var before []reflect.Value
	for _, p := range all {
		before = append(before, cloned(p.list))
	}
	whole := changed.list.Slice(0, changed.list.Cap())
	saved := reflect.MakeSlice(whole.Type(), whole.Len(), whole.Len())
	reflect.Copy(saved, whole)
	scribble(changed.list, 33)
	for k, p := range all {
		// The list itself turns, and so do the accounts where it is the cash of one of them.
		if !strings.HasPrefix(changed.path, p.path) && !equal(p.list, before[k]) {
			t.Fatalf("%s: %s turned with %s", what, p.path, changed.path)
		}
	}
	if !rest() {
		t.Fatalf("%s: something else turned with %s", what, changed.path)
	}
	reflect.Copy(whole, saved)
}

// TestCopyOwn is P15.4 for Copy.
func TestCopyOwn(t *testing.T) {
	for k, l := range samples() {
		owns(t, fmt.Sprintf("Copy of sample %d", k), l, Copy)
		separate(t, "sample and copy", l, Copy(l))
	}
}

// TestPayOwn is P15.4 for Pay: of much, of nothing, to another account and to itself, and with errors.
func TestPayOwn(t *testing.T) {
	for k, l := range samples() {
		for _, from := range []int{-1, 0, 1, 2, 3, 4} {
			for _, to := range []int{0, 1, 3, 4, 99} {
				for _, amount := range []int{0, 1, -7, top, top + 1} {
					want, wantErr := paid(l, 0, amount, from, to)
					owns(t, fmt.Sprintf("Pay in sample %d", k), l, func(l api.Ledger) api.Ledger {
						got, e := Pay(l, 0, amount, from, to)
						if e != wantErr || !twin(got, want) {
							t.Errorf("Pay(%+v, 0, %d, %d, %d): %+v, %d", l, amount, from, to, got, e)
						}
						return got
					})
				}
			}
		}
		got, _ := Pay(l, 0, 0, 0, 1)
		separate(t, "Pay of 0", l, got)
		got, _ = Pay(l, 0, 0, 0, 0)
		separate(t, "Pay of 0 to itself", l, got)
		got, _ = Pay(l, 0, 5, 0, 0)
		separate(t, "Pay to itself", l, got)
	}
}

// TestAskOwn is P15.4 for the calls that answer no ledger: they leave their arguments alone, and answer the same again.
func TestAskOwn(t *testing.T) {
	for k, l := range samples() {
		other := spread(full())
		owns(t, fmt.Sprintf("the others of sample %d", k), l, func(m api.Ledger) api.Ledger {
			checkGood(t, "Good", m, valid(l))
			checkSame(t, "Same", m, other.arg, k == 0)
			checkSame(t, "Same of one twice", m, m, true)
			if Named(m.Unders, "IB") != named(l.Unders, "IB") || Named(m.Unders, "JUNK77") != -1 {
				t.Errorf("Named in %+v", m.Unders)
			}
			for cur := -1; cur < 6; cur++ {
				checkTotal(t, m, cur)
			}
			return api.Ledger{}
		})
		if !other.kept() {
			t.Errorf("Same with sample %d changed the other one", k)
		}
	}
}

// TestShared is P15.4 for ledgers two lists of which are in the same memory: they are not in the result.
func TestShared(t *testing.T) {
	cash := []int{10, 20, 30, 40}
	l := funds(cash[:3], cash[:3], cash[1:], cash[:2:2])
	l.Avail = cash
	before := apart(l)
	c := Copy(l)
	checkSame(t, "the copy", c, before, true)
	separate(t, "the copy", c)
	for to := range 4 {
		for from := range 4 {
			want, wantErr := paid(before, 1, 7, from, to)
			got, e := Pay(l, 1, 7, from, to)
			if e != wantErr || !twin(got, want) {
				t.Errorf("Pay(%+v, 1, 7, %d, %d): %+v, %d", l, from, to, got, e)
			}
			separate(t, "Pay", got)
			checkSame(t, "the argument", l, before, true)
		}
	}
	accts := l.Accts
	l.Accts = slices.Concat(accts, accts)
	separate(t, "each account twice", Copy(l))
}

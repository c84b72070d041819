package locate

import (
	"slices"
	"testing"

	"bulwark/api"
)

// The numbers and the reservations that stand in the memory about a list.
var (
	junk    = 77
	junkLoc = loc(7, 7, 7)
)

// span is a list in the midst of an array.
type span[T comparable] struct {
	whole, before, arg []T
}

// spanned is a list with junk ahead of it and behind it.
func spanned[T comparable](list []T, junk T) *span[T] {
	whole := slices.Concat([]T{junk, junk}, list, slices.Repeat([]T{junk}, 40))
	return &span[T]{whole: whole, before: slices.Clone(whole), arg: whole[2 : 2+len(list)]}
}

// kept reports whether the whole array is as it was.
func (s *span[T]) kept() bool { return slices.Equal(s.whole, s.before) }

// overwrite writes over the whole array.
func (s *span[T]) overwrite(x T) {
	scribble(s.whole, x)
	s.before = slices.Clone(s.whole)
}

// scribble overwrites a list, with its spare capacity.
func scribble[T any](list []T, x T) {
	list = list[:cap(list)]
	for k := range list {
		list[k] = x
	}
}

// answer is what a call answered.
type answer struct {
	avail []int
	locs  []api.Loc
}

// copied is an answer in memory of its own.
func (a answer) copied() answer { return answer{slices.Clone(a.avail), slices.Clone(a.locs)} }

// same reports whether two answers are the same.
func (a answer) same(b answer) bool {
	return slices.Equal(a.avail, b.avail) && slices.Equal(a.locs, b.locs)
}

// owns fails unless a call leaves alone the whole arrays in which its arguments stand, and answers memory that is neither the arguments' nor another answer's.
func owns(t *testing.T, what string, avail []int, locs []api.Loc, call func([]int, []api.Loc) answer) {
	t.Helper()
	a, l := spanned(avail, junk), spanned(locs, junkLoc)
	first, second, third := call(a.arg, l.arg), call(a.arg, l.arg), call(a.arg, l.arg)
	want := first.copied()
	kept := func(when string) {
		t.Helper()
		if !a.kept() || !l.kept() {
			t.Fatalf("%s: the arguments' arrays %s are %v and %v, not %v and %v", what, when, a.whole, l.whole, a.before, l.before)
		}
		if !second.same(want) || !third.same(want) {
			t.Fatalf("%s: the answers %s are %v and %v, not %v", what, when, second, third, want)
		}
	}
	kept("behind the calls")
	scribble(first.avail, junk)
	scribble(first.locs, junkLoc)
	kept("after a change of another answer")
	scribble(second.avail[len(second.avail):], junk)
	scribble(second.locs[len(second.locs):], junkLoc)
	kept("after a change of an answer's spare capacity")
	a.overwrite(junk + 1)
	l.overwrite(api.Loc{})
	kept("after a change of the arguments")
	scribble(second.avail, junk)
	scribble(second.locs, junkLoc)
	second = want
	kept("after a change of an answer")
}

// lists are reservations of several lengths.
func lists() [][]api.Loc {
	return [][]api.Loc{nil, {}, some, some[:1], many(12), many(31), many(32), many(33)}
}

// supplies are what there is of instruments.
func supplies() [][]int {
	return [][]int{nil, {5}, stock12, make([]int, 12), slices.Repeat([]int{topQty}, 12)}
}

// TestGoodOwn is P14.3 for Good and Held: they leave the lists alone.
func TestGoodOwn(t *testing.T) {
	for _, locs := range append(lists(), []api.Loc{some[1], some[0]}, many(64)) {
		for _, avail := range supplies() {
			owns(t, "Good", avail, locs, func(a []int, l []api.Loc) answer {
				checkGood(t, a, l, 16, 12, valid(avail, locs, 16, 12))
				checkGood(t, a, l, 13, len(avail), valid(avail, locs, 13, len(avail)))
				return answer{}
			})
		}
		owns(t, "Held", nil, locs, func(_ []int, l []api.Loc) answer {
			if slices.IsSortedFunc(locs, compare) && (Held(l, 7, 7) != reserved(locs)[key{7, 7}] || Held(l, 4, 3) != reserved(locs)[key{4, 3}]) {
				t.Errorf("Held of %v", l)
			}
			return answer{}
		})
	}
}

// TestSupplyOwn is P14.3 for Supply: of more, of less, of nothing, and with errors.
func TestSupplyOwn(t *testing.T) {
	for _, avail := range supplies() {
		for instr := -1; instr < 13; instr++ {
			for _, qty := range []int{0, 1, -1, 7, topQty, -topQty, topQty + 1} {
				want, wantErr := supplied(avail, instr, qty)
				owns(t, "Supply", avail, nil, func(a []int, _ []api.Loc) answer {
					got, e := Supply(a, instr, qty)
					if !slices.Equal(got, want) || e != wantErr {
						t.Errorf("Supply(%v, %d, %d): %v, %d", avail, instr, qty, got, e)
					}
					return answer{got, nil}
				})
			}
		}
	}
}

// TestReserveOwn is P14.3 for Reserve: of a new reservation, of one that there is, in part and whole, of nothing, and with errors.
func TestReserveOwn(t *testing.T) {
	for _, avail := range supplies() {
		for _, locs := range lists() {
			keys := []key{{1, 1}, {2, 12}, {4, 2}, {7, 7}, {99, 0}}
			for _, l := range locs {
				keys = append(keys, key{l.Acct, l.Instr})
			}
			for _, k := range keys {
				for _, qty := range []int{0, 1, 4, -1, -reserved(locs)[k], topQty, -topQty, topQty + 1} {
					reserveOwn(t, avail, locs, k[0], k[1], qty)
				}
			}
		}
	}
}

// reserveOwn is P14.3 for one call of Reserve.
func reserveOwn(t *testing.T, avail []int, locs []api.Loc, acct, instr, qty int) {
	t.Helper()
	want, rest, wantErr := moved(avail, locs, acct, instr, qty)
	owns(t, "Reserve", avail, locs, func(a []int, l []api.Loc) answer {
		got, left, e := Reserve(a, l, acct, instr, qty)
		if !slices.Equal(got, want) || !slices.Equal(left, rest) || e != wantErr {
			t.Errorf("Reserve(%v, %v, %d, %d, %d): %v, %v, %d", avail, locs, acct, instr, qty, got, left, e)
		}
		return answer{got, left}
	})
}

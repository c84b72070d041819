package tree

import (
	"slices"
	"testing"

	"bulwark/api"
)

// roomy is the list with spare capacity behind it, and all of that.
func roomy(list []int) (arg, whole []int) {
	whole = append(slices.Clone(list), 2, 3, -1, 2, 16)
	return whole[:len(list)], whole
}

// scribble overwrites the whole list, with the spare capacity behind it.
func scribble(list []int) {
	list = list[:cap(list)]
	for i := range list {
		list[i] = -77
	}
}

// someLists are lists for the tests of P10.3, valid ones and others.
func someLists() [][]int {
	return [][]int{nil, {-1}, after(), after(-1), after(-1, 2, 3), chain(6), chain(7), chain(16, 6, 10, 14), lone(16), lone(17), after(0), after(most), chain(14)}
}

// TestCheckOwns is P10.3 for Check.
func TestCheckOwns(t *testing.T) {
	for _, list := range someLists() {
		arg, whole := roomy(list)
		before := slices.Clone(whole)
		if got := checked(arg); got != judged(list) || !slices.Equal(whole, before) {
			t.Errorf("Check(%v): %v; the argument is %v", list, got, whole)
		}
	}
}

// TestParentsOwn is P10.3 for Parents.
func TestParentsOwn(t *testing.T) {
	for _, list := range someLists() {
		var whole []api.Acct
		for v, p := range append(slices.Clone(list), 5, 6, 7) {
			whole = append(whole, api.Acct{Parent: p, Cash: []int{v, v}, Flag: true, Last: v})
		}
		first, second, third := Parents(whole[:len(list)]), Parents(whole[:len(list)]), Parents(whole[:len(list)])
		for v, a := range whole {
			if p := append(slices.Clone(list), 5, 6, 7)[v]; a.Parent != p || !slices.Equal(a.Cash, []int{v, v}) || !a.Flag || a.Last != v {
				t.Errorf("%v: account %d has become %v", list, v, a)
			}
		}
		scribble(first)
		_ = append(second, 8, 9)
		for v := range whole {
			whole[v] = api.Acct{Parent: -88}
		}
		if !slices.Equal(second, list) || !slices.Equal(third, list) {
			t.Errorf("Parents of %v have become %v and %v", list, second, third)
		}
	}
}

// TestAboveOwns is P10.3 for Above: changes to its argument, ahead of the first iteration, within one and after it, are not seen.
func TestAboveOwns(t *testing.T) {
	for _, list := range someLists() {
		for v := range len(list) + 1 {
			arg, whole := roomy(list)
			before, want := slices.Clone(whole), over(list, v)
			early, seq := Above(arg, v), Above(arg, v)
			if got := some(seq, -1); !slices.Equal(got, want) || !slices.Equal(whole, before) {
				t.Fatalf("Above(%v, %d): %v; the argument is %v", list, v, got, whole)
			}
			for u := range seq {
				if u != want[0] {
					t.Errorf("Above(%v, %d) in other words: %d, want %d", list, v, u, want[0])
				}
				want = want[1:]
				scribble(whole)
			}
			want = over(list, v)
			for _, change := range []func(){func() { scribble(whole) }, func() { copy(whole, lone(len(whole))) }, func() { copy(whole, chain(len(whole))) }, func() { copy(whole, before) }} {
				change()
				if got, other := some(seq, -1), some(early, -1); !slices.Equal(got, want) || !slices.Equal(other, want) {
					t.Errorf("Above(%v, %d), with its argument changed to %v: %v and %v, want %v", list, v, whole, got, other, want)
				}
			}
		}
	}
}

// TestAboveOfChanged is that a list that has become valid behind the call of Above is still none for it.
func TestAboveOfChanged(t *testing.T) {
	for _, list := range [][]int{after(0, 2), after(-1, 3), {-1, 0, -1, 2}, after(most, 2), lone(17)} {
		for v := range list {
			arg := slices.Clone(list)
			seq := Above(arg, v)
			copy(arg, after(-1, 2))
			if got := some(seq, -1); len(got) != 0 {
				t.Errorf("Above(%v, %d), valid later: %v", list, v, got)
			}
		}
	}
}

// TestBelowOwns is P10.3 for Below.
func TestBelowOwns(t *testing.T) {
	for _, list := range someLists() {
		for v := range len(list) + 1 {
			arg, whole := roomy(list)
			before, want := slices.Clone(whole), under(list, v)
			first, second, third := Below(arg, v), Below(arg, v), Below(arg, v)
			if !slices.Equal(first, want) || !slices.Equal(whole, before) {
				t.Fatalf("Below(%v, %d): %v; the argument is %v", list, v, first, whole)
			}
			scribble(first)
			_ = append(second, 8, 9)
			if !slices.Equal(second, want) || !slices.Equal(third, want) || !slices.Equal(whole, before) {
				t.Errorf("Below(%v, %d), scribbled: %v and %v; the argument is %v", list, v, second, third, whole)
			}
			scribble(whole)
			if !slices.Equal(second, want) || !slices.Equal(third, want) {
				t.Errorf("Below(%v, %d) has become %v and %v", list, v, second, third)
			}
		}
	}
}

// TestDepthOwns is P10.3 for Depth.
func TestDepthOwns(t *testing.T) {
	for _, list := range someLists() {
		for v := range len(list) + 1 {
			arg, whole := roomy(list)
			before := slices.Clone(whole)
			if got := Depth(arg, v); got != len(over(list, v)) || !slices.Equal(whole, before) {
				t.Errorf("Depth(%v, %d): %d; the argument is %v", list, v, got, whole)
			}
		}
	}
}

// TestSpare is that what stands behind a list does not count: accounts there have neither parents nor children.
func TestSpare(t *testing.T) {
	whole := after(-1, 2, 3, 4)
	for n := 2; n < len(whole); n++ {
		for v := range len(whole) {
			walksLike(t, whole[:n], v)
		}
		like(t, whole[:n])
	}
	if got := Below(whole[:4], 2); !slices.Equal(got, []int{2, 3}) {
		t.Errorf("Below 2 of the first four: %v", got)
	}
}

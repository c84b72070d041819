package grid

import (
	"iter"
	"slices"
	"testing"
)

// item is what All yields at one time.
type item struct {
	s      int
	shifts [2]int
}

// allItems is what it yields in all.
var allItems = []item{
	{0, [2]int{-2000, -2500}},
	{1, [2]int{-2000, 0}},
	{2, [2]int{-2000, 2500}},
	{3, [2]int{-1000, -2500}},
	{4, [2]int{-1000, 0}},
	{5, [2]int{-1000, 2500}},
	{6, [2]int{-500, -2500}},
	{7, [2]int{-500, 0}},
	{8, [2]int{-500, 2500}},
	{9, [2]int{0, -2500}},
	{10, [2]int{0, 0}},
	{11, [2]int{0, 2500}},
	{12, [2]int{500, -2500}},
	{13, [2]int{500, 0}},
	{14, [2]int{500, 2500}},
	{15, [2]int{1000, -2500}},
	{16, [2]int{1000, 0}},
	{17, [2]int{1000, 2500}},
	{18, [2]int{2000, -2500}},
	{19, [2]int{2000, 0}},
	{20, [2]int{2000, 2500}},
}

// some are the first n items that the iteration yields; all of them, if n is negative.
func some(seq iter.Seq2[int, [2]int], n int) []item {
	var got []item
	if n == 0 {
		return got
	}
	for s, shifts := range seq {
		if got = append(got, item{s, shifts}); len(got) == n {
			break
		}
	}
	return got
}

// first are the first n of all items; all of them, if n is negative.
func first(n int) []item {
	if n < 0 {
		return allItems
	}
	return allItems[:min(n, len(allItems))]
}

// TestAll is P12.1 for All by itself, and for one that is iterated over again, also after it was left at each of its items.
func TestAll(t *testing.T) {
	seq := All()
	lengths := []int{-1, -1}
	for n := range 23 {
		lengths = append(lengths, n, -1, n, n, 22-n)
	}
	for _, n := range append(lengths, -1) {
		for _, one := range []iter.Seq2[int, [2]int]{seq, All()} {
			if got := some(one, n); !slices.Equal(got, first(n)) {
				t.Errorf("the first %d: %v", n, got)
			}
		}
	}
}

// TestAllStops is that an iteration that is left calls its yield no more.
func TestAllStops(t *testing.T) {
	seq := All()
	for n := 1; n <= 22; n++ {
		calls := 0
		seq(func(int, [2]int) bool {
			calls++
			return calls < n
		})
		if calls != min(n, 21) {
			t.Errorf("left at %d: %d calls", n, calls)
		}
	}
}

// TestAllNested is that All may be iterated over within itself, the inner one left early or not.
func TestAllNested(t *testing.T) {
	seq := All()
	for n := -1; n <= 22; n++ {
		var outer []item
		for s, shifts := range seq {
			outer = append(outer, item{s, shifts})
			if inner := some(seq, n); !slices.Equal(inner, first(n)) {
				t.Errorf("the first %d within itself: %v", n, inner)
			}
		}
		if !slices.Equal(outer, allItems) {
			t.Errorf("around itself: %v", outer)
		}
	}
}

// TestAllByTurns is that two iterations go on side by side, whichever is ahead and by how much, over one All and over two.
func TestAllByTurns(t *testing.T) {
	seq := All()
	for _, other := range []iter.Seq2[int, [2]int]{seq, All()} {
		for lead := range 22 {
			next, stop := iter.Pull2(seq)
			beside, stopBeside := iter.Pull2(other)
			var a, b []item
			for range lead {
				a = pull(a, next)
			}
			for range 22 {
				b = pull(b, beside)
				a = pull(a, next)
			}
			stop()
			stopBeside()
			if !slices.Equal(a, allItems) || !slices.Equal(b, allItems) {
				t.Errorf("with a lead of %d: %v and %v", lead, a, b)
			}
		}
	}
}

// pull appends the next item to got, if there is one.
func pull(got []item, next func() (int, [2]int, bool)) []item {
	if s, shifts, more := next(); more {
		got = append(got, item{s, shifts})
	}
	return got
}

// TestAllPanics is that what a yield stops by is the caller's, and that the iteration can begin anew after it.
func TestAllPanics(t *testing.T) {
	seq := All()
	for at := range 21 {
		func() {
			defer func() {
				if r := recover(); r != "stop" {
					t.Errorf("recovered %v", r)
				}
			}()
			for s := range seq {
				if s == at {
					panic("stop")
				}
			}
		}()
		if got := some(seq, -1); !slices.Equal(got, allItems) {
			t.Errorf("after a panic: %v", got)
		}
	}
}

// TestAllOwn is that what is yielded is the caller's to change.
func TestAllOwn(t *testing.T) {
	seq := All()
	for range 2 {
		seq(func(s int, shifts [2]int) bool {
			for i := range shifts {
				shifts[i] = -77
			}
			return shifts[0] == shifts[1]
		})
		if got := some(seq, -1); !slices.Equal(got, allItems) {
			t.Errorf("after changes: %v", got)
		}
	}
}

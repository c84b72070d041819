package tree

import (
	"iter"
	"slices"
	"testing"
)

// some are the first n accounts that the iteration yields; all of them, if n is negative.
func some(seq iter.Seq[int], n int) []int {
	var got []int
	if n == 0 {
		return got
	}
	for u := range seq {
		if got = append(got, u); len(got) == n {
			break
		}
	}
	return got
}

// walks are accounts of valid lists, each with those above it and those below it.
var walks = []struct {
	parents      []int
	v            int
	above, below []int
}{
	// The chapter's examples.
	{after(-1, 2, 3), 4, []int{4, 3, 2}, []int{4}},
	{after(-1, 2, 3), 2, []int{2}, []int{2, 3, 4}},

	{after(), 0, []int{0}, []int{0}},
	{after(), 1, []int{1}, []int{1}},
	{after(-1), 0, []int{0}, []int{0}},
	{after(-1), 1, []int{1}, []int{1}},
	{after(-1), 2, []int{2}, []int{2}},
	{after(-1, 2, 3), 0, []int{0}, []int{0}},
	{after(-1, 2, 3), 1, []int{1}, []int{1}},
	{after(-1, 2, 3), 3, []int{3, 2}, []int{3, 4}},
	{after(-1, 2, 3, 4), 5, []int{5, 4, 3, 2}, []int{5}},
	{after(-1, 2, 3, 4), 4, []int{4, 3, 2}, []int{4, 5}},
	{after(-1, 2, 3, 4), 2, []int{2}, []int{2, 3, 4, 5}},
	{after(-1, -1, 2, 3, 4, 5), 2, []int{2}, []int{2, 4, 6}},
	{after(-1, -1, 2, 3, 4, 5), 3, []int{3}, []int{3, 5, 7}},
	{after(-1, -1, 2, 3, 4, 5), 6, []int{6, 4, 2}, []int{6}},
	{after(-1, -1, 2, 3, 4, 5), 7, []int{7, 5, 3}, []int{7}},
	{after(-1, 2, 2, 2, 4, 3), 2, []int{2}, []int{2, 3, 4, 5, 6, 7}},
	{after(-1, 2, 2, 2, 4, 3), 4, []int{4, 2}, []int{4, 6}},
	{after(-1, 2, 2, 2, 4, 3), 7, []int{7, 3, 2}, []int{7}},
	{after(-1, 2, -1, -1, -1, 2), 2, []int{2}, []int{2, 3, 7}},
	{lone(16), 15, []int{15}, []int{15}},
	{with(lone(16), 15, 2), 15, []int{15, 2}, []int{15}},
	{with(lone(16), 15, 2), 2, []int{2}, []int{2, 15}},
	{chain(16, 6, 10, 14), 13, []int{13, 12, 11, 10}, []int{13}},
	{chain(16, 6, 10, 14), 10, []int{10}, []int{10, 11, 12, 13}},
	{chain(16, 6, 10, 14), 15, []int{15, 14}, []int{15}},
}

// TestWalks is P10.1 for Above, Below and Depth of accounts that there are.
func TestWalks(t *testing.T) {
	for _, c := range walks {
		if got := some(Above(c.parents, c.v), -1); !slices.Equal(got, c.above) {
			t.Errorf("Above(%v, %d): %v, want %v", c.parents, c.v, got, c.above)
		}
		if got := Below(c.parents, c.v); !slices.Equal(got, c.below) {
			t.Errorf("Below(%v, %d): %v, want %v", c.parents, c.v, got, c.below)
		}
		if got := Depth(c.parents, c.v); got != len(c.above) {
			t.Errorf("Depth(%v, %d): %d, want %d", c.parents, c.v, got, len(c.above))
		}
	}
}

// head is the list, or its first accounts, if it is a long one.
func head(list []int) []int { return list[:min(20, len(list))] }

// nothing fails unless there is neither an account above v, nor one below it, nor a depth.
func nothing(t *testing.T, parents []int, v int) {
	t.Helper()
	seq := Above(parents, v)
	if seq == nil {
		t.Fatalf("Above(%v, %d) is no iterator", head(parents), v)
	}
	for range 2 {
		for u := range seq {
			t.Errorf("Above(%v, %d) yields %d", head(parents), v, u)
		}
	}
	if got := Below(parents, v); len(got) != 0 {
		t.Errorf("Below(%v, %d): %v", head(parents), v, got)
	}
	if got := Depth(parents, v); got != 0 {
		t.Errorf("Depth(%v, %d): %d", head(parents), v, got)
	}
}

// nobody are numbers that no account has where there are n.
func nobody(n int) []int {
	return []int{-1, -2, -16, n, n + 1, n + 16, 1 << 32, 1<<32 + 2, -1 << 32, most, most - 1, lowest, lowest + 1, lowest + 2}
}

// TestNobody is that there is nothing above or below an account that is not there.
func TestNobody(t *testing.T) {
	for _, parents := range [][]int{after(), after(-1), after(-1, 2, 3), chain(6), lone(16), chain(16, 6, 10, 14)} {
		for _, v := range nobody(len(parents)) {
			nothing(t, parents, v)
		}
	}
}

// TestNotValid is that there is nothing above or below any account of a list that is not valid, also of those ahead of the fault.
func TestNotValid(t *testing.T) {
	for _, c := range append(lists, struct {
		parents []int
		want    verdict
	}{nil, few}) {
		if c.want == valid {
			continue
		}
		for v := range head(c.parents) {
			nothing(t, c.parents, v)
		}
		for _, v := range nobody(len(c.parents)) {
			nothing(t, c.parents, v)
		}
	}
}

// TestManyAccounts is that lists of too many accounts have nothing above or below anything.
func TestManyAccounts(t *testing.T) {
	for _, parents := range [][]int{lone(17), chain(17, 6, 10, 14), lone(1 << 16), lone(1 << 20)} {
		for _, v := range []int{0, 1, 2, 15, 16, len(parents) - 1, len(parents)} {
			nothing(t, parents, v)
		}
	}
}

// TestAboveAgain is that Above may be iterated over repeatedly, each time from its beginning, also where it was left ahead of its end: at the first account, in the midst, at the last one.
func TestAboveAgain(t *testing.T) {
	for _, c := range walks {
		seq := Above(c.parents, c.v)
		for _, n := range []int{-1, -1, 0, 1, 2, 3, 4, -1, 4, 3, 2, 1, 0, 1, -1, 2, 2, -1} {
			want := c.above
			if n >= 0 {
				want = want[:min(n, len(want))]
			}
			if got := some(seq, n); !slices.Equal(got, want) {
				t.Errorf("Above(%v, %d): %v, of which the first %d are %v", c.parents, c.v, c.above, n, got)
			}
		}
	}
}

// TestAboveStops is that an iteration that is left calls its yield no more.
func TestAboveStops(t *testing.T) {
	for _, c := range walks {
		seq := Above(c.parents, c.v)
		for n := 1; n <= len(c.above)+1; n++ {
			calls := 0
			seq(func(int) bool {
				calls++
				return calls < n
			})
			if calls != min(n, len(c.above)) {
				t.Errorf("Above(%v, %d), left at %d of %d: %d calls", c.parents, c.v, n, len(c.above), calls)
			}
		}
	}
}

// TestAboveTwice is that Above may be iterated over within itself, the inner one left early or not.
func TestAboveTwice(t *testing.T) {
	for _, c := range walks {
		seq := Above(c.parents, c.v)
		for n := -1; n <= 5; n++ {
			var outer []int
			for u := range seq {
				outer = append(outer, u)
				want := c.above
				if n >= 0 {
					want = want[:min(n, len(want))]
				}
				if inner := some(seq, n); !slices.Equal(inner, want) {
					t.Errorf("Above(%v, %d) within itself: %v, want %v", c.parents, c.v, inner, want)
				}
			}
			if !slices.Equal(outer, c.above) {
				t.Errorf("Above(%v, %d) around itself: %v, want %v", c.parents, c.v, outer, c.above)
			}
		}
	}
}

// TestAbovePulled is that two iterations over one Above, and those over several, go on side by side, none seeing the others.
func TestAbovePulled(t *testing.T) {
	parents := chain(16, 6, 10, 14)
	for v := range parents {
		for w := range parents {
			seq := Above(parents, v)
			for _, other := range []iter.Seq[int]{seq, Above(parents, w)} {
				a, b := some(seq, -1), some(other, -1)
				next, stop := iter.Pull(other)
				var got, beside []int
				for u := range seq {
					got = append(got, u)
					if x, more := next(); more {
						beside = append(beside, x)
					}
				}
				for x, more := next(); more; x, more = next() {
					beside = append(beside, x)
				}
				stop()
				if !slices.Equal(got, a) || !slices.Equal(beside, b) {
					t.Errorf("Above %d beside another one: %v and %v, want %v and %v", v, got, beside, a, b)
				}
			}
		}
	}
}

// TestAbovePanics is that what a yield stops by is the caller's, and that the iteration can begin anew after it.
func TestAbovePanics(t *testing.T) {
	seq := Above(chain(6), 5)
	func() {
		defer func() {
			if r := recover(); r != "stop" {
				t.Errorf("recovered %v", r)
			}
		}()
		for u := range seq {
			if u == 4 {
				panic("stop")
			}
		}
	}()
	if got := some(seq, -1); !slices.Equal(got, []int{5, 4, 3, 2}) {
		t.Errorf("after a panic: %v", got)
	}
}

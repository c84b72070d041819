package tree

import (
	"math/rand"
	"slices"
	"testing"
)

// pairs fails unless P10.2 holds for every two accounts of the list.
func pairs(t *testing.T, parents []int) {
	t.Helper()
	below := make([][]int, len(parents))
	for v := range parents {
		below[v] = Below(parents, v)
		if !slices.IsSorted(below[v]) || len(slices.Compact(slices.Clone(below[v]))) != len(below[v]) {
			t.Fatalf("%v: Below of %d is %v", parents, v, below[v])
		}
	}
	for u := range parents {
		above := some(Above(parents, u), -1)
		for v := range parents {
			if slices.Contains(below[v], u) != slices.Contains(above, v) {
				t.Fatalf("%v: Below of %d is %v, Above of %d is %v", parents, v, below[v], u, above)
			}
		}
	}
	rootsApart(t, parents, below)
}

// rootsApart fails where two accounts without a parent have a common descendant, or where one has none at all.
func rootsApart(t *testing.T, parents []int, below [][]int) {
	t.Helper()
	roots := map[int]int{}
	for v, p := range parents {
		if p != -1 {
			continue
		}
		for _, u := range below[v] {
			if w, twice := roots[u]; twice {
				t.Fatalf("%v: %d is below %d and %d", parents, u, w, v)
			}
			roots[u] = v
		}
	}
	if len(roots) != len(parents) {
		t.Fatalf("%v: only %d accounts are below one without a parent", parents, len(roots))
	}
}

// TestPairsOfFew is P10.2 for all valid lists of up to 8 accounts.
func TestPairsOfFew(t *testing.T) {
	count := 0
	for n := range 7 {
		every(after(), n, -1, n, func(parents []int) {
			if checked(parents) == valid {
				count++
				pairs(t, parents)
			}
		})
	}
	if count < 700 {
		t.Errorf("only %d lists", count)
	}
}

// TestPairsOfMany is P10.2 for valid lists of up to 16 accounts.
func TestPairsOfMany(t *testing.T) {
	r := rand.New(rand.NewSource(2))
	for range 20000 {
		parents := forest(r, 2+r.Intn(15))
		if checked(parents) != valid {
			t.Fatalf("%v is not valid", parents)
		}
		pairs(t, parents)
	}
	for _, parents := range [][]int{after(), lone(16), chain(6), chain(16, 6, 10, 14), after(-1, 2, 2, 2, 2, 2, 2, 2, 2, 2, 2, 2, 2, 2)} {
		pairs(t, parents)
	}
}

// TestPath is that Above leads from an account to one without a parent, by parents, over at most four accounts, each with a smaller number.
func TestPath(t *testing.T) {
	r := rand.New(rand.NewSource(4))
	longest := 0
	for range 5000 {
		parents := forest(r, 2+r.Intn(15))
		for v := range parents {
			up := some(Above(parents, v), -1)
			longest = max(longest, len(up))
			if len(up) == 0 || len(up) > 4 || up[0] != v || parents[up[len(up)-1]] != -1 {
				t.Fatalf("%v: Above of %d is %v", parents, v, up)
			}
			for i, u := range up[1:] {
				if u >= up[i] || parents[up[i]] != u {
					t.Fatalf("%v: Above of %d is %v", parents, v, up)
				}
			}
		}
	}
	if longest != 4 {
		t.Errorf("the longest path has %d accounts", longest)
	}
}

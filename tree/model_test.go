package tree

import (
	"math/rand"
	"slices"
	"testing"

	"bulwark/api"
)

// path are the accounts from v to its root, as far as they are accounts of the list, and no more than six of them.
func path(parents []int, v int) []int {
	var up []int
	for v >= 0 && v < len(parents) && len(up) < 6 {
		up = append(up, v)
		v = parents[v]
	}
	return up
}

// holds says the conditions of the section 'Accounts' on the parents of an account, and on its path.
func holds(parents []int, v int) bool {
	p := parents[v]
	if v == 0 || v == 1 {
		return p == -1
	}
	if p == 0 || p == 1 {
		return false
	}
	hasParent := p >= 0 && p < v
	return (p == -1 || hasParent) && len(path(parents, v)) <= 4
}

// judged says what Check answers.
func judged(parents []int) verdict {
	if len(parents) < 2 {
		return verdict{0, api.ErrAcct}
	}
	if len(parents) > 16 {
		return verdict{16, api.ErrRoom}
	}
	for v := range parents {
		if !holds(parents[:v+1], v) {
			return verdict{v, api.ErrAcct}
		}
	}
	return verdict{0, api.OK}
}

// over says what Above yields.
func over(parents []int, v int) []int {
	if judged(parents).e != api.OK {
		return nil
	}
	return path(parents, v)
}

// under says what Below returns.
func under(parents []int, v int) []int {
	var down []int
	for u := range parents {
		if slices.Contains(over(parents, u), v) {
			down = append(down, u)
		}
	}
	return down
}

// like fails where Check of the list answers something else than the model.
func like(t *testing.T, parents []int) {
	t.Helper()
	if got, want := checked(parents), judged(parents); got != want {
		t.Fatalf("Check(%v): %v, want %v", parents, got, want)
	}
}

// walksLike fails where Above, Below or Depth of v answers something else than the model.
func walksLike(t *testing.T, parents []int, v int) {
	t.Helper()
	up, down := over(parents, v), under(parents, v)
	if got := some(Above(parents, v), -1); !slices.Equal(got, up) {
		t.Fatalf("Above(%v, %d): %v, want %v", parents, v, got, up)
	}
	if got := Below(parents, v); !slices.Equal(got, down) {
		t.Fatalf("Below(%v, %d): %v, want %v", parents, v, got, down)
	}
	if got := Depth(parents, v); got != len(up) {
		t.Fatalf("Depth(%v, %d): %d, want %d", parents, v, got, len(up))
	}
}

// every visits all lists that are the first accounts and n more, with parents from low to high.
func every(first []int, n, low, high int, visit func(parents []int)) {
	if n == 0 {
		visit(first)
		return
	}
	for p := low; p <= high; p++ {
		every(append(slices.Clip(first), p), n-1, low, high, visit)
	}
}

// TestFew is P10.1: every list of few accounts, with parents from -2 to the one that is just beyond it, and each account of it, with those just beside it.
func TestFew(t *testing.T) {
	for n := range 6 {
		every(nil, n, -2, n, func(parents []int) {
			like(t, parents)
			for v := -2; v <= n+1; v++ {
				walksLike(t, parents, v)
			}
		})
	}
}

// TestMore is P10.1: every list of more accounts, of which House and Rounding are valid.
func TestMore(t *testing.T) {
	for n := 1; n <= 5; n++ {
		every(after(), n, -2, n+2, func(parents []int) {
			like(t, parents)
			if judged(parents) != valid {
				return
			}
			for v := range parents {
				walksLike(t, parents, v)
			}
		})
	}
}

// forest is a valid list of n accounts.
func forest(r *rand.Rand, n int) []int {
	parents := lone(n)
	for v := 3; v < n; v++ {
		p := 2 + r.Intn(v-2)
		if r.Intn(5) > 0 && len(path(parents, p)) < 4 {
			parents[v] = p
		}
	}
	return parents
}

// strange is a parent of any kind.
func strange(r *rand.Rand) int {
	switch r.Intn(4) {
	case 0:
		return int(r.Uint64()) >> r.Intn(64)
	case 1:
		return []int{lowest, lowest + 1, -2, -1, 0, 1, 15, 16, 17, most}[r.Intn(10)]
	}
	return r.Intn(20) - 2
}

// TestDrawn is P10.1: lists of up to 18 accounts, with no, one and several parents changed.
func TestDrawn(t *testing.T) {
	r := rand.New(rand.NewSource(10))
	count := map[verdict]int{}
	for range 60000 {
		parents := forest(r, 2+r.Intn(17))
		for range r.Intn(4) {
			parents[r.Intn(len(parents))] = strange(r)
		}
		like(t, parents)
		count[judged(parents)]++
		for range 4 {
			walksLike(t, parents, r.Intn(len(parents)+2)-1)
		}
	}
	for at := range 16 {
		if count[fault(at)] < 40 {
			t.Errorf("only %d lists with the first fault at %d", count[fault(at)], at)
		}
	}
	if count[valid] < 1000 || count[room] < 1000 {
		t.Errorf("only %d valid lists, and %d too long ones", count[valid], count[room])
	}
}

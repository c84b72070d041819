package grid

import (
	"math/rand"
	"slices"
	"testing"
)

// same are numbers that are all x.
func same(x int) [21]int {
	var loss [21]int
	for s := range loss {
		loss[s] = x
	}
	return loss
}

// checkWorst fails unless the greatest of the numbers is x, first at s, and they are as before.
func checkWorst(t *testing.T, loss [21]int, x, s int) {
	t.Helper()
	before := loss
	if got, at := Worst(loss); got != x || at != s || loss != before {
		t.Errorf("Worst(%v): %d at %d, not %d at %d", before, got, at, x, s)
	}
}

// extremes are numbers at, about and between the bounds of an int.
var extremes = []int{least, least + 1, -limit, -1 << 32, -2, -1, 0, 1, 2, 1 << 32, limit, most - 1, most}

// TestWorstSame is P12.1 for Worst of numbers that are all the same: the first one is it.
func TestWorstSame(t *testing.T) {
	for _, x := range extremes {
		checkWorst(t, same(x), x, 0)
	}
}

// TestWorstAt is P12.1 for Worst of numbers of which one is the greatest or the least, or two are, or all from one on.
func TestWorstAt(t *testing.T) {
	for j, x := range extremes {
		for _, less := range extremes[:j] {
			for s := range 21 {
				loss := same(less)
				loss[s] = x
				checkWorst(t, loss, x, s)
				for u := range s {
					twice := loss
					twice[u] = x
					checkWorst(t, twice, x, u)
				}
				for u := s + 1; u < 21; u++ {
					loss[u] = x
				}
				checkWorst(t, loss, x, s)
				loss = same(x)
				loss[s] = less
				at := 0
				if s == 0 {
					at = 1
				}
				checkWorst(t, loss, x, at)
			}
		}
	}
}

// TestWorstOrder is P12.1 for Worst of numbers in order, and of such that rise and fall.
func TestWorstOrder(t *testing.T) {
	for _, from := range []int{least, -10, -21, -30, 0, 7, most - 20} {
		for peak := range 21 {
			var rise, fall, both, valley [21]int
			for s := range 21 {
				rise[s], fall[s] = from+s, from+20-s
				both[s], valley[s] = from+20-max(s-peak, peak-s), from+max(s-peak, peak-s)
			}
			checkWorst(t, rise, from+20, 20)
			checkWorst(t, fall, from+20, 0)
			checkWorst(t, both, from+20, peak)
			if peak >= 10 {
				checkWorst(t, valley, from+peak, 0)
			} else {
				checkWorst(t, valley, from+20-peak, 20)
			}
		}
	}
}

// TestWorstFew is P12.1 for Worst of numbers that are nearly all 0, all negative, or the greatest and the least int.
func TestWorstFew(t *testing.T) {
	checkWorst(t, [21]int{}, 0, 0)
	checkWorst(t, [21]int{3: 5, 7: 9, 8: 9}, 9, 7)
	checkWorst(t, [21]int{20: 1}, 1, 20)
	checkWorst(t, [21]int{0: 1}, 1, 0)
	checkWorst(t, [21]int{0: 1, 20: 1}, 1, 0)
	checkWorst(t, [21]int{0: -1}, 0, 1)
	checkWorst(t, [21]int{0: most, 1: least, 20: most}, most, 0)
	checkWorst(t, [21]int{0: least, 19: most, 20: most}, most, 19)
	checkWorst(t, [21]int{-9, -8, -9, -7, -7, -12, -13, -14, -15, -16, -17, -18, -19, -20, -21, -22, -23, -24, -25, -6, -6}, -6, 19)
}

// TestWorstDrawn is P12.1 and P12.3: Worst is at least each of the numbers, one of them, and the first that is as great.
func TestWorstDrawn(t *testing.T) {
	r := rand.New(rand.NewSource(12))
	firsts := map[int]int{}
	for n := range 100000 {
		var loss [21]int
		for s := range loss {
			switch n % 3 {
			case 0:
				loss[s] = r.Intn(12) - 8
			case 1:
				loss[s] = int(r.Uint64()) >> r.Intn(64)
			default:
				loss[s] = extremes[r.Intn(len(extremes))]
			}
		}
		x, at := Worst(loss)
		for s, y := range loss {
			if y > x || y == x && s < at {
				t.Fatalf("Worst(%v): %d at %d", loss, x, at)
			}
		}
		if loss[at] != x || x != slices.Max(loss[:]) {
			t.Fatalf("Worst(%v): %d at %d", loss, x, at)
		}
		firsts[at]++
	}
	for s := range 21 {
		if firsts[s] < 1000 {
			t.Errorf("only %d times at %d", firsts[s], s)
		}
	}
}

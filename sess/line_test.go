package sess

import (
	"fmt"
	"math/rand"
	"slices"
	"strconv"
	"testing"

	"bulwark/api"
)

// line is two ends, what was said to each of them, and what was delivered at each.
type line struct {
	ends      [2]api.Side
	pool      [2][]api.Frame // the frames that may arrive at each end, now or later, once or often
	delivered [2][]string
}

// copied is the line in memory of its own.
func (l line) copied() line {
	for i := range 2 {
		l.pool[i] = slices.Clone(l.pool[i])
		l.delivered[i] = slices.Clone(l.delivered[i])
	}
	return l
}

// say puts frames from end i on the line. A frame that is there already may arrive as often as it likes.
func (l *line) say(t *testing.T, i int, list ...api.Frame) {
	t.Helper()
	for _, f := range list {
		if !Valid(f) {
			t.Fatalf("end %d says the frame %v", i, f)
		}
		if !slices.Contains(l.pool[1-i], f) {
			l.pool[1-i] = append(l.pool[1-i], f)
		}
	}
}

// send is a new message at end i.
func (l *line) send(t *testing.T, i int) {
	t.Helper()
	m := string(rune('a'+i)) + strconv.Itoa(len(l.ends[i].Sent)+1)
	next, f, e := Send(l.ends[i], m)
	if e != api.OK {
		t.Fatalf("Send at %v: error %d", l.ends[i], e)
	}
	l.ends[i] = next
	l.say(t, i, f)
}

// tick is a tick of end i.
func (l *line) tick(t *testing.T, i int) {
	t.Helper()
	f, e := Tick(l.ends[i])
	if e != api.OK {
		t.Fatalf("Tick at %v: error %d", l.ends[i], e)
	}
	l.say(t, i, f)
}

// arrive is the arrival of f at end i.
func (l *line) arrive(t *testing.T, i int, f api.Frame) {
	t.Helper()
	next, m, list, e := Take(l.ends[i], f)
	if e != api.OK {
		t.Fatalf("%v takes %v: error %d", l.ends[i], f, e)
	}
	l.ends[i] = next
	if m != "" {
		l.delivered[i] = append(l.delivered[i], m)
	}
	l.say(t, i, list...)
}

// check is P8.3 and P8.2 at this moment.
func (l *line) check(t *testing.T) {
	t.Helper()
	for i := range 2 {
		here, there := l.ends[i], l.ends[1-i]
		n := len(l.delivered[i])
		if n > len(there.Sent) || !slices.Equal(l.delivered[i], there.Sent[:n]) {
			t.Fatalf("end %d was delivered %v of %v", i, l.delivered[i], there.Sent)
		}
		if here.Taken != n || there.Known > n || there.Known < 0 {
			t.Fatalf("end %d was delivered %d messages; its Taken is %d, the other's Known %d", i, n, here.Taken, there.Known)
		}
		if !Good(here) || Left(here) != len(here.Sent)-here.Known {
			t.Fatalf("end %d is %v, Left %d", i, here, Left(here))
		}
	}
}

// checkMonotone is that what an end has is never less than before.
func checkMonotone(t *testing.T, before, after line) {
	t.Helper()
	for i := range 2 {
		b, a := before.ends[i], after.ends[i]
		if a.Known < b.Known || a.Taken < b.Taken || len(a.Sent) < len(b.Sent) || !slices.Equal(a.Sent[:len(b.Sent)], b.Sent) {
			t.Fatalf("end %d was %v and is %v", i, b, a)
		}
	}
}

// settle lets everything arrive, in order, till both ends know that all was accepted.
func (l *line) settle(t *testing.T) {
	t.Helper()
	for range 20 {
		for i := range 2 {
			l.pool = [2][]api.Frame{}
			l.tick(t, i)
			for from, said := 1-i, 0; len(l.pool[from]) > 0; from, said = 1-from, said+1 {
				arriving := l.pool[from]
				if said == 100 {
					t.Fatalf("the ends answer one another without an end: %v", arriving)
				}
				l.pool[from] = nil
				for _, f := range arriving {
					l.arrive(t, from, f)
					l.check(t)
				}
			}
		}
	}
	for i := range 2 {
		if len(l.delivered[i]) != len(l.ends[1-i].Sent) || Left(l.ends[i]) != 0 {
			t.Fatalf("nothing is lost any more, and end %d was delivered %d of %d messages, and %d are left", i, len(l.delivered[i]), len(l.ends[1-i].Sent), Left(l.ends[i]))
		}
	}
}

// TestAllShortLines is P8.3 for every sequence of up to ten moves with at most two messages of one end, and one of the other.
func TestAllShortLines(t *testing.T) {
	most := [2]int{2, 1}
	now := []line{{}}
	seen := map[string]bool{}
	count := 0
	for range 10 {
		var next []line
		for _, before := range now {
			for _, after := range movesOf(t, before, most) {
				after.check(t)
				checkMonotone(t, before, after)
				if key := keyOf(after); !seen[key] {
					seen[key] = true
					next = append(next, after)
				}
				count++
			}
		}
		now = next
	}
	settled := 0
	for i := 0; i < len(now); i += 1 + len(now)/2000 {
		last := now[i].copied()
		last.settle(t)
		settled++
	}
	if count < 10000 || settled < 1000 {
		t.Errorf("only %d moves, %d lines settled", count, settled)
	}
}

// movesOf are the lines that can follow in one move.
func movesOf(t *testing.T, before line, most [2]int) []line {
	var all []line
	move := func(do func(l *line)) {
		l := before.copied()
		do(&l)
		all = append(all, l)
	}
	for i := range 2 {
		if len(before.ends[i].Sent) < most[i] {
			move(func(l *line) { l.send(t, i) })
		}
		move(func(l *line) { l.tick(t, i) })
		for _, f := range before.pool[i] {
			move(func(l *line) { l.arrive(t, i, f) })
		}
	}
	return all
}

// keyOf is a text that two lines share only if they have the same ends and frames.
func keyOf(l line) string {
	for i := range 2 {
		slices.SortFunc(l.pool[i], func(a, b api.Frame) int {
			return (a.Kind-b.Kind)*1000 + (a.Num-b.Num)*10 + a.Taken - b.Taken
		})
	}
	return fmt.Sprint(l.ends, l.pool)
}

// TestLongLines is P8.3 for lines that lose, double, delay and reorder by chance, up to all the messages that an end can send.
func TestLongLines(t *testing.T) {
	r := rand.New(rand.NewSource(3))
	deliveries, most := 0, 0
	for range 60 {
		var l line
		limit := [2]int{pick(r, 3, 70, 150, 256), pick(r, 0, 3, 70, 256)}
		burst, loss := 1+r.Intn(40), r.Intn(100)
		for range 700 {
			before := l
			i := r.Intn(2)
			switch r.Intn(6) {
			case 0:
				for n := r.Intn(burst); n >= 0 && len(l.ends[i].Sent) < limit[i]; n-- {
					l.send(t, i)
				}
			case 1:
				l.tick(t, i)
			default:
				l.bring(t, r, i, loss)
			}
			l.check(t)
			checkMonotone(t, before, l)
		}
		deliveries += len(l.delivered[0]) + len(l.delivered[1])
		l.settle(t)
		most = max(most, len(l.delivered[0]), len(l.delivered[1]))
	}
	if deliveries < 3000 || most != 256 {
		t.Errorf("only %d deliveries, at most %d at an end", deliveries, most)
	}
}

// bring lets some of the frames for end i arrive: one from any time, or the last ones in or out of order, each with chances to be lost and to come twice.
func (l *line) bring(t *testing.T, r *rand.Rand, i, loss int) {
	t.Helper()
	pool := l.pool[i]
	if len(pool) == 0 {
		return
	}
	if r.Intn(3) == 0 {
		l.arrive(t, i, pool[r.Intn(len(pool))])
		return
	}
	last := slices.Clone(pool[max(0, len(pool)-1-r.Intn(70)):])
	if r.Intn(2) == 0 {
		r.Shuffle(len(last), func(a, b int) { last[a], last[b] = last[b], last[a] })
	}
	for _, f := range last {
		for r.Intn(100) >= loss {
			l.arrive(t, i, f)
			l.check(t)
			if r.Intn(4) > 0 {
				break
			}
		}
	}
}

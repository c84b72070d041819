package wal

import (
	"fmt"
	"math/rand"
	"slices"
	"strings"
	"testing"

	"bulwark/api"
	"bulwark/disk"
)

// client knows of a journal what it was told, and nothing of how it is kept.
type client struct {
	t     *testing.T
	d     *disk.Disk
	w     *Wal
	per   int
	acked []string // every acknowledged record; number 1 is the first
	below int      // the greatest number that Prune was given, at least 1
	trail []string
}

func newClient(t *testing.T, per int) *client {
	return &client{t: t, d: disk.New(plenty), per: per, below: 1}
}

func (c *client) failf(form string, a ...any) {
	c.t.Helper()
	c.t.Fatalf("%s\nafter %s", fmt.Sprintf(form, a...), strings.Join(c.trail, "; "))
}

// arm makes the power fail in the n-th raw write from now on.
func (c *client) arm(n, keep int) {
	c.trail = append(c.trail, fmt.Sprintf("Arm %d %d", n, keep))
	c.d.Arm(n, keep)
}

// open opens the journal, and holds what it finds against what was acknowledged: at most doubtful, the record that was being appended, may follow that. It reports whether the power stayed on.
func (c *client) open(doubtful []string) bool {
	c.t.Helper()
	w, records, first, e := Open(c.d, c.per)
	c.trail = append(c.trail, "Open = "+opened(w == nil, records, first, e))
	if e == api.ErrDown && c.d.Down() {
		return false
	}
	if e != api.OK {
		c.failf("Open: %s", errorName(e))
	}
	if first < 1 || first > c.below || first > len(c.acked)+1 {
		c.failf("the first record is %d; those from %d on were to stay", first, c.below)
	}
	got, want := strs(records), c.acked[first-1:]
	switch {
	case slices.Equal(got, want):
	case len(doubtful) == 1 && slices.Equal(got, append(slices.Clone(want), doubtful[0])):
		c.acked = append(c.acked, doubtful[0])
	default:
		c.failf("the records from %d on are %q, want %q and perhaps %q", first, got, want, doubtful)
	}
	if w.Next() != len(c.acked)+1 {
		c.failf("the next one is %d, want %d", w.Next(), len(c.acked)+1)
	}
	c.w = w
	c.segments()
	return true
}

// segments checks what the files have: records and nothing else, per of them but in the last one, the segments following one another.
func (c *client) segments() {
	c.t.Helper()
	all := segmentsOf(c.d)
	for i, first := range all {
		b := bytesOf(c.d, first)
		records, n := recordsIn(b)
		if n != len(b) {
			c.failf("segment %d has %d bytes, %d of them in records", first, len(b), n)
		}
		if i < len(all)-1 && (len(records) != c.per || all[i+1] != first+c.per) {
			c.failf("segment %d has %d records, not %d, and the next one begins with %d", first, len(records), c.per, all[i+1])
		}
		if i == len(all)-1 && len(records) > c.per {
			c.failf("segment %d has %d records, more than %d", first, len(records), c.per)
		}
	}
}

// again opens the journal until the power stays on: an opening that finds the same a second time is P5.3.
func (c *client) again(doubtful []string, armed ...[2]int) {
	c.t.Helper()
	for _, a := range armed {
		c.d.On()
		c.arm(a[0], a[1])
		if c.open(doubtful) {
			c.d.Arm(0, 0)
			c.d.Off(0)
		}
	}
	// What was armed before may strike here, once.
	c.d.On()
	if !c.open(doubtful) {
		c.d.On()
		c.mustOpen(doubtful)
	}
	if !c.open(nil) {
		c.d.On()
		c.mustOpen(nil)
	}
}

func (c *client) mustOpen(doubtful []string) {
	c.t.Helper()
	if !c.open(doubtful) {
		c.failf("the power is off")
	}
}

// append appends a record. Where the power fails in that, the journal is opened again.
func (c *client) append(record string, armed ...[2]int) {
	c.t.Helper()
	n, e := c.w.Append([]byte(record))
	c.trail = append(c.trail, fmt.Sprintf("Append %s = %s", show([]byte(record)), counted(n, e)))
	switch {
	case e == api.OK && n == len(c.acked)+1:
		c.acked = append(c.acked, record)
	case e == api.ErrDown && c.d.Down():
		c.again([]string{record}, armed...)
	default:
		c.failf("Append: %s, want %d", counted(n, e), len(c.acked)+1)
	}
}

// prune prunes the journal. Where the power fails in that, the journal is opened again.
func (c *client) prune(below int, armed ...[2]int) {
	c.t.Helper()
	c.below = max(c.below, below)
	n, e := c.w.Prune(below)
	c.trail = append(c.trail, fmt.Sprintf("Prune %d = %s", below, counted(n, e)))
	if e == api.ErrDown && c.d.Down() {
		c.again(nil, armed...)
	} else if e != api.OK {
		c.failf("Prune: %s", errorName(e))
	}
}

// life is a journal's whole course, from its first opening on.
func (c *client) life(armed ...[2]int) {
	c.t.Helper()
	if !c.open(nil) {
		c.again(nil, armed...)
	}
	for i, record := range []string{"a", "", "bcd", "e", "f", "gh", "", "i"} {
		c.append(record, armed...)
		switch i {
		case 3:
			c.prune(3, armed...)
		case 6:
			c.prune(7, armed...)
			if !c.open(nil) {
				c.again(nil, armed...)
			}
		}
	}
	c.again(nil)
}

// TestPowerFailsOnce is P5.2 and P5.3 for the power failing in each single raw write of a journal's course, with each number of bytes kept.
func TestPowerFailsOnce(t *testing.T) {
	t.Parallel()
	for per := 1; per <= 4; per++ {
		for keep := -1; keep <= 12; keep++ {
			n := 1
			for failed := true; failed; n++ {
				c := newClient(t, per)
				c.arm(n, keep)
				c.life()
				failed = slices.ContainsFunc(c.trail, func(line string) bool { return strings.HasSuffix(line, "ErrDown") })
			}
			if n < 22 {
				t.Errorf("a course of only %d raw writes", n-2)
			}
		}
	}
}

// TestPowerFailsAgain is P5.2 and P5.3 for the power failing again, once and twice, in the openings behind the first failure.
func TestPowerFailsAgain(t *testing.T) {
	t.Parallel()
	for per := 1; per <= 3; per++ {
		for n := 1; n <= 30; n++ {
			for _, keep := range []int{-1, 0, 3, 8, 9, 10, 99} {
				for again := 1; again <= 4; again++ {
					for _, keepAgain := range []int{0, 2, 99} {
						c := newClient(t, per)
						c.arm(n, keep)
						c.life([2]int{again, keepAgain})
						c = newClient(t, per)
						c.arm(n, keep)
						c.life([2]int{again, keepAgain}, [2]int{3 - again%3, keep})
					}
				}
			}
		}
	}
}

// TestPowerFailsOften is P5.2 and P5.3 for courses that are drawn, in which the power fails again and again.
func TestPowerFailsOften(t *testing.T) {
	t.Parallel()
	failures, found := 0, 0
	for seed := range 1000 {
		r := rand.New(rand.NewSource(int64(seed)))
		c := newClient(t, 1+r.Intn(4))
		c.again(nil)
		arms := func() [][2]int {
			var out [][2]int
			for range r.Intn(3) {
				out = append(out, [2]int{1 + r.Intn(4), r.Intn(14) - 1})
			}
			return out
		}
		for range 60 {
			if r.Intn(4) == 0 {
				c.arm(1+r.Intn(5), r.Intn(20)-1)
			}
			before := len(c.acked)
			writes := len(c.trail)
			switch r.Intn(8) {
			case 0:
				c.prune(len(c.acked)-r.Intn(6)+1, arms()...)
			case 1:
				if !c.open(nil) {
					c.again(nil, arms()...)
				}
			case 2:
				c.trail = append(c.trail, "Off, On")
				c.d.Off(r.Intn(9))
				c.d.On()
			default:
				c.append(strings.Repeat(string(rune('a'+r.Intn(26))), r.Intn(5)), arms()...)
				if len(segmentsOf(c.d)) > 12 {
					c.d.Arm(0, 0)
					c.prune(len(c.acked))
				}
				if strings.HasSuffix(c.trail[writes], "ErrDown") {
					failures++
					found += len(c.acked) - before
				}
			}
		}
		c.d.Arm(0, 0)
		c.again(nil)
	}
	if failures < 3000 || found < 500 || failures-found < 500 {
		t.Errorf("only %d failures in an Append, and %d records found after them", failures, found)
	}
}

// TestTornRecords is P5.2 for each number of bytes kept of a record, in the raw write of its Append and in that of its Sync: it is found if all of them were, and else not a byte of it is left.
func TestTornRecords(t *testing.T) {
	for _, size := range []int{0, 1, 5, 300} {
		for raw := 1; raw <= 2; raw++ {
			for keep := -1; keep <= size+10; keep++ {
				for _, already := range []string{"", "Append a", "Append a; Append b", "Append a; Append b; Append c"} {
					s := programSide(plenty)
					s.call("Open 2")
					n := 0
					for _, c := range steps(already) {
						s.call(c.call)
						n++
					}
					s.d.Arm(raw, keep)
					if got := s.call(fmt.Sprintf("Append *%d", size)); got != "ErrDown" {
						t.Fatalf("Append: %s", got)
					}
					s.d.On()
					_, records, _, e := Open(s.d, 2)
					want := n
					if keep >= size+8 {
						want++
					}
					if e != api.OK || len(records) != want {
						t.Errorf("%d bytes, raw write %d, %d kept, behind %q: %d records, want %d", size, raw, keep, already, len(records), want)
					}
					bytes := 0
					for _, first := range segmentsOf(s.d) {
						bytes += len(bytesOf(s.d, first))
					}
					if bytes != 9*n+(want-n)*(size+8) {
						t.Errorf("%d bytes, raw write %d, %d kept, behind %q: %d bytes of frames", size, raw, keep, already, bytes)
					}
				}
			}
		}
	}
}

// TestTornLongRecords is P5.2 for a record of MaxRecord.
func TestTornLongRecords(t *testing.T) {
	for _, raw := range []int{1, 2} {
		for _, keep := range []int{0, 3, 4, 7, 8, 9, 32768, 65535, 65536, 65537, 65543, 65544, 65545} {
			s := programSide(plenty)
			for _, call := range []string{"Open 3", "Append *65536", "Append a", fmt.Sprintf("disk.Arm %d %d", raw, keep), "Append *65536", "disk.On"} {
				s.call(call)
			}
			want, bytes := "1: *65536 a", 65544+9
			if keep >= 65544 {
				want, bytes = want+" *65536", 2*65544+9
			}
			if got := s.call("Open 3"); got != want || len(bytesOf(s.d, 1)) != bytes {
				t.Errorf("raw write %d, %d kept: %s, %d bytes, want %s, %d", raw, keep, got, len(bytesOf(s.d, 1)), want, bytes)
			}
		}
	}
}

// TestFailedJournal is P5.1 for a journal that has failed, with and without power, and for all that follows.
func TestFailedJournal(t *testing.T) {
	after := `Append p = ErrDown !; Append - = ErrDown !; Append *65537 = ErrLong; Prune 0 = ErrDown !; Prune 99 = ErrDown !; Prune min = ErrDown; `
	all := after + `disk.On; ` + after + `disk.Append q x; disk.Room 0; ` + after + `disk.Room max; disk.Arm 1 0; ` + after + `disk.Arm 0 0; disk.Off 0; ` + after + `disk.On; `
	for _, c := range []scripted{
		{"in an Append", plenty, `Open 1; Append a = 1; Append b = 2; disk.Arm 1 99; Append c = ErrDown ! Append #3 9; ` + all + `Next = 3; disk.Names = #1(9) #2(9) #3(9) q(0); Open 1 = 1: a b c; Append d = 4`},
		{"in an Append, nothing kept", plenty, `Open 1; Append a = 1; Append b = 2; disk.Arm 1 0; Append c = ErrDown ! Append #3 9; ` + all + `Next = 3; disk.Names = #1(9) #2(9) #3(0) q(0); Open 1 = 1: a b; Append d = 3 ! Append #3 9, Sync #3`},
		{"in the first Append", plenty, `Open 1; disk.Arm 1 5; Append c = ErrDown ! Append #1 9; ` + all + `Next = 1; disk.Names = #1(5) q(0); Open 1 = 1: ! Truncate #1 0, Sync #1; Append d = 1`},
		{"in a Sync", plenty, `Open 1; Append a = 1; Append b = 2; disk.Arm 2 99; Append c = ErrDown ! Append #3 9, Sync #3; ` + all + `Next = 3; Open 1 = 1: a b c`},
		{"in a Sync, nothing kept", plenty, `Open 9; Append a = 1; Append b = 2; disk.Arm 2 0; Append c = ErrDown ! Append #1 9, Sync #1; ` + all + `Next = 3; Open 1 = 1: a b`},
		{"in a removal", plenty, `Open 1; Append a = 1; Append b = 2; Append c = 3; disk.Arm 2 99; Prune 9 = ErrDown ! Remove #1, Remove #2; ` + all + `Next = 4; disk.Names = #2(9) #3(9) q(0); Open 1 = 2: b c; Append d = 4; Prune 4 = 2`},
		{"in an Append without power", plenty, `Open 1; Append a = 1; Append b = 2; disk.Off 0; Append c = ErrDown !; ` + all + `Next = 3; Open 1 = 1: a b`},
		{"not in a Prune without power", plenty, `Open 1; Append a = 1; Append b = 2; disk.Off 0; Prune 9 = 0 !; Prune 9 = 0; disk.On; Append c = 3; Prune 9 = 2`},
		{"not in Next without power", plenty, `Open 1; Append a = 1; disk.Off 0; Next = 2; Next = 2; disk.On; Append b = 2`},
		{"not by a power failure that no call meets", plenty, `Open 1; Append a = 1; disk.Off 0; disk.On; Append b = 2; disk.Append q x; disk.Arm 1 0; disk.Sync q = ErrDown; disk.On; Append c = 3; Prune 9 = 2; Open 1 = 3: c`},
	} {
		t.Run(c.name, func(t *testing.T) { checkWithout(t, c.room, c.script) })
	}
}

// TestNoPower is P5.1 for every call while the power is off.
func TestNoPower(t *testing.T) {
	checkAll(t, []scripted{
		{"before the first opening", plenty, `disk.Off 0; Open 1 = ErrDown !; Open 0 = ErrArg; Append a = ErrNil; Prune 1 = ErrNil; Next = 0; disk.On; Open 1 = 1:`},
		{"an open journal", plenty, `Open 2; Append a = 1; Append b = 2; Append c = 3; disk.Off 0; Next = 4; Prune 3 = 0 !; Prune -1 = 0; Next = 4; Append *65537 = ErrLong; Prune 3 = 0; Append d = ErrDown !; Prune 3 = ErrDown; Next = 4; Open 2 = ErrDown !; Append d = ErrNil; disk.On; Open 2 = 1: a b c; disk.Names = #1(18) #3(9)`},
		{"in an opening", plenty, `disk.Append #1 [a]x; disk.Append #2 [b]; disk.Append #9 [c]; disk.Arm 1 99; Open 2 = ErrDown ! Truncate #1 9; Append d = ErrNil; Open 2 = ErrDown !; disk.On; disk.Arm 2 99; Open 2 = ErrDown ! Truncate #1 9, Sync #1; disk.On; disk.Arm 2 99; Open 2 = ErrDown ! Sync #1, Sync #2; disk.On; disk.Arm 3 99; Open 2 = ErrDown ! Sync #1, Sync #2, Remove #9; disk.On; disk.Names = #1(9) #2(9) #9(9);
			Open 2 = 1: a b ! Sync #1, Sync #2, Remove #9`},
		{"in an opening, with pending bytes lost", plenty, `disk.Append #1 [a]; disk.Sync #1; disk.Append #1 [b]; disk.Append #3 [c]; disk.Arm 1 0; Open 2 = ErrDown ! Sync #1; disk.On; disk.Names = #1(9) #3(0); Open 2 = 1: a ! Sync #1, Remove #3`},
		{"in an opening, with pending bytes kept", plenty, `disk.Append #1 [a][b]; disk.Append #3 [c]; disk.Arm 2 9; Open 2 = ErrDown ! Sync #1, Sync #3; disk.On; disk.Names = #1(18) #3(9); Open 2 = 1: a b c ! Sync #1, Sync #3`},
	})
}

// TestSyncedByOpen is P5.2 and P5.3 for records that were pending: those that Open answers are safe.
func TestSyncedByOpen(t *testing.T) {
	check(t, plenty, `disk.Append #1 [a][b]; disk.Append #3 [c]xy; Open 2 = 1: a b c ! Sync #1, Truncate #3 9, Sync #3; disk.Off 0; disk.On; disk.Names = #1(18) #3(9); Open 2 = 1: a b c`)
	check(t, plenty, `disk.Append #1 [a]; disk.Sync #1; disk.Append #1 [b]x; disk.Sync #1; disk.Append #1 yz; Open 2 = 1: a b ! Truncate #1 18, Sync #1; disk.Off 0; disk.On; Open 2 = 1: a b`)
}

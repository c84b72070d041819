package disk

import (
	"strings"
	"testing"
)

// rejections are calls that are rejected, each after a script that brings a disk there.
var rejections = []struct {
	room   int
	before string
	call   string
	want   string
}{
	{9, `Append a xy; Sync a; Append a z; Append b pq`, `Append - x`, "ErrArg"},
	{9, `Append a xy; Sync a; Append a z; Append b pq`, `Append *17 x`, "ErrArg"},
	{9, `Append a xy; Sync a; Append a z; Append b pq`, `Append a wxyz.`, "ErrFull"},
	{9, `Append a xy; Sync a; Append a z; Append b pq`, `Append c wxyz.`, "ErrFull"},
	{9, `Append a xy; Sync a; Append a z; Append b pq`, `Append a *1048576`, "ErrLong"},
	{9, `Append a xy; Sync a; Append a z; Append b pq`, `Append c *1048577`, "ErrLong"},
	{9, `Append a xy; Sync a; Append a z; Append b pq; Room 4`, `Append a -`, "ErrFull"},
	{9, `Append a xy; Sync a; Append a z; Append b pq; Room 4`, `Append c -`, "ErrFull"},
	{9, `Append a xy; Sync a; Append a z; Append b pq`, `Sync -`, "ErrArg"},
	{9, `Append a xy; Sync a; Append a z; Append b pq`, `Sync c`, "ErrFile"},
	{9, `Append a xy; Sync a; Append a z; Append b pq`, `Truncate *17 0`, "ErrArg"},
	{9, `Append a xy; Sync a; Append a z; Append b pq`, `Truncate c 0`, "ErrFile"},
	{9, `Append a xy; Sync a; Append a z; Append b pq`, `Truncate a -1`, "ErrLong"},
	{9, `Append a xy; Sync a; Append a z; Append b pq`, `Truncate a 4`, "ErrLong"},
	{9, `Append a xy; Sync a; Append a z; Append b pq`, `Rename - b`, "ErrArg"},
	{9, `Append a xy; Sync a; Append a z; Append b pq`, `Rename a *17`, "ErrArg"},
	{9, `Append a xy; Sync a; Append a z; Append b pq`, `Rename c b`, "ErrFile"},
	{9, `Append a xy; Sync a; Append a z; Append b pq`, `Rename c c`, "ErrFile"},
	{9, `Append a xy; Sync a; Append a z; Append b pq`, `Remove -`, "ErrArg"},
	{9, `Append a xy; Sync a; Append a z; Append b pq`, `Remove c`, "ErrFile"},
	{9, `Append a xy; Sync a; Append a z; Append b pq`, `Read -`, "ErrArg"},
	{9, `Append a xy; Sync a; Append a z; Append b pq`, `Read c`, "ErrFile"},
	{99, sixteen(`Append f%02d x`), `Append q x`, "ErrFull"},
	{99, sixteen(`Append f%02d x`), `Append q -`, "ErrFull"},
	{99, sixteen(`Append f%02d x`), `Append q *1048577`, "ErrLong"},
	{9, `Append a xy; Sync a; Append b pq; Off 1`, `Append a x`, "ErrDown"},
	{9, `Append a xy; Sync a; Append b pq; Off 1`, `Append c -`, "ErrDown"},
	{9, `Append a xy; Sync a; Append b pq; Off 1`, `Append - x`, "ErrArg"},
	{9, `Append a xy; Sync a; Append b pq; Off 1`, `Sync a`, "ErrDown"},
	{9, `Append a xy; Sync a; Append b pq; Off 1`, `Truncate a 0`, "ErrDown"},
	{9, `Append a xy; Sync a; Append b pq; Off 1`, `Rename a b`, "ErrDown"},
	{9, `Append a xy; Sync a; Append b pq; Off 1`, `Rename a -`, "ErrArg"},
	{9, `Append a xy; Sync a; Append b pq; Off 1`, `Remove a`, "ErrDown"},
	{9, `Append a xy; Sync a; Append b pq; Off 1`, `Read a`, "ErrDown"},
}

// probes bring to light what can't be seen of a disk: which bytes are safe, what is armed, how much room there is.
var probes = []string{
	`On; Off 0; On`,
	`On; Off 1; On`,
	`On; Append a -; Append a -; Append a -; Append a -; On`,
	`On; Sync a; On; Sync a; On; Sync b; On; Off 0; On`,
	`On; Append a .; Append a .; Append a .; Append a .; Append a .; Append a .; Append a .; Append a .`,
	`On; Append q .; Remove f00; Append q .; Append r .`,
}

// TestRejectedChangesNothing is P4.3: a disk on which a call was rejected has the same files, power and number of raw writes as before, and answers all that follows like one on which it wasn't called.
func TestRejectedChangesNothing(t *testing.T) {
	for _, c := range rejections {
		for _, armed := range []string{``, `; Arm 1 1`, `; Arm 2 0`, `; Arm 3 9`} {
			for _, probe := range probes {
				without, with := New(c.room), New(c.room)
				perform(without, c.before+armed)
				perform(with, c.before+armed)
				before := view(with)
				for range 3 {
					if got := call(with, c.call); got != c.want {
						t.Fatalf("%s: %s, want %s\nafter %s", c.call, got, c.want, c.before+armed)
					}
				}
				if got := view(with); got != before {
					t.Fatalf("%s: %s, before %s", c.call, got, before)
				}
				for _, line := range lines(probe) {
					got, want := call(with, line)+", "+view(with), call(without, line)+", "+view(without)
					if got != want {
						t.Fatalf("%s, then %s in %s: %s, without the first %s\nafter %s", c.call, line, probe, got, want, c.before+armed)
					}
				}
			}
		}
	}
}

// TestRejectedOnWalks is P4.3 in sequences of calls that are drawn: one disk is given all of them, its twin those only that the first one did not reject.
func TestRejectedOnWalks(t *testing.T) {
	rejected := 0
	for _, g := range terrains() {
		var all, twin *Disk
		g.each(func(n int) { all, twin = New(n), New(n) }, func(line string, trail []string) {
			writes, before := all.Writes(), view(all)
			got := call(all, line)
			if strings.HasPrefix(got, "Err") && all.Writes() == writes {
				rejected++
				if after := view(all); after != before {
					t.Fatalf("%s, %s: %s, before %s", line, got, after, before)
				}
			} else if want := call(twin, line); got != want {
				t.Fatalf("%s: %s, the twin %s\nafter %s", line, got, want, strings.Join(trail, "; "))
			}
			if view(all) != view(twin) {
				t.Fatalf("%s: %s, the twin %s\nafter %s", line, view(all), view(twin), strings.Join(trail, "; "))
			}
		})
	}
	if rejected < 10000 {
		t.Errorf("only %d rejected calls", rejected)
	}
}

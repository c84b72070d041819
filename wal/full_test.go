package wal

import (
	"fmt"
	"strings"
	"testing"

	"bulwark/api"
	"bulwark/disk"
)

// TestFull is P5.4 for a disk without room for the record, by its capacity, by its files' number, and by a file's length.
func TestFull(t *testing.T) {
	sixteen := 16 * 65544
	checkAll(t, []scripted{
		{"no room at all", 0, `Open 2 = 1:; Append - = ErrFull !; Append a = ErrFull !; Next = 1; disk.Names =; Prune 9 = 0; disk.Room 8; Append a = ErrFull; Append - = 1 ! Append #1 8, Sync #1; Append - = ErrFull`},
		{"in the last segment", 17, `Open 2; Append a = 1; Append b = ErrFull !; Append b = ErrFull; Next = 2; disk.Names = #1(9); disk.Writes = 2; disk.Room 18; Append b = 2; disk.Names = #1(18); Open 2 = 1: a b`},
		{"a shorter one", 17, `Open 2; Append a = 1; Append b = ErrFull; Append - = 2; Append - = ErrFull; Open 2 = 1: a -`},
		{"in a new segment", 26, `Open 2; Append a = 1; Append b = 2; Append c = ErrFull !; disk.Names = #1(18); Next = 3; disk.Room 27; Append c = 3 ! Append #3 9, Sync #3; Open 2 = 1: a b c`},
		{"in a new segment, a shorter one", 26, `Open 1; Append a = 1; Append b = 2; Append c = ErrFull; Append - = 3 ! Append #3 8, Sync #3; disk.Names = #1(9) #2(9) #3(8)`},
		{"less room than there is already", plenty, `Open 2; Append a = 1; disk.Room 3; Append - = ErrFull; disk.Room 0; Append - = ErrFull; disk.Room min; Append - = ErrFull; Open 2 = 1: a; Append - = ErrFull; disk.Room 17; Append - = 2`},
		{"room by Prune", 27, `Open 1; Append a = 1; Append b = 2; Append c = 3; Append d = ErrFull; Prune 2 = 1; Append d = 4; Append e = ErrFull; Prune 4 = 2; Append e = 5; Open 1 = 4: d e`},
		{"room by another file", 20, `disk.Append q 12345678; Open 2; Append a = 1; Append b = ErrFull !; disk.Remove q; Append b = 2; Append - = ErrFull`},
		{"by another file", plenty, `Open 2; Append a = 1; disk.Room 19; disk.Append q 123; Append b = ErrFull; disk.Truncate q 2; Append b = ErrFull; disk.Truncate q 1; Append b = 2; Append - = ErrFull`},
		{"a file too many", plenty, `Open 1; ` + numbered(`Append r%d`, 1, 9) + numbered(`Append r%d`, 10, 16) + `disk.Writes = 32; Append s = ErrFull !; Append - = ErrFull !; Next = 17; disk.Writes = 32; Prune 2 = 1; Append s = 17 ! Append #17 9, Sync #17; Append t = ErrFull; Prune 4 = 2; Append t = 18; Append u = 19; Append v = ErrFull`},
		{"a file too many, others", plenty, numbered(`disk.Append q%d x`, 1, 14) + `Open 2; Append a = 1; Append b = 2; Append c = 3; Append d = 4; Append e = ErrFull !; disk.Remove q7; Append e = 5; disk.Append q7 x = ErrFull; Append f = 6; Append g = ErrFull; Prune 3 = 1; Append g = 7`},
		{"a file too many, all others", plenty, numbered(`disk.Append q%d x`, 1, 16) + `Open 2 = 1: !; Append a = ErrFull !; Next = 1; Prune 9 = 0; disk.Remove q3; Append a = 1; Append b = 2; Append c = ErrFull`},
		{"not armed", 17, `Open 2; Append a = 1; disk.Arm 1 0; Append b = ErrFull !; Append b = ErrFull; Next = 2; Prune 9 = 0; disk.Room 18; Append b = ErrDown ! Append #1 9; disk.On; Open 2 = 1: a`},
		{"not armed, the second", 17, `Open 2; Append a = 1; disk.Arm 2 9; Append b = ErrFull; disk.Room 18; Append b = ErrDown ! Append #1 9, Sync #1; disk.On; Open 2 = 1: a b`},
	})
	// A file of 16 records of MaxRecord would have 128 bytes more than MaxFile.
	long := numbered(`Append *65536 = %d`, 1, 15)
	checkWithout(t, plenty, `Open max; `+long+fmt.Sprintf(`disk.Names = #1(%d); Append *65536 = ErrFull !; Append *65409 = ErrFull !; Next = 16; disk.Writes = 30; Prune 9 = 0; Append *65408 = 16; disk.Names = #1(1048576); Append - = ErrFull !; Append *65537 = ErrLong; Next = 17`, sixteen-65544))
	checkWithout(t, plenty, `Open 16; `+long+`Append *65536 = ErrFull; Append a = 16 ! Append #1 9, Sync #1; Append *65536 = 17 ! Append #17 65544, Sync #17; Prune 17 = 1; Append - = 18`)
	checkWithout(t, plenty, `Open 15; `+long+`Append *65536 = 16 ! Append #16 65544, Sync #16`)
	checkWithout(t, plenty, `Open max; `+long+`Append *65408 = 16; Append - = ErrFull; Open 16; Append - = 17 ! Append #17 8, Sync #17`)
}

// TestEveryRoom is P5.4 for each capacity: a refused record leaves everything as it was, and is taken with just as much space as it needs.
func TestEveryRoom(t *testing.T) {
	records := []string{"a", "", "bcdef", "", "gh", "i", "jklmnopqrst", ""}
	refused := 0
	for per := 1; per <= 3; per++ {
		for start := range 100 {
			room := start
			d := disk.New(room)
			w, _, _, _ := Open(d, per)
			used := 0
			for i, record := range records {
				need := 8 + len(record)
				for used+need > room {
					before := view(d)
					n, e := w.Append([]byte(record))
					if n != 0 || e != api.ErrFull || view(d) != before || w.Next() != i+1 {
						t.Fatalf("per %d, capacity %d, record %d: %s, %s, before %s", per, room, i+1, counted(n, e), view(d), before)
					}
					refused++
					if used+need-room > 2 {
						room = used + need - 2
					}
					room++
					d.Room(room)
				}
				if n, e := w.Append([]byte(record)); n != i+1 || e != api.OK {
					t.Fatalf("per %d, capacity %d, record %d: %s", per, room, i+1, counted(n, e))
				}
				used += need
			}
			if _, found, first, e := Open(d, per); e != api.OK || first != 1 || !equal(found, records) {
				t.Errorf("per %d: %q, %d, %s", per, found, first, errorName(e))
			}
		}
	}
	if refused < 1000 {
		t.Errorf("only %d refused", refused)
	}
}

// TestRefusedChangesNothing is P5.4 in sequences of calls that are drawn: one journal is given all of them, its twin those only that the first one did not refuse.
func TestRefusedChangesNothing(t *testing.T) {
	t.Parallel()
	refused := 0
	for _, g := range terrains() {
		var all, twin *side
		g.each(func(room int) { all, twin = programSide(room), programSide(room) }, func(line string, trail []string) {
			got := all.call(line)
			now := view(all.d)
			if got == "ErrFull" && strings.HasPrefix(line, "Append") {
				refused++
			} else if want := twin.call(line); got != want {
				t.Fatalf("%s: %s, the twin %s\nafter %s", line, got, want, trailText(trail))
			}
			// The twin is as both were before a refused call.
			if want := view(twin.d); now != want {
				t.Fatalf("%s, %s: %s, the twin %s\nafter %s", line, got, now, want, trailText(trail))
			}
		})
	}
	if refused < 1000 {
		t.Errorf("only %d refused", refused)
	}
}

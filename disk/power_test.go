package disk

import (
	"fmt"
	"math"
	"strings"
	"testing"
)

// TestKeep is P4.1 and P4.2 for each number of bytes that are kept, of files with none, one, two and five pending bytes, behind safe ones or not.
func TestKeep(t *testing.T) {
	files := []struct{ name, safe, pending string }{{"a", "", ""}, {"b", "AB", ""}, {"c", "", "c"}, {"d", "ABC", "de"}, {"e", "E", "fghij"}, {"f", "", "fghij"}}
	for _, keep := range []int{math.MinInt, -2, -1, 0, 1, 2, 3, 4, 5, 6, 7, math.MaxInt} {
		var script, after strings.Builder
		for _, f := range files {
			fmt.Fprintf(&script, "Append %[1]s %[2]s; Sync %[1]s; Append %[1]s %[3]s; ", f.name, show(f.safe), show(f.pending))
			kept := f.pending[:max(0, min(keep, len(f.pending)))]
			fmt.Fprintf(&after, "Read %s = OK %s; ", f.name, show(f.safe+kept))
		}
		// What was kept is safe: a second failure that keeps nothing takes none of it.
		off := fmt.Sprintf("Off %d; Down = true; On; Down = false; Names = a b c d e f; Writes = 18; %s Off -1; On; %s", keep, after.String(), after.String())
		check(t, 100, script.String()+off)
	}
}

// TestArmedWrites is P4.1 and P4.2 for the power failing in each kind of raw write: the bytes of an Append count as pending ones, the others aren't performed.
func TestArmedWrites(t *testing.T) {
	for _, c := range []struct{ line, a, b string }{
		{"Append a xyz", "cdexyz", "ij"}, {"Append b xyz", "cde", "ijxyz"}, {"Append a -", "cde", "ij"}, {"Sync a", "cde", "ij"}, {"Truncate a 0", "cde", "ij"}, {"Truncate a 1", "cde", "ij"}, {"Truncate a 4", "cde", "ij"}, {"Truncate a 5", "cde", "ij"},
		{"Rename a b", "cde", "ij"}, {"Rename a q", "cde", "ij"}, {"Rename a a", "cde", "ij"}, {"Remove a", "cde", "ij"},
	} {
		for keep := -1; keep <= 7; keep++ {
			kept := func(pending string) string { return pending[:max(0, min(keep, len(pending)))] }
			check(t, 100, fmt.Sprintf(`Append a ab; Sync a; Append a cde; Append b fgh; Sync b; Append b ij; Arm 1 %d; %s = ErrDown; Down = true; Names = -; Read a = ErrDown; Writes = 7;
				On; Names = a b; Read a = OK ab%s; Read b = OK fgh%s; Append b z; Writes = 8; Off 0; On; Read a = OK ab%s; Read b = OK fgh%s`,
				keep, c.line, kept(c.a), kept(c.b), kept(c.a), kept(c.b)))
		}
	}
	for keep := -1; keep <= 4; keep++ {
		kept := show("xyz"[:max(0, min(keep, 3))])
		check(t, 100, fmt.Sprintf(`Append a x; Arm 1 %d; Append q xyz = ErrDown; On; Names = a q; Read q = OK %s; Append q w; Off 0; On; Read q = OK %s; Writes = 3`, keep, kept, kept))
	}
}

// TestArm is P4.1 for the raw write that is armed.
func TestArm(t *testing.T) {
	checkAll(t, []scripted{
		{"none", 100, `Arm 0 5; Append a x; Sync a; Arm -1 5; Append a x; Sync a; Arm min 5; Append a x; Sync a; Truncate a 1; Down = false; Writes = 7`},
		{"the first", 100, `Arm 1 1; Append a xy = ErrDown; Writes = 1; On; Read a = OK x; Append a y; Sync a; Writes = 3`},
		{"the second", 100, `Arm 2 1; Append a xy; Down = false; Append a z = ErrDown; Down = true; Writes = 2; On; Read a = OK x; Append a y; Append a y; Writes = 4`},
		{"the fifth", 100, `Append a xy; Arm 5 0; Sync a; Append a z; Rename a b; Truncate b 3; Down = false; Remove b = ErrDown; Writes = 6; On; Read b = OK xy; Remove b`},
		{"the last that there can be", 100, `Append a x; Sync a; Append a y; Arm max 0; Append a z; Sync a; Down = false; Remove a; Writes = 6; Names = -`},
		{"only once", 100, `Append a x; Arm 1 0; Sync a = ErrDown; On; Append a x; Sync a; Sync a; Remove a; Writes = 6`},
		{"rejected ones are not counted", 3, `Append a xy; Arm 2 0; Sync b = ErrFile; Append - x = ErrArg; Append a *1048577 = ErrLong; Append a zw = ErrFull; Truncate a 9 = ErrLong; Truncate b 0 = ErrFile; Rename b a = ErrFile;
			Rename a - = ErrArg; Remove b = ErrFile; Writes = 1; Sync a; Truncate a -1 = ErrLong; Remove b = ErrFile; Append b zw = ErrFull; Sync q = ErrFile; Down = false; Writes = 2; Remove a = ErrDown; Writes = 3; On; Read a = OK xy`},
		{"rejected ones are not armed", 3, sixteen(`Append f%02d -`) + `Arm 1 9; Append q - = ErrFull; Append f00 wxyz = ErrFull; Append f00 *1048577 = ErrLong; Sync q = ErrFile; Truncate f00 1 = ErrLong; Truncate q 0 = ErrFile;
			Rename q f00 = ErrFile; Remove q = ErrFile; Append - - = ErrArg; Down = false; Writes = 16; Append f00 xyz = ErrDown; Writes = 17; On; Read f00 = OK xyz`},
		{"reads are not counted", 100, `Append a xy; Arm 1 0; Read a = OK xy; Names = a; Read b = ErrFile; Writes = 1; Room 50; Down = false; Sync a = ErrDown; Writes = 2`},
		{"another one, later", 100, `Append a xy; Arm 1 0; Arm 2 9; Append a z; Sync a = ErrDown; On; Read a = OK xyz`},
		{"another one, earlier", 100, `Append a xy; Arm 3 0; Append a z; Arm 1 9; Sync a = ErrDown; On; Read a = OK xyz; Sync a; Sync a; Sync a`},
		{"another one, counted anew", 100, `Arm 2 0; Append a x; Arm 2 9; Append a y; Down = false; Append a z = ErrDown; On; Read a = OK xyz`},
		{"another one, none", 100, `Append a x; Arm 1 0; Arm 0 0; Sync a; Arm 2 0; Append a y; Arm -7 0; Sync a; Sync a; Down = false; Writes = 5`},
		{"another one, with another keep", 100, `Append a xyz; Arm 1 3; Arm 1 1; Sync a = ErrDown; On; Read a = OK x`},
		{"without power", 100, `Append a xy; Off 0; Arm 1 3; Down = true; Sync a = ErrDown; Append a q = ErrDown; Remove a = ErrDown; Writes = 1; On; Read a = OK -; Append a zw = ErrDown; Writes = 2; On; Read a = OK zw`},
		{"without power, the second", 100, `Append a xy; Off 2; Arm 2 0; Sync a = ErrDown; On; Append a z; Down = false; Append a w = ErrDown; On; Read a = OK xy`},
		{"without power, another one", 100, `Append a xy; Arm 2 0; Off 2; Arm 1 0; Arm 0 0; On; Sync a; Append a z; Sync a; Read a = OK xyz`},
		{"without power, then Off", 100, `Append a xy; Off 2; Arm 1 1; Off 0; On; Read a = OK xy; Append a zw = ErrDown; On; Read a = OK xyz`},
		{"Off disarms", 100, `Append a xy; Arm 1 0; Off 2; On; Append a z; Sync a; Writes = 3; Read a = OK xyz`},
		{"Off disarms, the third", 100, `Append a xy; Arm 3 0; Append a z; Off 2; On; Append a z; Append a z; Append a z; Sync a; Read a = OK xyzzz`},
		{"On does not disarm", 100, `Append a xy; Arm 1 1; On; Room 100; Sync a = ErrDown; On; Read a = OK x`},
	})
}

// TestOff is P4.1 for the power being off, by Off and by an armed raw write, and coming back.
func TestOff(t *testing.T) {
	down := `Down = true; Append a x = ErrDown; Append q x = ErrDown; Append a - = ErrDown; Sync a = ErrDown; Sync q = ErrDown; Truncate a 0 = ErrDown; Truncate a 9 = ErrDown; Rename a b = ErrDown; Rename a a = ErrDown;
		Rename q a = ErrDown; Remove a = ErrDown; Remove q = ErrDown; Read a = ErrDown; Read q = ErrDown; Names = -; Down = true; `
	checkAll(t, []scripted{
		{"every call, after Off", 100, `Append a xyz; Append b w; Off 2; ` + down + `Writes = 2; On; Down = false; Names = a b; Read a = OK xy; Read b = OK w`},
		{"every call, after an armed one", 100, `Append a xyz; Append b w; Arm 1 2; Sync b = ErrDown; ` + down + `Writes = 3; On; Down = false; Names = a b; Read a = OK xy; Read b = OK w`},
		{"every call, after Off twice", 100, `Append a xyz; Append b w; Off 2; Off 0; ` + down + `Off 9; Writes = 2; On; Read a = OK xy; Read b = OK w`},
		{"again, with less kept", 100, `Append a xyz; Off 3; Off 0; Off -1; On; Read a = OK xyz`},
		{"again, with more kept", 100, `Append a xyz; Off 1; Off 3; On; Read a = OK x`},
		{"a new disk", 100, `Off 0; Names = -; Down = true; Off 1; On; Names = -; Down = false; Writes = 0; Append a x`},
		{"On twice", 100, `Append a xyz; On; Read a = OK xyz; Off 1; On; On; Read a = OK x; Off 0; On; Read a = OK x; Down = false`},
		{"twice, with bytes in between", 100, `Append a xyz; Off 1; On; Append a pqr; Off 2; On; Append a st; Off 0; On; Read a = OK xpq; Writes = 3`},
		{"what follows the kept bytes", 100, `Append a xyz; Off 1; On; Append a w; Read a = OK xw; Truncate a 3 = ErrLong; Sync a; Read a = OK xw`},
		{"files stay, without bytes", 100, `Append a xyz; Append b -; Off 0; On; Names = a b; Read a = OK -; Read b = OK -; Sync a; Remove b`},
	})
}

package disk

import (
	"fmt"
	"slices"
	"strings"
	"testing"

	"bulwark/api"
)

// many is room for all files that there can be.
const many = 1 << 30

// scripted is a script for a disk of so much room.
type scripted struct {
	name   string
	room   int
	script string
}

func checkAll(t *testing.T, all []scripted) {
	for _, c := range all {
		t.Run(c.name, func(t *testing.T) { check(t, c.room, c.script) })
	}
}

func TestChapterExamples(t *testing.T) {
	checkAll(t, []scripted{
		{"first", 100, `Append a xy; Sync a; Append a z; Rename a b; Off 0; On; Read b = OK xy; Read a = ErrFile`},
		{"second", 3, `Append a wxyz = ErrFull; Names = -; Append a wx; Append b yz = ErrFull; Names = a; Read a = OK wx`},
	})
}

// TestOrdinary is P4.1 for each call by itself.
func TestOrdinary(t *testing.T) {
	checkAll(t, []scripted{
		{"a new disk", 100, `Names = -; Down = false; Writes = 0; Read a = ErrFile`},
		{"append", 100, `Append a xy; Append b z; Append a pq; Read a = OK xypq; Read b = OK z; Names = a b; Writes = 3`},
		{"append no bytes", 100, `Append a -; Names = a; Read a = OK -; Append a -; Append a x; Append a -; Read a = OK x; Writes = 4`},
		{"append no bytes, which stays", 100, `Append a -; Off 0; On; Names = a; Read a = OK -`},
		{"sync", 100, `Append a xy; Append b z; Sync a; Read a = OK xy; Off 0; On; Read a = OK xy; Read b = OK -; Writes = 3`},
		{"sync of nothing pending", 100, `Append a -; Sync a; Sync a; Off 0; On; Read a = OK -; Names = a; Writes = 3`},
		{"sync again", 100, `Append a x; Sync a; Append a y; Sync a; Append a z; Off 0; On; Read a = OK xy`},
		{"remove", 100, `Append a x; Append b y; Remove a; Names = b; Read a = ErrFile; Read b = OK y; Remove a = ErrFile; Writes = 3`},
		{"remove is safe at once", 100, `Append a xy; Sync a; Remove a; Off 9; On; Names = -; Read a = ErrFile`},
		{"what was removed does not come back", 100, `Append a xy; Sync a; Remove a; Append a z; Read a = OK z; Off 0; On; Read a = OK -`},
		{"reading is no raw write", 100, `Append a x; Read a = OK x; Names = a; Down = false; Writes = 1; Room 9; Arm 9 0; Off 0; On; Writes = 1`},
		{"names ascend", 100, `Append c -; Append a -; Append d -; Append b -; Names = a b c d; Rename a e; Names = b c d e; Remove c; Names = b d e`},
	})
}

// TestNamesThatCanNotBe is P4.1 for names at both ends of what they may be.
func TestNamesThatCanNotBe(t *testing.T) {
	for _, name := range []string{"-", "*17", "*18", "*272", "*65536", "ééééééééx", "€€€€€€"} { // the last two have 17 and 18 bytes
		check(t, 100, fmt.Sprintf(`Append a x; Append %[1]s x = ErrArg; Sync %[1]s = ErrArg; Truncate %[1]s 0 = ErrArg; Rename %[1]s a = ErrArg; Rename a %[1]s = ErrArg;
			Rename %[1]s %[1]s = ErrArg; Remove %[1]s = ErrArg; Read %[1]s = ErrArg; Names = a; Writes = 1`, name))
	}
	for _, name := range []string{"b", "ab", "*15", "*16", "éééééééé", "€€€€€x"} { // the last two have 16 bytes
		check(t, 100, fmt.Sprintf(`Append %[1]s xy; Sync %[1]s; Truncate %[1]s 1; Rename %[1]s c; Rename c %[1]s; Rename %[1]s %[1]s; Read %[1]s = OK x; Remove %[1]s; Read %[1]s = ErrFile; Writes = 7`, name))
	}
}

// batches are names of any bytes, as many as a disk takes at a time, each batch in ascending order.
func batches() [][]string {
	out := [][]string{
		{"\x00", "\x00\x00", " ", "*", "-", "..", "/", ";", "A", "B", "a", "a\x00", "a/b", "aa", "b", "~"},
		{"\x7f", "\x80", "\xc3", "\xc3\xa9", "\xe2\x82\xac", "\xff", "\xff\x00", "\xff\xff"},
		{strings.Repeat("\x00", 16), strings.Repeat("a", 15), strings.Repeat("a", 16), strings.Repeat("a", 15) + "b", strings.Repeat("\xff", 16)},
		{"1", "10", "2", "9", "a=b", "aZ", "az"},
	}
	for first := 0; first < 256; first += 16 {
		var one []string
		for v := first; v < first+16; v++ {
			one = append(one, string([]byte{byte(v)}))
		}
		out = append(out, one)
	}
	return out
}

// TestNamesOfAnyBytes is P4.1 for names of any bytes, whose order is that of their bytes.
func TestNamesOfAnyBytes(t *testing.T) {
	for _, all := range batches() {
		d := New(many)
		for i := range all {
			name := all[(i*11+3)%len(all)]
			if e := d.Append(name, []byte("in "+name)); e != api.OK {
				t.Errorf("Append(%q): %s", name, errorName(e))
			}
		}
		for i, name := range all {
			if got := d.Names(); !slices.Equal(got, all[i:]) {
				t.Errorf("Names: %q, want %q", got, all[i:])
			}
			if b, e := d.Read(name); e != api.OK || string(b) != "in "+name {
				t.Errorf("Read(%q): %q, %s", name, b, errorName(e))
			}
			if e := d.Remove(name); e != api.OK {
				t.Errorf("Remove(%q): %s", name, errorName(e))
			}
		}
	}
}

// TestAnyBytes is P4.1 for contents of any bytes.
func TestAnyBytes(t *testing.T) {
	d, want := New(many), []byte(nil)
	for v := range 256 {
		want = append(want, byte(v), 0, byte(255-v))
		if e := d.Append("a", []byte{byte(v), 0, byte(255 - v)}); e != api.OK {
			t.Fatalf("Append: %s", errorName(e))
		}
	}
	if b, e := d.Read("a"); e != api.OK || !slices.Equal(b, want) {
		t.Errorf("Read: %d bytes, %s", len(b), errorName(e))
	}
}

// TestLongFiles is P4.1 at MaxFile, 1048576.
func TestLongFiles(t *testing.T) {
	checkAll(t, []scripted{
		{"at once", many, `Append a *1048576; Read a = OK *1048576; Append a . = ErrLong; Append a -; Read a = OK *1048576; Writes = 2`},
		{"at once, one more", many, `Append a *1048577 = ErrLong; Names = -; Writes = 0`},
		{"little by little", many, `Append a *1048575; Append a .. = ErrLong; Append a .; Append a . = ErrLong; Read a = OK *1048576`},
		{"safe bytes count", many, `Append a *524288; Sync a; Append a *524289 = ErrLong; Append a *524288; Append a . = ErrLong; Sync a; Append a . = ErrLong; Writes = 4`},
		{"each file by itself", many, `Append a *1048576; Append b *1048576; Append b . = ErrLong; Append c *1048576; Read a = OK *1048576; Read b = OK *1048576`},
		{"shorter again", many, `Append a *1048576; Truncate a 1048575; Append a .. = ErrLong; Append a .; Append a . = ErrLong`},
		{"lost again", many, `Append a *1048576; Off 1048575; On; Append a .. = ErrLong; Append a .; Append a . = ErrLong`},
		{"under another name", many, `Append a *1048576; Rename a b; Append b . = ErrLong; Append a .; Read a = OK .`},
		{"far more", many, `Append a .; Append a *3000000 = ErrLong; Append b *2097152 = ErrLong; Names = a; Read a = OK .`},
		{"the greatest disk", 1 << 24, sixteen(`Append f%02d *1048576`) + `Append f03 - ; Append f03 . = ErrLong; Append q - = ErrFull; Read f15 = OK *1048576`},
		{"the greatest disk, by Room", 0, `Room max; ` + sixteen(`Append f%02d *1048576`) + `Room 16777216; Append f03 -; Room 16777215; Append f03 - = ErrFull; Writes = 17`},
		{"the greatest disk, one byte less", 1<<24 - 1, fifteen(`Append f%02d *1048576`) + `Append q *1048576 = ErrFull; Append q *1048575; Append q . = ErrFull`},
	})
}

func fifteen(form string) string {
	var out strings.Builder
	for i := range 15 {
		fmt.Fprintf(&out, form+"; ", i)
	}
	return out.String()
}

func sixteen(form string) string {
	return fifteen(form) + fmt.Sprintf(form+"; ", 15)
}

// TestManyFiles is P4.1 at MaxFiles, 16.
func TestManyFiles(t *testing.T) {
	checkAll(t, []scripted{
		{"one more", many, sixteen(`Append f%02d x`) + `Append q x = ErrFull; Append q - = ErrFull; Read q = ErrFile; Writes = 16`},
		{"one that is there", many, sixteen(`Append f%02d x`) + `Append f00 y; Append f15 -; Read f00 = OK xy; Writes = 18`},
		{"without bytes", many, sixteen(`Append f%02d -`) + `Append q - = ErrFull; Append f07 x`},
		{"one fewer", many, sixteen(`Append f%02d x`) + `Remove f04; Append q x; Append r x = ErrFull; Append f04 x = ErrFull`},
		{"renamed", many, sixteen(`Append f%02d x`) + `Rename f04 q; Append f04 x = ErrFull; Append q y; Read q = OK xy`},
		{"renamed to one that is there", many, sixteen(`Append f%02d x`) + `Rename f04 f05; Append q x; Append r x = ErrFull`},
		{"renamed to itself", many, sixteen(`Append f%02d x`) + `Rename f04 f04; Append q x = ErrFull; Read f04 = OK x`},
		{"after a power failure", many, sixteen(`Append f%02d x`) + `Off 0; On; Append q x = ErrFull; Append f03 x`},
		{"cut to nothing", many, sixteen(`Append f%02d x`) + `Truncate f03 0; Append q x = ErrFull`},
		{"the last one armed", many, fifteen(`Append f%02d x`) + `Arm 1 0; Append q x = ErrDown; On; Append r x = ErrFull; Append q x; Read q = OK x`},
	})
}

// TestCapacity is P4.1 for disks that are full.
func TestCapacity(t *testing.T) {
	checkAll(t, []scripted{
		{"just reached", 3, `Append a xyz; Append a -; Append b -; Append a p = ErrFull; Append b p = ErrFull; Read a = OK xyz; Names = a b; Writes = 3`},
		{"one byte more, new file", 3, `Append a wxyz = ErrFull; Names = -; Writes = 0; Append a xyz`},
		{"one byte more, over two files", 3, `Append a wx; Append b yz = ErrFull; Names = a; Append b y; Append a z = ErrFull`},
		{"safe and pending ones", 4, `Append a xy; Sync a; Append a z; Append b pq = ErrFull; Append b p; Sync b; Append b q = ErrFull; Append a q = ErrFull; Append a -`},
		{"none", 0, `Append a x = ErrFull; Names = -; Append a -; Append b -; Append a x = ErrFull; Names = a b; Sync a; Writes = 3`},
		{"below none", -1, `Append a - = ErrFull; Append a x = ErrFull; Names = -; Writes = 0; Room 0; Append a -; Room -1; Append a - = ErrFull; Sync a; Read a = OK -`},
		{"the least", 100, `Append a xy; Room min; Append a z = ErrFull; Append a - = ErrFull; Read a = OK xy; Remove a; Append a - = ErrFull; Room 100; Append a x`},
		{"the least from the start", number("min"), `Append a - = ErrFull; Names = -; Room 1; Append a x`},
		{"the greatest", number("max"), `Append a xy; Append b z; Read a = OK xy`},
		{"less than there is", 10, `Append a wxyz; Room 3; Read a = OK wxyz; Append a q = ErrFull; Append a - = ErrFull; Append b - = ErrFull; Sync a; Truncate a 4; Rename a b;
			Truncate b 3; Append b -; Append b q = ErrFull; Truncate b 2; Append c q; Append c q = ErrFull; Read b = OK wx; Read c = OK q; Writes = 8`},
		{"less than there is, then more", 10, `Append a wxyz; Room 3; Append a q = ErrFull; Room 5; Append a q; Append a q = ErrFull; Room 6; Append a q; Read a = OK wxyzqq`},
		{"just what there is", 10, `Append a wxyz; Room 4; Append a -; Append b -; Append b q = ErrFull`},
		{"set without power", 10, `Append a xy; Off 2; Room 2; On; Append a z = ErrFull; Off 0; Room 3; On; Append a z`},
		{"room again by Truncate", 4, `Append a wxyz; Append b q = ErrFull; Truncate a 3; Append b q; Append b q = ErrFull`},
		{"room again by Remove", 4, `Append a wxyz; Append b q = ErrFull; Remove a; Append b qqqq; Append b q = ErrFull`},
		{"room again by Rename", 4, `Append a xy; Append b pq; Append c r = ErrFull; Rename a b; Append c rs; Append c r = ErrFull`},
		{"no room by Rename to itself", 4, `Append a wxyz; Rename a a; Append a q = ErrFull; Rename a b; Append a q = ErrFull`},
		{"room again after a power failure", 4, `Append a wxyz; Off 1; On; Append b qqqq = ErrFull; Append b qqq; Append b q = ErrFull`},
	})
}

// TestTruncate is P4.1 and P4.2 for every number of bytes that remain of three safe ones and two pending ones.
func TestTruncate(t *testing.T) {
	for n := 0; n <= 5; n++ {
		for keep := 0; keep <= 3; keep++ {
			safe := min(n, 3)
			left, kept := show("abcde"[:n]), show("abcde"[:min(safe+keep, n)])
			check(t, 100, fmt.Sprintf(`Append a abc; Sync a; Append a de; Truncate a %d; Read a = OK %s; Off %d; On; Read a = OK %s; Writes = 4`, n, left, keep, kept))
			kept = show(("abcde"[:n] + "xy")[:min(safe+keep, n+2)])
			check(t, 100, fmt.Sprintf(`Append a abc; Sync a; Append a de; Truncate a %d; Append a xy; Off %d; On; Read a = OK %s`, n, keep, kept))
		}
	}
	for _, n := range []string{"-1", "6", "7", "min", "max", "1048577"} {
		check(t, 100, fmt.Sprintf(`Append a abc; Sync a; Append a de; Truncate a %s = ErrLong; Read a = OK abcde; Writes = 3; Off 1; On; Read a = OK abcd`, n))
	}
	checkAll(t, []scripted{
		{"to nothing", 100, `Append a xy; Truncate a 0; Names = a; Truncate a 0; Truncate a 1 = ErrLong; Append a z; Read a = OK z`},
		{"to nothing, safe", 100, `Append a xy; Sync a; Truncate a 0; Append a z; Off 0; On; Read a = OK -; Names = a`},
		{"a file without bytes", 100, `Append a -; Truncate a 0; Truncate a 1 = ErrLong; Truncate a -1 = ErrLong; Writes = 2`},
		{"does not make safe", 100, `Append a xyz; Truncate a 2; Off 0; On; Read a = OK -`},
		{"then Sync", 100, `Append a abc; Sync a; Append a de; Truncate a 4; Sync a; Append a z; Off 0; On; Read a = OK abcd`},
		{"another file", 100, `Append a abc; Append b de; Sync b; Truncate a 1; Read b = OK de; Off 0; On; Read b = OK de; Read a = OK -`},
	})
}

// TestRename is P4.1 and P4.2 for names that are there, that are not, and for the file's own.
func TestRename(t *testing.T) {
	checkAll(t, []scripted{
		{"to none", 100, `Append a xy; Sync a; Append a zw; Rename a b; Names = b; Read b = OK xyzw; Read a = ErrFile; Off 1; On; Read b = OK xyz; Writes = 4`},
		{"to one that is there", 100, `Append a xy; Sync a; Append a zw; Append b pqrstu; Rename a b; Names = b; Read b = OK xyzw; Off 1; On; Read b = OK xyz; Names = b`},
		{"to one that is there and safe", 100, `Append a xy; Append b pqrstu; Sync b; Rename a b; Read b = OK xy; Off 1; On; Read b = OK x; Names = b`},
		{"of a safe one to a pending one", 100, `Append a xy; Sync a; Append b pqrstu; Rename a b; Off 0; On; Read b = OK xy; Read a = ErrFile`},
		{"to itself", 100, `Append a xy; Sync a; Append a zw; Rename a a; Names = a; Read a = OK xyzw; Off 1; On; Read a = OK xyz; Writes = 4`},
		{"to itself, which is not there", 100, `Rename a a = ErrFile; Names = -; Writes = 0`},
		{"of one that is not there", 100, `Append b x; Rename a b = ErrFile; Names = b; Read b = OK x; Writes = 1`},
		{"there and back", 100, `Append a x; Append b y; Rename a c; Rename b a; Rename c b; Read a = OK y; Read b = OK x; Names = a b`},
		{"and another file under the old name", 100, `Append a xy; Sync a; Rename a b; Append a z; Append b w; Read a = OK z; Read b = OK xyw; Off 0; On; Read a = OK -; Read b = OK xy`},
		{"is safe at once", 100, `Append a x; Append b y; Sync a; Sync b; Rename a b; Off 0; On; Names = b; Read b = OK x`},
		{"and Remove", 100, `Append a x; Rename a b; Remove a = ErrFile; Remove b; Names = -`},
	})
}

// TestFirstError is P4.1 for calls with several faults: the one that the chapter names first is told.
func TestFirstError(t *testing.T) {
	checkAll(t, []scripted{
		{"a name ahead of the power", 100, `Append a x; Off 9; Append - x = ErrArg; Append *17 x = ErrArg; Sync - = ErrArg; Sync *17 = ErrArg; Truncate - 0 = ErrArg; Truncate *17 -1 = ErrArg;
			Remove - = ErrArg; Remove *17 = ErrArg; Read - = ErrArg; Read *17 = ErrArg; Rename - a = ErrArg; Rename a - = ErrArg; Rename *17 a = ErrArg; Rename a *17 = ErrArg; Rename q - = ErrArg; Rename - - = ErrArg`},
		{"a name ahead of the file", 100, `Append a x; Rename q - = ErrArg; Rename q *17 = ErrArg; Rename - q = ErrArg`},
		{"a name ahead of the rest", 0, sixteen(`Append f%02d -`) + `Append - *1048577 = ErrArg; Append *17 x = ErrArg; Truncate *17 -1 = ErrArg`},
		{"the power ahead of the file", 100, `Off 0; Sync a = ErrDown; Truncate a 0 = ErrDown; Rename a b = ErrDown; Rename a a = ErrDown; Remove a = ErrDown; Read a = ErrDown`},
		{"the power ahead of the rest", 3, sixteen(`Append f%02d -`) + `Off 0; Append f00 *1048577 = ErrDown; Append f00 wxyz = ErrDown; Append q x = ErrDown; Truncate f00 -1 = ErrDown; Truncate f00 1 = ErrDown`},
		{"the file ahead of the length", 100, `Truncate a -1 = ErrFile; Truncate a 1 = ErrFile; Truncate a 0 = ErrFile`},
		{"too long on a full disk", 3, `Append a xyz; Append a *1048574 = ErrLong; Append b *1048577 = ErrLong; Append a *1048573 = ErrFull; Append b *1048576 = ErrFull`},
		{"too long with files enough", 3, sixteen(`Append f%02d -`) + `Append q *1048577 = ErrLong; Append q *1048576 = ErrFull; Append f00 *1048577 = ErrLong`},
		{"no room for either", 3, sixteen(`Append f%02d -`) + `Append q wxyz = ErrFull; Append q - = ErrFull; Append f00 wxyz = ErrFull; Append f00 xyz`},
	})
}

// TestNil is P4.1 for a disk that is not there.
func TestNil(t *testing.T) {
	var d *Disk
	for _, line := range lines(`Append a x = ErrNil; Append - x = ErrNil; Append a *1048577 = ErrNil; Sync a = ErrNil; Sync - = ErrNil; Truncate a 0 = ErrNil; Truncate - -1 = ErrNil; Rename a b = ErrNil; Rename - b = ErrNil;
		Rename a - = ErrNil; Rename a a = ErrNil; Remove a = ErrNil; Remove *17 = ErrNil; Read a = ErrNil; Read - = ErrNil; Names = -; Room 5; Arm 1 1; Off 1; Down = false; On; Down = false; Writes = 0; Off 0; Names = -; Append a x = ErrNil; Writes = 0`) {
		made, want := wanted(line)
		if got := call(d, made); got != want {
			t.Errorf("%s: %s, want %s", made, got, want)
		}
	}
	if b, _ := d.Read("a"); len(b) != 0 {
		t.Errorf("Read: %q", b)
	}
}

package wal

import (
	"bytes"
	"fmt"
	"math"
	"math/rand"
	"slices"
	"strings"
	"testing"

	"bulwark/api"
	"bulwark/disk"
)

// TestName is P5.1 for Name.
func TestName(t *testing.T) {
	for _, c := range []struct {
		first int
		want  string
	}{
		{1, "j000000001"}, {2, "j000000002"}, {9, "j000000009"}, {10, "j000000010"}, {99, "j000000099"}, {100, "j000000100"}, {65536, "j000065536"}, {12345678, "j012345678"}, {99999999, "j099999999"}, {100000000, "j100000000"},
		{123456789, "j123456789"}, {900000001, "j900000001"}, {999999998, "j999999998"}, {999999999, "j999999999"},
		{0, ""}, {-1, ""}, {-999999999, ""}, {-1000000000, ""}, {-999999998, ""}, {1000000000, ""}, {1000000001, ""}, {1999999999, ""}, {2000000000, ""}, {9999999999, ""}, {1 << 32, ""}, {1<<32 + 1, ""}, {math.MaxInt, ""}, {math.MinInt, ""},
	} {
		if got := Name(c.first); got != c.want {
			t.Errorf("Name(%d): %q, want %q", c.first, got, c.want)
		}
	}
	for n := 1; n <= 999999999; n += 1 + n/7 {
		if got, want := Name(n), fmt.Sprintf("j%09d", n); got != want {
			t.Errorf("Name(%d): %q, want %q", n, got, want)
		}
	}
}

// TestFrame is P5.1 for Frame, by bytes that were worked out apart from the program.
func TestFrame(t *testing.T) {
	for _, c := range []struct{ record, want string }{
		{"", "\x00\x00\x00\x00\x00\x00\x00\x00"},
		{"a", "\x01\x00\x00\x00\x43\xbe\xb7\xe8a"},
		{"\x00", "\x01\x00\x00\x00\x8d\xef\x02\xd2\x00"},
		{"123456789", "\x09\x00\x00\x00\x26\x39\xf4\xcb123456789"},
	} {
		if got, e := Frame([]byte(c.record)); e != api.OK || string(got) != c.want {
			t.Errorf("Frame(%q): %q, %s, want %q", c.record, got, errorName(e), c.want)
		}
	}
	if got, e := Frame(nil); e != api.OK || string(got) != "\x00\x00\x00\x00\x00\x00\x00\x00" {
		t.Errorf("Frame(nil): %q, %s", got, errorName(e))
	}
}

// TestFrameOfEachLength is P5.1 for Frame from no bytes to MaxRecord, and beyond.
func TestFrameOfEachLength(t *testing.T) {
	r := rand.New(rand.NewSource(1))
	for _, n := range []int{0, 1, 2, 7, 8, 9, 127, 128, 255, 256, 257, 511, 65534, 65535, 65536} {
		for range 3 {
			record := make([]byte, n)
			r.Read(record)
			got, e := Frame(record)
			if e != api.OK || string(got) != framed(string(record)) {
				t.Errorf("Frame of %d bytes: %d bytes, %s", n, len(got), errorName(e))
			}
		}
	}
	if got, _ := Frame(make([]byte, 65536)); string(got[:4]) != "\x00\x00\x01\x00" || len(got) != 65544 {
		t.Errorf("Frame of 65536 bytes: %d bytes, %q", len(got), got[:4])
	}
	for _, n := range []int{65537, 65538, 131072, 1 << 20, 1<<24 + 1} {
		if got, e := Frame(make([]byte, n)); e != api.ErrLong || len(got) != 0 {
			t.Errorf("Frame of %d bytes: %d bytes, %s", n, len(got), errorName(e))
		}
	}
}

// sized is a frame of a record that has more or fewer bytes than the frame states: its CRC is that of the record.
func sized(n uint32, record string) string {
	return string([]byte{byte(n), byte(n >> 8), byte(n >> 16), byte(n >> 24)}) + framed(record)[4:]
}

// TestRecords is P5.1 for Records.
func TestRecords(t *testing.T) {
	for _, c := range []struct {
		name, b string
		want    []string
		n       int
	}{
		{"no bytes", "", nil, 0},
		{"one", text("[a]"), []string{"a"}, 9},
		{"one of no bytes", text("[]"), []string{""}, 8},
		{"several", text("[a][bcd][][e]"), []string{"a", "bcd", "", "e"}, 37},
		{"one of MaxRecord", text("[*65536]"), []string{strings.Repeat(".", 65536)}, 65544},
		{"several of MaxRecord", text("[*65536][a][*65536]"), []string{strings.Repeat(".", 65536), "a", strings.Repeat(".", 65536)}, 131097},
		{"a frame in a frame", framed(framed("a")), []string{framed("a")}, 17},
		{"zeros", strings.Repeat("\x00", 24), []string{"", "", ""}, 24},
		{"zeros, and some more", strings.Repeat("\x00", 31), []string{"", "", ""}, 24},
		{"other bytes", "abcdefghijklmnopqrstuvwxyz", nil, 0},
		{"other bytes behind", text("[a]xyz"), []string{"a"}, 9},
		{"many other bytes behind", text("[a]*1000"), []string{"a"}, 9},
		{"another byte in front", text("x[a][b]"), nil, 0},
		{"a wrong CRC", text("[abc]^"), nil, 0},
		{"a wrong CRC in the middle", text("[a][bc][def]^[g][h]"), []string{"a", "bc"}, 19},
		{"a wrong CRC at the end", text("[a][bc][def][g]^"), []string{"a", "bc", "def"}, 30},
		{"a byte too few in the middle", text("[a][bcd]<1[e][f]"), []string{"a"}, 9},
		{"a byte too many in the middle", text("[a]x[e][f]"), []string{"a"}, 9},
		{"more bytes than there are", sized(4, "abc"), nil, 0},
		{"many more bytes than there are", sized(65536, "abc"), nil, 0},
		{"more than there are in the middle", text("[a]") + sized(65536, "bc") + text("[d][e]"), []string{"a"}, 9},
		{"fewer bytes than the CRC is of", sized(2, "abc"), nil, 0},
		{"no bytes, with another CRC", sized(0, "abc"), nil, 0},
		{"more than MaxRecord", framed(strings.Repeat(".", 65537)), nil, 0},
		{"more than MaxRecord in the middle", text("[a][*65537][b]"), []string{"a"}, 9},
		{"far more than MaxRecord", framed(strings.Repeat(".", 1<<20)), nil, 0},
		{"2^24 bytes", framed(strings.Repeat(".", 1<<24)), nil, 0},
		{"2^31 bytes", sized(1<<31, "abc"), nil, 0},
		{"2^31 - 1 bytes", sized(1<<31-1, "abc"), nil, 0},
		{"2^32 - 1 bytes", sized(1<<32-1, "abc"), nil, 0},
		{"2^32 - 8 bytes", sized(1<<32-8, "") + framed("a"), nil, 0},
		{"2^32 - 1 bytes in the middle", text("[a]") + sized(1<<32-1, "bc") + text("[d][e]"), []string{"a"}, 9},
		{"2^16 more than there are", sized(65536+3, "abc"), nil, 0},
		{"2^24 more than there are", sized(1<<24+3, "abc"), nil, 0},
	} {
		got, n := Records([]byte(c.b))
		if !equal(got, c.want) || n != c.n {
			t.Errorf("%s: %d records in %d bytes, want %d in %d", c.name, len(got), n, len(c.want), c.n)
		}
		// The model is held against this too, since other tests trust it.
		if got, n := recordsIn([]byte(c.b)); !equal(got, c.want) || n != c.n {
			t.Errorf("%s: the model finds %d records in %d bytes, want %d in %d", c.name, len(got), n, len(c.want), c.n)
		}
	}
	if got, n := Records(nil); len(got) != 0 || n != 0 {
		t.Errorf("Records(nil): %q, %d", got, n)
	}
}

// TestRecordsCut is P5.1 for Records of frames that are cut at each length.
func TestRecordsCut(t *testing.T) {
	records := []string{"abc", "", "d", "", "", "efghijklmnop", strings.Repeat("q", 300), "r"}
	whole := ""
	for _, r := range records {
		whole += framed(r)
	}
	for n := range len(whole) + 1 {
		var want []string
		end := 0
		for _, r := range records {
			if end+8+len(r) > n {
				break
			}
			want = append(want, r)
			end += 8 + len(r)
		}
		if got, read := Records([]byte(whole[:n])); !equal(got, want) || read != end {
			t.Errorf("%d bytes: %q in %d bytes, want %q in %d", n, got, read, want, end)
		}
	}
}

// TestRecordsDamaged is P5.1 for Records of frames of which any one byte is changed, in any bit: the frames before it are found, and none behind it.
func TestRecordsDamaged(t *testing.T) {
	records := []string{"ab", "", "cde", "f"}
	ends, whole := []int{}, []byte{}
	for _, r := range records {
		whole = append(whole, framed(r)...)
		ends = append(ends, len(whole))
	}
	for i := range whole {
		for bit := range 8 {
			b := bytes.Clone(whole)
			b[i] ^= 1 << bit
			before, n := 0, 0
			for _, end := range ends {
				if end <= i {
					before, n = before+1, end
				}
			}
			if got, read := Records(b); !equal(got, records[:before]) || read != n {
				t.Errorf("byte %d, bit %d: %q in %d bytes, want %d in %d", i, bit, got, read, before, n)
			}
		}
	}
}

// TestRecordsDrawn is P5.1 for Records of bytes that are drawn, against the model.
func TestRecordsDrawn(t *testing.T) {
	r := rand.New(rand.NewSource(2))
	found := 0
	for range 20000 {
		var b []byte
		for range r.Intn(6) {
			b = append(b, framed(strings.Repeat("x", r.Intn(4)))...)
		}
		for range r.Intn(3) {
			if len(b) == 0 {
				break
			}
			i := r.Intn(len(b))
			switch r.Intn(4) {
			case 0:
				b[i] = byte(r.Intn(3))
			case 1:
				b = b[:i]
			case 2:
				b = slices.Delete(b, i, i+1)
			case 3:
				b = slices.Insert(b, i, byte(r.Intn(3)))
			}
		}
		got, n := Records(b)
		want, m := recordsIn(b)
		found += len(want)
		if !equal(got, strs(want)) || n != m {
			t.Fatalf("Records(%q): %q in %d bytes, want %q in %d", b, got, n, want, m)
		}
	}
	if found < 20000 {
		t.Errorf("only %d records", found)
	}
}

// TestFrameAndRecords is P5.1: a frame that Frame answers is one for Records.
func TestFrameAndRecords(t *testing.T) {
	var b []byte
	var want []string
	for n := range 300 {
		record := strings.Repeat(string(rune('a'+n%26)), n)
		frame, _ := Frame([]byte(record))
		b, want = append(b, frame...), append(want, record)
	}
	if got, n := Records(append(b, 0, 0, 0)); !equal(got, want) || n != len(b) {
		t.Errorf("%d records in %d bytes, want %d in %d", len(got), n, len(want), len(b))
	}
}

// TestNoJournal is P5.1 for a nil journal.
func TestNoJournal(t *testing.T) {
	check(t, plenty, `Append a = ErrNil; Append - = ErrNil; Append *65537 = ErrNil; Prune 0 = ErrNil; Prune 9 = ErrNil; Prune -1 = ErrNil; Next = 0; disk.Writes = 0`)
	var w *Wal
	for _, record := range [][]byte{nil, {}, {1}, make([]byte, 65537)} {
		if n, e := w.Append(record); n != 0 || e != api.ErrNil {
			t.Errorf("Append: %s", counted(n, e))
		}
	}
	if n, e := w.Prune(1); n != 0 || e != api.ErrNil || w.Next() != 0 {
		t.Errorf("Prune: %s; Next: %d", counted(n, e), w.Next())
	}
}

// TestWhatOpenRejects is P5.1 for the errors of Open that stand before the first raw write, and their order.
func TestWhatOpenRejects(t *testing.T) {
	for _, per := range []int{math.MinInt, -2, -1, 0, 1, 2, math.MaxInt} {
		w, records, first, e := Open(nil, per)
		if got := opened(w == nil, records, first, e); got != "ErrNil" {
			t.Errorf("Open(nil, %d): %s", per, got)
		}
	}
	check(t, plenty, `disk.Append #1 [a][b]xyz; disk.Append #7 [c]; Open 0 = ErrArg !; Open -1 = ErrArg !; Open min = ErrArg !; disk.Off 99; Open 0 = ErrArg !; Open -1 = ErrArg; Open min = ErrArg; Open 1 = ErrDown !; Open max = ErrDown !; disk.Writes = 2;
		disk.On; disk.Names = #1(21) #7(9); Open 0 = ErrArg; disk.Names = #1(21) #7(9); disk.Writes = 2; Open 1 = 1: a b`)
	check(t, plenty, `disk.Off 0; Open 1 = ErrDown; Append a = ErrNil; Prune 1 = ErrNil; Next = 0; disk.On; Open 1 = 1:; Append a = 1; Open 0 = ErrArg; Append a = ErrNil; Open 1 = 1: a`)
}

// TestWhatStandsFirst is P5.1 for calls of which several errors are true.
func TestWhatStandsFirst(t *testing.T) {
	checkAll(t, []scripted{
		{"too long, then failed", plenty, `Open 1; disk.Off 0; Append *65537 = ErrLong; Append a = ErrDown; Append *65537 = ErrLong; disk.On; Append *65537 = ErrLong; Append a = ErrDown; Append *65536 = ErrDown`},
		{"too long, then without a name", plenty, `disk.Append #999999999 [a]; Open 1; Append *65537 = ErrLong; Append b = ErrFull`},
		{"too long, then full", 5, `Open 1; Append *65537 = ErrLong; Append b = ErrFull; Append *65536 = ErrFull`},
		{"failed, then full", 20, `Open 1; disk.Off 0; Append a = ErrDown; disk.On; Append *100 = ErrDown; disk.Room 0; Append a = ErrDown`},
		{"failed, then without a name", plenty, `disk.Append #999999998 [a]; Open 1; Append b = 999999999; disk.Off 0; Append *65537 = ErrLong; Append c = ErrFull; disk.On; Prune max = 1; disk.Arm 1 0; Append c = ErrFull`},
		{"without a name, then without power", plenty, `disk.Append #999999999 [a]; Open 1; disk.Off 0; Append b = ErrFull; Append b = ErrFull; disk.On; Append b = ErrFull; Prune 9 = 0; Next = 1000000000; disk.Writes = 2`},
		{"without power, then full", 5, `Open 1; disk.Off 0; Append b = ErrDown; disk.On; Append b = ErrDown`},
	})
	// A journal can fail before its segments run out of names: in the removal of one.
	check(t, plenty, `disk.Append #999999998 [a]; Open 1; Append b = 999999999; disk.Arm 1 0; Prune max = ErrDown; disk.On; Append c = ErrDown; Append *65537 = ErrLong; Prune max = ErrDown; Next = 1000000000`)
}

// scripted is a script with a name, on a disk of so much room.
type scripted struct {
	name   string
	room   int
	script string
}

func checkAll(t *testing.T, all []scripted) {
	t.Helper()
	for _, c := range all {
		t.Run(c.name, func(t *testing.T) {
			t.Parallel()
			check(t, c.room, c.script)
		})
	}
}

// TestExamples are the chapter's examples.
func TestExamples(t *testing.T) {
	check(t, plenty, `Open 2 = 1: !; Append a = 1 ! Append #1 9, Sync #1; Append b = 2 ! Append #1 9, Sync #1; Append c = 3 ! Append #3 9, Sync #3; disk.Names = #1(18) #3(9); Prune 3 = 1 ! Remove #1; disk.Names = #3(9);
		Open 2 = 3: c ! Sync #3; disk.Arm 1 4; Append d = ErrDown ! Append #3 9; disk.On; disk.Names = #3(13); Open 2 = 3: c ! Truncate #3 9, Sync #3; disk.Names = #3(9); Next = 4`)
	d := disk.New(plenty)
	w, _, _, _ := Open(d, 2)
	for _, r := range []string{"a", "b", "c"} {
		w.Append([]byte(r))
	}
	if got := d.Names(); !slices.Equal(got, []string{"j000000001", "j000000003"}) {
		t.Errorf("the files are %q", got)
	}
	if b, _ := d.Read("j000000003"); string(b) != "\x01\x00\x00\x00\x6f\xdf\xb9\x06c" {
		t.Errorf("the second one has %q", b)
	}
}

// TestOrdinary is P5.1 for ordinary sequences of calls.
func TestOrdinary(t *testing.T) {
	checkAll(t, []scripted{
		{"one record a segment", plenty, `Open 1 = 1: !; Next = 1; Append a = 1 ! Append #1 9, Sync #1; Next = 2; Append bc = 2 ! Append #2 10, Sync #2; Append - = 3 ! Append #3 8, Sync #3; Next = 4; disk.Names = #1(9) #2(10) #3(8); disk.Writes = 6;
			Open 1 = 1: a bc - ! Sync #1, Sync #2, Sync #3; Next = 4; Append d = 4 ! Append #4 9, Sync #4`},
		{"two", plenty, `Open 2; Append a = 1; Append bc = 2; Append d = 3; Append - = 4; Append - = 5; Append e = 6; Append f = 7; disk.Names = #1(19) #3(17) #5(17) #7(9); Open 2 = 1: a bc d - - e f ! Sync #1, Sync #3, Sync #5, Sync #7; Append g = 8; Append h = 9; disk.Names = #1(19) #3(17) #5(17) #7(18) #9(9)`},
		{"three", plenty, `Open 3; ` + numbered(`Append r%d`, 1, 8) + `disk.Names = #1(30) #4(30) #7(20); Next = 9; Open 3 = 1: r1 r2 r3 r4 r5 r6 r7 r8; Append r9 = 9 ! Append #7 10, Sync #7; Append s = 10 ! Append #10 9, Sync #10`},
		{"as many as there are", plenty, `Open max = 1:; ` + numbered(`Append r%d`, 1, 20) + `disk.Names = #1(211); Open max; Append s = 21 ! Append #1 9, Sync #1; Prune max = 0`},
		{"opened before each", plenty, `Open 2 = 1:; Append a = 1; Open 2 = 1: a ! Sync #1; Append b = 2; Open 2 = 1: a b ! Sync #1; Append c = 3; Open 2 = 1: a b c ! Sync #1, Sync #3; Append d = 4; Open 2 = 1: a b c d ! Sync #1, Sync #3; Append e = 5; Open 2 = 1: a b c d e ! Sync #1, Sync #3, Sync #5`},
		{"opened without a record", plenty, `Open 2 = 1: !; Open 2 = 1: !; Next = 1; disk.Names =; disk.Writes = 0`},
		{"power off and on in between", plenty, `Open 2; Append a = 1; disk.Off 0; Next = 2; disk.On; Append b = 2; Append c = 3; disk.Off 9; disk.On; Prune 3 = 1; Append d = 4; Next = 5; Open 2 = 3: c d`},
		{"pruned in between", plenty, `Open 2; ` + numbered(`Append r%d`, 1, 7) + `Prune 4 = 1; Append a = 8; Append b = 9; Prune 8 = 2; disk.Names = #7(19) #9(9); Open 2 = 7: r7 a b; Prune 9 = 1 ! Remove #7; Open 2 = 9: b; Append c = 10; Append d = 11; Prune 11 = 1; Append e = 12; Append f = 13; Open 2 = 11: d e f`},
		{"bytes of all kinds", plenty, `Open 2; Append [a] = 1; Append [a][b]xy = 2; Append #1 = 3; Append [] = 4; Open 9 = 1: ` + framed("a") + ` ` + text("[a][b]xy") + ` #1 ` + framed("")},
	})
	checkWithout(t, plenty, `Open 2; Append *65536 = 1 ! Append #1 65544, Sync #1; Append *65535 = 2; Append *65536 = 3; disk.Names = #1(131087) #3(65544); Append *65537 = ErrLong !; Next = 4; Append - = 4; Open 2 = 1: *65536 *65535 *65536 -`)
}

// TestPer is P5.1 and P5.3 for the number of records of a segment, also if it is another one at the next opening.
func TestPer(t *testing.T) {
	checkAll(t, []scripted{
		{"fewer", plenty, `Open 4; ` + numbered(`Append r%d`, 1, 6) + `Open 2 = 1: r1 r2 r3 r4 r5 r6 ! Sync #1, Sync #5; Append a = 7 ! Append #7 9, Sync #7; Append b = 8; Append c = 9; disk.Names = #1(40) #5(20) #7(18) #9(9); Prune 7 = 2; Open 2 = 7: a b c`},
		{"fewer than the last one has", plenty, `Open 9; ` + numbered(`Append r%d`, 1, 5) + `Open 2; Append a = 6 ! Append #6 9, Sync #6; Append b = 7 ! Append #6 9, Sync #6; Append c = 8 ! Append #8 9, Sync #8; Open 1; Append d = 9; Append e = 10; disk.Names = #1(50) #6(18) #8(9) #9(9) #10(9)`},
		{"one fewer than the last one has", plenty, `Open 9; ` + numbered(`Append r%d`, 1, 3) + `Open 2; Append a = 4 ! Append #4 9, Sync #4; Next = 5`},
		{"as many as the last one has", plenty, `Open 9; ` + numbered(`Append r%d`, 1, 3) + `Open 3; Append a = 4 ! Append #4 9, Sync #4; Open 3 = 1: r1 r2 r3 a`},
		{"one more than the last one has", plenty, `Open 9; ` + numbered(`Append r%d`, 1, 3) + `Open 4; Append a = 4 ! Append #1 9, Sync #1; Append b = 5 ! Append #5 9, Sync #5`},
		{"more", plenty, `Open 1; Append a = 1; Append b = 2; Open 3; Append c = 3 ! Append #2 9, Sync #2; Append d = 4 ! Append #2 9, Sync #2; Append e = 5 ! Append #5 9, Sync #5; Open max = 1: a b c d e; ` + numbered(`Append r%d`, 6, 12) + `disk.Names = #1(9) #2(27) #5(82)`},
		{"one, over more", plenty, `Open max; Append a = 1; Append b = 2; Open 1; Append c = 3; Append d = 4; Prune 3 = 1; Prune 4 = 1; Open max = 4: d; Append e = 5 ! Append #4 9, Sync #4`},
	})
}

package wal

import (
	"fmt"
	"slices"
	"testing"

	"bulwark/api"
	"bulwark/disk"
)

// TestSegmentsOfAJournal is P5.1 for the disks that Open finds, with all their gaps, overlaps and torn segments.
func TestSegmentsOfAJournal(t *testing.T) {
	checkAll(t, []scripted{
		{"nothing", plenty, `Open 2 = 1: !; Next = 1; disk.Writes = 0`},
		{"one segment", plenty, `disk.Append #1 [a][b]; Open 2 = 1: a b ! Sync #1; Next = 3`},
		{"one segment, safe", plenty, `disk.Append #1 [a][b]; disk.Sync #1; Open 2 = 1: a b ! Sync #1; Next = 3`},
		{"another first record", plenty, `disk.Append #5 [a][b]; Open 2 = 5: a b ! Sync #5; Next = 7; Append c = 7 ! Append #7 9, Sync #7; Prune 7 = 1`},
		{"another first record, with room", plenty, `disk.Append #5 [a]; Open 2 = 5: a; Append b = 6 ! Append #5 9, Sync #5; Next = 7; Open 2 = 5: a b`},
		{"segments that follow", plenty, `disk.Append #7 [a][b]; disk.Append #9 [c]; disk.Append #10 [d][e]; Open 2 = 7: a b c d e ! Sync #7, Sync #9, Sync #10; Next = 12`},
		{"in whatever order they came", plenty, `disk.Append #10 [d][e]; disk.Append #9 [c]; disk.Append #7 [a][b]; Open 2 = 7: a b c d e ! Sync #7, Sync #9, Sync #10`},
		{"a gap", plenty, `disk.Append #1 [a][b]; disk.Append #4 [c]; Open 2 = 1: a b ! Sync #1, Remove #4; Next = 3; disk.Names = #1(18); Append d = 3`},
		{"a gap of many", plenty, `disk.Append #1 [a]; disk.Append #999999999 [c]; Open 2 = 1: a ! Sync #1, Remove #999999999; Append b = 2`},
		{"an overlap", plenty, `disk.Append #1 [a][b]; disk.Append #2 [c]; Open 2 = 1: a b ! Sync #1, Remove #2; Next = 3; disk.Names = #1(18)`},
		{"one behind that follows", plenty, `disk.Append #1 [a][b]; disk.Append #2 [x]; disk.Append #3 [c][d]; disk.Append #5 [e]; Open 2 = 1: a b ! Sync #1, Remove #2, Remove #3, Remove #5; Next = 3; disk.Names = #1(18)`},
		{"one behind that follows the removed one", plenty, `disk.Append #1 [a][b]; disk.Append #4 [x]; disk.Append #5 [c][d]; Open 2 = 1: a b ! Sync #1, Remove #4, Remove #5; Next = 3`},
		{"an overlap further on", plenty, `disk.Append #1 [a]; disk.Append #2 [b][c][d]; disk.Append #3 [x]; disk.Append #4 [y]; disk.Append #5 [z]; Open 2 = 1: a b c d ! Sync #1, Sync #2, Remove #3, Remove #4, Remove #5; Append e = 5 ! Append #5 9, Sync #5`},
		{"no bytes", plenty, `disk.Append #1 -; Open 2 = 1: ! Sync #1; Next = 1; disk.Names = #1(0); Append a = 1 ! Append #1 9, Sync #1`},
		{"no bytes, another first record", plenty, `disk.Append #8 -; Open 2 = 8: ! Sync #8; Next = 8; Append a = 8 ! Append #8 9, Sync #8; Append b = 9; Append c = 10; disk.Names = #8(18) #10(9); Open 2 = 8: a b c`},
		{"no bytes, behind another one", plenty, `disk.Append #1 [a][b]; disk.Append #3 -; Open 2 = 1: a b ! Sync #1, Sync #3; Next = 3; Append c = 3 ! Append #3 9, Sync #3`},
		{"no bytes, behind a shorter one", plenty, `disk.Append #1 [a]; disk.Append #2 -; Open 2 = 1: a ! Sync #1, Sync #2; Append b = 2 ! Append #2 9, Sync #2; Append c = 3 ! Append #2 9, Sync #2; Append d = 4 ! Append #4 9, Sync #4`},
		{"no bytes, before others", plenty, `disk.Append #1 -; disk.Append #2 [a]; disk.Append #3 [b]; Open 2 = 1: ! Sync #1, Remove #2, Remove #3; Next = 1; disk.Names = #1(0)`},
		{"no bytes, in the middle", plenty, `disk.Append #4 [a][b]; disk.Append #6 -; disk.Append #7 [c]; Open 2 = 4: a b ! Sync #4, Sync #6, Remove #7; Next = 6`},
		{"records of no bytes", plenty, `disk.Append #1 [][]; disk.Append #3 []; Open 2 = 1: - - - ! Sync #1, Sync #3; Next = 4; Append - = 4; Open 2 = 1: - - - -`},
		{"a torn tail", plenty, `disk.Append #1 [a][b]xyz; Open 2 = 1: a b ! Truncate #1 18, Sync #1; disk.Names = #1(18); Append c = 3 ! Append #3 9, Sync #3`},
		{"a torn tail, safe", plenty, `disk.Append #1 [a][bcd]<1; disk.Sync #1; Open 2 = 1: a ! Truncate #1 9, Sync #1; disk.Names = #1(9); Append e = 2; Open 2 = 1: a e ! Sync #1`},
		{"nothing but a torn tail", plenty, `disk.Append #1 xyz; Open 2 = 1: ! Truncate #1 0, Sync #1; disk.Names = #1(0); Append a = 1; Open 2 = 1: a`},
		{"nothing but a torn tail, another first record", plenty, `disk.Append #6 [a]<1; Open 2 = 6: ! Truncate #6 0, Sync #6; Next = 6`},
		{"a torn segment in the middle", plenty, `disk.Append #1 [a][b]; disk.Append #3 [c][d]<2; disk.Append #5 [e][f]; disk.Append #7 [g]; Open 2 = 1: a b c ! Sync #1, Truncate #3 9, Sync #3, Remove #5, Remove #7; Next = 4; Append x = 4 ! Append #3 9, Sync #3`},
		{"a torn segment with whole records behind", plenty, `disk.Append #1 [a][b]^[c]; disk.Append #2 [x]; disk.Append #4 [d]; Open 3 = 1: a x ! Truncate #1 9, Sync #1, Sync #2, Remove #4; Next = 3`},
		{"a tail behind all the records", plenty, `disk.Append #1 [a][b]xyz; disk.Append #3 [c]pq; disk.Append #4 [d]; Open 2 = 1: a b c d ! Truncate #1 18, Sync #1, Truncate #3 9, Sync #3, Sync #4; Next = 5; disk.Names = #1(18) #3(9) #4(9)`},
		{"a tail in one that is removed", plenty, `disk.Append #1 [a]; disk.Append #3 [c]pq; disk.Append #9 xyz; Open 2 = 1: a ! Sync #1, Remove #3, Remove #9`},
		{"a tail of a whole segment's bytes", plenty, `disk.Append #1 x[a][b]; disk.Append #3 [c]; Open 2 = 1: ! Truncate #1 0, Sync #1, Remove #3; disk.Names = #1(0)`},
		{"a record too long", plenty, `disk.Append #1 [a][*65537][b]; disk.Append #2 [c]; Open 2 = 1: a c ! Truncate #1 9, Sync #1, Sync #2`},
		{"more records than per", plenty, `disk.Append #1 [a][b][c][d]; Open 2 = 1: a b c d ! Sync #1; Append e = 5 ! Append #5 9, Sync #5; Append f = 6; Append g = 7; Open 2 = 1: a b c d e f g`},
		{"more records than per, further on", plenty, `disk.Append #1 [a]; disk.Append #2 [b][c][d]; Open 1 = 1: a b c d; Append e = 5 ! Append #5 9, Sync #5; Prune 5 = 2`},
		{"fewer records than per, not in the last one", plenty, `disk.Append #1 [a]; disk.Append #2 [b]; Open 3 = 1: a b; Append c = 3 ! Append #2 9, Sync #2; Append d = 4; Append e = 5; disk.Names = #1(9) #2(27) #5(9)`},
		{"as many files as there can be", plenty, numbered(`disk.Append #%d []`, 1, 16) + `Open 1 = 1: - - - - - - - - - - - - - - - -; Append - = ErrFull !; Open 2; Append - = 17 ! Append #16 8, Sync #16; Append - = ErrFull`},
		{"a full disk", 22, `disk.Append #1 [a]xyz; disk.Append #9 [c]; disk.Room 0; Open 2 = 1: a ! Truncate #1 9, Sync #1, Remove #9; Append - = ErrFull; disk.Room 16; Append - = ErrFull; disk.Room 17; Append - = 2`},
	})
}

// TestLastRecords is P5.1 for the segment of record 999999999, behind which none can begin.
func TestLastRecords(t *testing.T) {
	checkAll(t, []scripted{
		{"one record a segment", plenty, `disk.Append #999999998 [a]; Open 1 = 999999998: a; Next = 999999999; Append b = 999999999 ! Append #999999999 9, Sync #999999999; Next = 1000000000; Append c = ErrFull !; Next = 1000000000; Append - = ErrFull !;
			disk.Names = #999999998(9) #999999999(9); Open 1 = 999999998: a b; Append c = ErrFull; Prune max = 1; Append c = ErrFull; Open 2 = 999999999: b; Append c = 1000000000 ! Append #999999999 9, Sync #999999999; Next = 1000000001; Append d = ErrFull !`},
		{"two", plenty, `disk.Append #999999997 [a][b]; Open 2; Append c = 999999999 ! Append #999999999 9, Sync #999999999; Append d = 1000000000 ! Append #999999999 9, Sync #999999999; Append e = ErrFull !; Next = 1000000001; Open 2 = 999999997: a b c d; Next = 1000000001; Append e = ErrFull; Prune 999999999 = 1`},
		{"two, at odds", plenty, `disk.Append #999999998 [a]; Open 2; Append b = 999999999 ! Append #999999998 9, Sync #999999998; Append c = ErrFull !; Prune max = 0; Open 3; Append c = 1000000000; Append d = ErrFull`},
		{"many", plenty, `disk.Append #999999999 [a][b][c]; Open 3 = 999999999: a b c; Next = 1000000002; Append d = ErrFull !; Open 4; Append d = 1000000002; Append e = ErrFull; Open max; Append e = 1000000003; Next = 1000000004; Open 1 = 999999999: a b c d e`},
		{"without a record", plenty, `disk.Append #999999999 -; Open 1 = 999999999:; Next = 999999999; Append a = 999999999; Append b = ErrFull`},
		{"a refused record is no failure", plenty, `disk.Append #999999999 [a]; Open 1; Append b = ErrFull; disk.Append q x; Prune 5 = 0; Append b = ErrFull; disk.Arm 1 0; Append b = ErrFull; Prune 5 = 0; Next = 1000000000; disk.Sync q = ErrDown`},
	})
}

// TestOtherFiles is P5.1 for files that have other names than segments: nothing is done with them.
func TestOtherFiles(t *testing.T) {
	others := []string{
		"j", "j1", "j00000001", "j0000000001", "j0000000010", "j00000000", "j000000000", "0000000001", "1000000000", "J000000001", "k000000001", "i000000001", "s000000001", "jj00000001", "j+00000001", "j-00000001", "j 00000001", "j00000001 ", "j0000 0001",
		"j0x0000001", "j00000000a", "j00000000A", "j00000000/", "j00000000:", "j/00000001", "j:00000001", "j00000_001", "j0000000.1", "j1e0000000", "j00000001\x00", "\x00j00000001", "j00000000\xff", "j0000000²", "j٠٠٠١", "ｊ00000001", " j00000001", "draft", "j000000001j", "j000000001\n", "a000000001", "\xff",
	}
	for _, found := range []string{"", "[a][b]"} {
		for at := 0; at < len(others); at += 12 {
			program, words := programSide(plenty), modelSide(plenty)
			some := others[at:min(at+12, len(others))]
			where := func() string { return fmt.Sprintf("with the files %q", some) }
			for _, s := range []*side{program, words} {
				for _, name := range some {
					if e := s.d.Append(name, []byte(text("[x]yz"))); e != api.OK {
						t.Fatalf("Append(%q): %s", name, errorName(e))
					}
				}
				if found != "" {
					s.d.Append("j000000001", []byte(text(found)))
				}
			}
			for _, call := range []string{"Open 2", "Next", "Append c", "Append d", "Prune 99", "Append e", "Prune 99", "disk.Off 2", "disk.On", "Open 2", "Prune max", "Open 1"} {
				both(t, program, words, call, where)
				same(t, program, words, where)
			}
			for _, name := range some {
				b, e := program.d.Read(name)
				// What was pending isn't made safe either.
				if e != api.OK || string(b) != text("[x]yz")[:2] {
					t.Errorf("%q: %q, %s", name, b, errorName(e))
				}
			}
		}
	}
}

// TestNamesBesideSegments is P5.1 for other names that stand between those of segments.
func TestNamesBesideSegments(t *testing.T) {
	d := disk.New(plenty)
	for _, name := range []string{"j00000000", "j000000000", "j000000001", "j0000000011", "j00000001", "j000000012", "j000000002", "j00000002", "j1"} {
		d.Append(name, []byte(text("[a]")))
	}
	w, records, first, e := Open(d, 1)
	if got := opened(w == nil, records, first, e); got != "1: a a" || d.Writes() != 9+3 {
		t.Errorf("%s, %d raw writes", got, d.Writes()-9)
	}
	if got, want := d.Names(), []string{"j00000000", "j000000000", "j000000001", "j0000000011", "j000000002", "j00000001", "j00000002", "j1"}; !slices.Equal(got, want) {
		t.Errorf("the files are %q, want %q", got, want)
	}
}

// TestPrune is P5.1 for Prune.
func TestPrune(t *testing.T) {
	five := `disk.Append #3 [a][b]; disk.Append #5 [c]; disk.Append #6 [d][e]; disk.Append #8 [f]; disk.Append #9 [g]; Open 2 = 3: a b c d e f g; `
	checkAll(t, []scripted{
		{"the least", plenty, five + `Prune min = 0 !; Prune -1 = 0 !; Prune 0 = 0 !; Prune 1 = 0; Prune 2 = 0; Prune 3 = 0 !; disk.Names = #3(18) #5(9) #6(18) #8(9) #9(9)`},
		{"between", plenty, five + `Prune 4 = 0 !; disk.Names = #3(18) #5(9) #6(18) #8(9) #9(9)`},
		{"at the second", plenty, five + `Prune 5 = 1 ! Remove #3; disk.Names = #5(9) #6(18) #8(9) #9(9); Prune 5 = 0 !; Next = 10; Append h = 10`},
		{"at the third", plenty, five + `Prune 6 = 2 ! Remove #3, Remove #5; disk.Names = #6(18) #8(9) #9(9); Prune 6 = 0 !; Prune 5 = 0 !; Open 2 = 6: d e f g`},
		{"between the third and the fourth", plenty, five + `Prune 7 = 2 ! Remove #3, Remove #5; Prune 7 = 0; Prune 8 = 1 ! Remove #6; disk.Names = #8(9) #9(9)`},
		{"at the last", plenty, five + `Prune 9 = 4 ! Remove #3, Remove #5, Remove #6, Remove #8; disk.Names = #9(9); Prune 9 = 0 !; Append h = 10 ! Append #9 9, Sync #9; Append i = 11 ! Append #11 9, Sync #11; Prune 10 = 0; Prune 11 = 1`},
		{"one less than the last", plenty, five + `Prune 8 = 3 ! Remove #3, Remove #5, Remove #6; disk.Names = #8(9) #9(9)`},
		{"beyond the last", plenty, five + `Prune 10 = 4; disk.Names = #9(9); Prune 99 = 0 !; Prune max = 0 !; Next = 10; Open 2 = 9: g`},
		{"the greatest", plenty, five + `Prune max = 4 ! Remove #3, Remove #5, Remove #6, Remove #8; disk.Names = #9(9); Open 2 = 9: g`},
		{"one segment", plenty, `Open 2; Append a = 1; Prune min = 0; Prune 0 = 0; Prune 1 = 0; Prune 2 = 0; Prune 99 = 0 !; Prune max = 0 !; disk.Names = #1(9); Append b = 2; Prune 3 = 0`},
		{"one segment, full", plenty, `Open 2; Append a = 1; Append b = 2; Prune 3 = 0 !; Prune max = 0 !; Append c = 3; Prune 2 = 0; Prune 3 = 1`},
		{"one segment without a record", plenty, `disk.Append #4 -; Open 2 = 4:; Prune 4 = 0; Prune max = 0 !; disk.Names = #4(0)`},
		{"a last segment without a record", plenty, `disk.Append #4 [a]; disk.Append #5 -; Open 2 = 4: a; Prune 4 = 0; Prune 5 = 1 ! Remove #4; disk.Names = #5(0); Next = 5; Open 2 = 5:; Append b = 5`},
		{"none", plenty, `Open 2; Prune min = 0; Prune 0 = 0; Prune 1 = 0; Prune 2 = 0; Prune max = 0 !; Next = 1; Append a = 1`},
		{"after a refused record", 18, `Open 1; Append a = 1; Append b = 2; Append c = ErrFull; Prune 3 = 1 ! Remove #1; Append c = 3; Prune 3 = 1; Open 1 = 3: c`},
		{"without power", plenty, five + `disk.Off 0; Prune 9 = 0 !; Prune max = 0; Prune 0 = 0; Next = 10; disk.On; Prune 6 = 2; disk.Off 0; Prune 9 = 0; disk.On; Append h = 10; Prune 9 = 2`},
		{"without power, then Append", plenty, five + `disk.Off 0; Prune 9 = 0; Append h = ErrDown; Prune 9 = ErrDown !; disk.On; Prune 9 = ErrDown !; disk.Names = #3(18) #5(9) #6(18) #8(9) #9(9)`},
		{"the power fails in the third removal", plenty, five + `disk.Arm 3 0; Prune 9 = ErrDown ! Remove #3, Remove #5, Remove #6; Prune 9 = ErrDown; disk.On; disk.Names = #6(18) #8(9) #9(9); Prune 9 = ErrDown !; Append h = ErrDown !; Next = 10; Open 2 = 6: d e f g; Prune 9 = 2`},
		{"the names of other files stand between", plenty, `disk.Append j00000001 x; disk.Append j0000000025 x; disk.Append j x; disk.Append s000000001 x; disk.Append draft x; Open 1; Append a = 1; Append b = 2; Append c = 3; Prune 3 = 2 ! Remove #1, Remove #2; disk.Names = draft(1) j(1) j0000000025(1) #3(9) j00000001(1) s000000001(1)`},
	})
}

// TestEveryPrune is P5.1 for Prune of journals with segments of any numbers of records, with each number.
func TestEveryPrune(t *testing.T) {
	t.Parallel()
	for first := 1; first <= 2; first++ {
		for shape := range 64 {
			for below := -1; below <= 12; below++ {
				script, next := "", first
				for rest := shape; rest > 0; rest /= 4 {
					script += fmt.Sprintf("disk.Append #%d ", next)
					for range rest%4 + 1 {
						script += "[]"
						next++
					}
					script += "; "
				}
				checkWithout(t, plenty, fmt.Sprintf("%sOpen 2; Prune %d; Next; Append -; Prune %d; Open 2", script, below, below+1))
			}
		}
	}
}

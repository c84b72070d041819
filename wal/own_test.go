package wal

import (
	"slices"
	"strings"
	"testing"

	"bulwark/api"
	"bulwark/disk"
)

// TestArgumentOfFrame is P5.5 for Frame.
func TestArgumentOfFrame(t *testing.T) {
	whole := []byte("0123456789")
	for _, c := range []struct{ from, to int }{{0, 0}, {2, 2}, {2, 5}, {0, 10}, {10, 10}} {
		frame, _ := Frame(whole[c.from:c.to])
		other, _ := Frame(whole[c.from:c.to])
		want := framed("0123456789"[c.from:c.to])
		_ = append(other, "more bytes behind"...)
		if string(whole) != "0123456789" || string(frame) != want {
			t.Errorf("%d to %d: the argument is %q, the frame %q", c.from, c.to, whole, frame)
		}
		scribble(frame)
		if string(whole) != "0123456789" || string(other) != want {
			t.Errorf("%d to %d, scribbled: the argument is %q, another frame %q", c.from, c.to, whole, other)
		}
		frame, _ = Frame(whole[c.from:c.to])
		copy(whole, "..........")
		if string(frame) != want {
			t.Errorf("%d to %d: the frame has become %q", c.from, c.to, frame)
		}
		copy(whole, "0123456789")
	}
}

// TestArgumentOfRecords is P5.5 for Records.
func TestArgumentOfRecords(t *testing.T) {
	told := text("[abc][][defg][][h]xyz") + strings.Repeat("?", 40)
	want := []string{"abc", "", "defg", "", "h"}
	whole := []byte(told)
	b := whole[:len(whole)-40]
	first, _ := Records(b)
	second, _ := Records(b)
	for i := range first {
		scribble(first[i])
		first[i] = append(first[i], "more bytes behind the record"...)
		if string(whole) != told || !equal(second, want) {
			t.Errorf("record %d scribbled: the argument is %q, another answer %q", i, whole, second)
		}
		if got := strs(first[i+1:]); !slices.Equal(got, want[i+1:]) {
			t.Errorf("record %d scribbled: those behind it are %q", i, got)
		}
	}
	first, _ = Records(b)
	_ = append(first[:0], []byte("other"), []byte("records"))
	if !equal(second, want) {
		t.Errorf("another answer has become %q", second)
	}
	scribble(whole)
	if !equal(second, want) {
		t.Errorf("the answer has become %q", second)
	}
}

// TestArgumentOfAppend is P5.5 for Append, also for a record that is refused, and for one in which the power fails.
func TestArgumentOfAppend(t *testing.T) {
	for _, before := range []string{"", "Append p", "Append p; Append q", "disk.Arm 1 99", "disk.Arm 2 99", "disk.Arm 1 0", "disk.Room 5", "disk.Off 0", "Append p; disk.Off 0; Append q; disk.On"} {
		s := programSide(plenty)
		s.call("Open 2")
		for _, c := range steps(before) {
			s.call(c.call)
		}
		whole := []byte("0123456789")
		for _, record := range [][]byte{whole[2:5], whole[2:2], whole[:0], whole} {
			s.j.Append(record)
		}
		if string(whole) != "0123456789" {
			t.Errorf("%s: the argument has become %q", before, whole)
		}
		s.d.On()
		seen := view(s.d)
		copy(whole, "..........")
		if got := view(s.d); got != seen {
			t.Errorf("%s: %s, before the change %s", before, got, seen)
		}
		if got := s.call("Open 2"); strings.Contains(got, ".") {
			t.Errorf("%s: %s", before, got)
		}
	}
}

// TestAppendedAgain is P5.5 for one slice that is appended again and again with other bytes.
func TestAppendedAgain(t *testing.T) {
	d := disk.New(plenty)
	w, _, _, _ := Open(d, 3)
	record := make([]byte, 4, 20)
	var want []string
	for i := range 10 {
		for j := range record {
			record[j] = byte('a' + i)
		}
		w.Append(record[:i%5])
		want = append(want, string(record[:i%5]))
	}
	scribble(record)
	if _, found, _, _ := Open(d, 3); !equal(found, want) {
		t.Errorf("%q, want %q", found, want)
	}
}

// TestAnswerOfOpen is P5.5: what Open answers is shared neither with the disk nor with the journal nor with another answer, and no two records share anything.
func TestAnswerOfOpen(t *testing.T) {
	s := programSide(plenty)
	for _, c := range steps(`disk.Append #1 [abc][]; disk.Append #3 [de][f]; disk.Append #5 []xyz`) {
		s.call(c.call)
	}
	want := []string{"abc", "", "de", "f", ""}
	_, first, _, _ := Open(s.d, 2)
	w, second, _, _ := Open(s.d, 2)
	for i := range second {
		scribble(second[i])
		second[i] = append(second[i], "more bytes behind the record"...)
		if got := strs(second[i+1:]); !slices.Equal(got, want[i+1:]) {
			t.Errorf("record %d scribbled: those behind it are %q", i, got)
		}
	}
	for i := range second {
		second[i] = []byte("other")
	}
	_ = append(second[:0], []byte("p"), []byte("q"))
	if !equal(first, want) {
		t.Errorf("another answer has become %q", first)
	}
	if n, e := w.Append([]byte("g")); n != 6 || e != api.OK {
		t.Errorf("Append: %s", counted(n, e))
	}
	_, third, number, _ := Open(s.d, 2)
	if !equal(third, append(want, "g")) || number != 1 {
		t.Errorf("Open: %q, %d", third, number)
	}
	s.d.Remove("j000000001")
	s.d.Truncate("j000000003", 0)
	s.d.Append("j000000003", []byte(strings.Repeat("#", 100)))
	if !equal(third, append(want, "g")) {
		t.Errorf("after changes of the disk: %q", third)
	}
}

// TestRecordsAtTheirEnds is P5.5 for answers whose records are appended to by turns: none has its spare capacity in another one.
func TestRecordsAtTheirEnds(t *testing.T) {
	b := []byte(text("[a][b][c][d][][e]"))
	records, _ := Records(b)
	for i := len(records) - 1; i >= 0; i-- {
		records[i] = append(records[i], strings.Repeat("!", 20)...)
	}
	for i, want := range []string{"a", "b", "c", "d", "", "e"} {
		if got := string(records[i]); got != want+strings.Repeat("!", 20) {
			t.Errorf("record %d: %q", i, got)
		}
	}
	if string(b) != text("[a][b][c][d][][e]") {
		t.Errorf("the argument has become %q", b)
	}
}

// TestTwoJournals is P5.5 with rule 4: journals on disks of their own know nothing of one another.
func TestTwoJournals(t *testing.T) {
	one, other := programSide(plenty), programSide(30)
	for _, c := range []struct {
		s          *side
		call, want string
	}{
		{one, "Open 2", "1:"}, {other, "Open 1", "1:"}, {one, "Append a", "1"}, {other, "Append x", "1"}, {one, "Append b", "2"}, {other, "Append y", "2"}, {other, "Append z", "3"}, {other, "Append w", "ErrFull"}, {one, "Append c", "3"},
		{other, "disk.Off 0", ""}, {other, "Append w", "ErrDown"}, {one, "Append d", "4"}, {one, "Prune 3", "1"}, {other, "disk.On", ""}, {other, "Prune 3", "ErrDown"}, {one, "Next", "5"}, {other, "Next", "4"}, {other, "Open 1", "1: x y z"}, {one, "Open 2", "3: c d"},
	} {
		if got := c.s.call(c.call); got != c.want {
			t.Errorf("%s: %s, want %s", c.call, got, c.want)
		}
	}
}

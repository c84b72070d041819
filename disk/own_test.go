package disk

import (
	"bytes"
	"slices"
	"strings"
	"testing"

	"bulwark/api"
)

// TestArgumentOfAppend is P4.4: Append neither changes its argument, with the spare capacity behind it, nor keeps it.
func TestArgumentOfAppend(t *testing.T) {
	for _, before := range []string{``, `Append a -`, `Append a pq`, `Append a pq; Sync a`, `Append a pqrs; Truncate a 2`, `Append a pqrs; Off 2; On`} {
		for _, after := range []string{``, `Sync a`, `Off 9; On`, `Rename a q; Rename q a`} {
			d := New(100)
			perform(d, before)
			already, _ := d.Read("a")
			whole := []byte("0123456789")
			d.Append("a", whole[2:5])
			d.Append("a", whole[2:2])
			d.Append("a", []byte("zzzz"))
			perform(d, after)
			if string(whole) != "0123456789" {
				t.Errorf("%s: the argument has become %q", before, whole)
			}
			copy(whole, "..........")
			if b, e := d.Read("a"); e != api.OK || string(b) != string(already)+"234zzzz" {
				t.Errorf("%s, Append, %s: %q, %s", before, after, b, errorName(e))
			}
		}
	}
}

// TestArgumentOfTwoFiles is P4.4: files that the same bytes were appended to don't share them.
func TestArgumentOfTwoFiles(t *testing.T) {
	d, whole := New(100), []byte("0123456789")
	d.Append("a", whole[:3])
	d.Append("b", whole[:3])
	d.Append("a", []byte("x"))
	d.Append("b", []byte("yz"))
	d.Append("c", whole)
	if got, want := view(d), "down false, 5 writes, a: OK 012x, b: OK 012yz, c: OK 0123456789"; got != want {
		t.Errorf("%s, want %s", got, want)
	}
}

// TestArgumentOfRejected is P4.4 for an Append that is rejected, or in which the power fails.
func TestArgumentOfRejected(t *testing.T) {
	for _, before := range []string{`Room 2`, `Off 0`, `Arm 1 2`, `Arm 1 9`} {
		d, whole := New(100), []byte("0123456789")
		perform(d, before)
		d.Append("a", whole[:3])
		if string(whole) != "0123456789" {
			t.Errorf("%s: the argument has become %q", before, whole)
		}
		perform(d, `On; Room 100`)
		seen := view(d)
		copy(whole, "..........")
		if got := view(d); got != seen {
			t.Errorf("%s: %s, before the change %s", before, got, seen)
		}
	}
}

// scribble overwrites all bytes of b, with the spare capacity behind them.
func scribble(b []byte) {
	b = b[:cap(b)]
	for i := range b {
		b[i] = '#'
	}
}

// TestAnswerOfRead is P4.4: what Read answers is shared neither with the disk nor with another answer.
func TestAnswerOfRead(t *testing.T) {
	for _, before := range []string{`Append a xyz`, `Append a xyz; Sync a`, `Append a x; Sync a; Append a yz`, `Append a xyzpq; Truncate a 3`, `Append a xyzpq; Off 3; On`, `Append a xy; Append a z; Rename a b; Rename b a`} {
		d := New(100)
		perform(d, before)
		first, _ := d.Read("a")
		second, _ := d.Read("a")
		scribble(first)
		if string(second) != "xyz" {
			t.Errorf("%s: another answer has become %q", before, second)
		}
		if b, _ := d.Read("a"); string(b) != "xyz" {
			t.Errorf("%s: the file has become %q", before, b)
		}
		_ = append(second, "!!!"...)
		perform(d, `Append a pq`)
		if b, _ := d.Read("a"); string(b) != "xyzpq" || string(second) != "xyz" {
			t.Errorf("%s, Append: the file %q, the answer before %q", before, b, second)
		}
		third, _ := d.Read("a")
		perform(d, `Truncate a 1; Append a rstuv; Sync a; Remove a; Append a wwwwwwww`)
		if string(third) != "xyzpq" {
			t.Errorf("%s: an answer has become %q", before, third)
		}
	}
}

// TestAnswerOfNames is P4.4: what Names answers is shared neither with the disk nor with another answer.
func TestAnswerOfNames(t *testing.T) {
	d, want := New(100), []string{"a", "b", "c"}
	perform(d, `Append c x; Append a y; Append b z`)
	first, second := d.Names(), d.Names()
	for i := range first {
		first[i] = "q"
	}
	_ = append(first[:0], "r", "s", "t", "u")
	if !slices.Equal(second, want) || !slices.Equal(d.Names(), want) {
		t.Errorf("after a change: %q, %q", second, d.Names())
	}
	perform(d, `Remove a; Append d x; Rename b e; Off 0`)
	if !slices.Equal(second, want) {
		t.Errorf("after other calls: %q", second)
	}
	perform(d, `On`)
	if got := d.Names(); !slices.Equal(got, []string{"c", "d", "e"}) {
		t.Errorf("Names: %q", got)
	}
}

// TestAnswersWithoutBytes is P4.4 for files that have no bytes, but room behind where they were.
func TestAnswersWithoutBytes(t *testing.T) {
	for _, before := range []string{`Append a -`, `Append a xyz; Truncate a 0`, `Append a xyz; Off 0; On`} {
		d := New(100)
		perform(d, before)
		b, e := d.Read("a")
		if e != api.OK || len(b) != 0 {
			t.Errorf("%s: %q, %s", before, b, errorName(e))
		}
		perform(d, `Append a pqr`)
		scribble(b)
		if got, _ := d.Read("a"); !bytes.Equal(got, []byte("pqr")) {
			t.Errorf("%s: %q", before, got)
		}
	}
}

// TestTwoDisks is P4.4: what is called on a disk is not seen on another one, whatever both are given by turns.
func TestTwoDisks(t *testing.T) {
	one, other := New(9), New(100)
	perform(one, `Append a xyz; Arm 2 0; Sync a`)
	perform(other, `Append b pq; Off 1`)
	if got, want := view(one), "down false, 2 writes, a: OK xyz"; got != want {
		t.Errorf("%s, want %s", got, want)
	}
	perform(other, `On; Append a w; Room 1; Remove b`)
	if got, want := view(one), "down false, 2 writes, a: OK xyz"; got != want {
		t.Errorf("%s, want %s", got, want)
	}
	if got, want := view(other), "down false, 3 writes, a: OK w"; got != want {
		t.Errorf("%s, want %s", got, want)
	}
	g := terrains()[0]
	var disks []*Disk
	var models []*model
	calls := 0
	g.each(func(n int) {
		disks, models = []*Disk{New(n), New(n + 3)}, []*model{newModel(n), newModel(n + 3)}
	}, func(line string, trail []string) {
		calls++
		turn := calls * calls / 3 % 2
		if got, want := call(disks[turn], line), call(models[turn], line); got != want {
			t.Fatalf("%s on disk %d: %s, want %s\nafter %s", line, turn, got, want, strings.Join(trail, "; "))
		}
		for i := range disks {
			if got, want := view(disks[i]), view(models[i]); got != want {
				t.Fatalf("disk %d after %s: %s, want %s", i, line, got, want)
			}
		}
	})
}

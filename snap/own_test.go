package snap

import (
	"fmt"
	"strings"
	"testing"

	"bulwark/api"
	"bulwark/disk"
)

// scribble overwrites all bytes of b, with the spare capacity behind them.
func scribble(b []byte) {
	b = b[:cap(b)]
	for i := range b {
		b[i] = '#'
	}
}

// grown is b with bytes appended, which overwrites its spare capacity.
func grown(b []byte) { _ = append(b, "more bytes behind"...) }

// slicesOf are parts of ten digits with no, some and much capacity behind them.
var slicesOf = []struct{ from, to int }{{0, 0}, {2, 2}, {2, 5}, {0, 10}, {10, 10}}

// TestArgumentOfEncode is P6.4 for Encode.
func TestArgumentOfEncode(t *testing.T) {
	for _, c := range slicesOf {
		whole := []byte("0123456789")
		want := encoded(7, "0123456789"[c.from:c.to])
		first := Encode(7, whole[c.from:c.to])
		second := Encode(7, whole[c.from:c.to])
		third := Encode(7, whole[c.from:c.to])
		if string(whole) != "0123456789" || string(first) != want {
			t.Errorf("%d to %d: the argument is %q, the encoding %q", c.from, c.to, whole, first)
		}
		grown(second)
		scribble(first)
		if string(whole) != "0123456789" || string(second) != want || string(third) != want {
			t.Errorf("%d to %d, scribbled: the argument is %q, the other encodings %q and %q", c.from, c.to, whole, second, third)
		}
		scribble(whole)
		if string(third) != want {
			t.Errorf("%d to %d: the encoding has become %q", c.from, c.to, third)
		}
	}
}

// TestArgumentOfDecode is P6.4 for Decode, also where it returns an error.
func TestArgumentOfDecode(t *testing.T) {
	for _, body := range []string{"", "a", "contents"} {
		for _, from := range []string{encoded(7, body), encoded(7, body)[:11], encoded(8, body), encoded(7, body+"x")[:12+len(body)], damaged(7, body, 9)} {
			whole := []byte(from + "spare capacity behind")
			told := string(whole)
			b := whole[:len(from)]
			first, e := Decode(7, b)
			second, _ := Decode(7, b)
			third, _ := Decode(7, b)
			want, f := decoded(7, from)
			if string(whole) != told || string(first) != want || e != f {
				t.Errorf("%q: the argument is %q, the contents %q", from, whole, first)
			}
			grown(second)
			scribble(first)
			if string(whole) != told || string(second) != want || string(third) != want {
				t.Errorf("%q, scribbled: the argument is %q, the other contents %q and %q", from, whole, second, third)
			}
			scribble(whole)
			if string(third) != want {
				t.Errorf("%q: the contents have become %q", from, third)
			}
		}
	}
}

// TestArgumentOfSave is P6.4 for Save, also for one that is refused, and for one in which the power fails.
func TestArgumentOfSave(t *testing.T) {
	for _, before := range []struct {
		name string
		make func(d *disk.Disk)
		n    int
		e    api.Errno
	}{
		{"an empty disk", func(d *disk.Disk) {}, 7, api.OK},
		{"another one", func(d *disk.Disk) { Save(d, 5, []byte("five")) }, 7, api.OK},
		{"a draft", func(d *disk.Disk) { d.Append("draft", []byte("torn")) }, 7, api.OK},
		{"no such number", func(d *disk.Disk) {}, -1, api.ErrArg},
		{"a full disk", func(d *disk.Disk) { d.Room(3) }, 7, api.ErrFull},
		{"the power failing in the Append", func(d *disk.Disk) { d.Arm(1, 99) }, 7, api.ErrDown},
		{"the power failing in the Sync", func(d *disk.Disk) { d.Arm(2, 99) }, 7, api.ErrDown},
		{"the power failing in the Rename", func(d *disk.Disk) { d.Arm(3, 99) }, 7, api.ErrDown},
		{"no power", func(d *disk.Disk) { d.Off(0) }, 7, api.ErrDown},
	} {
		for _, c := range slicesOf {
			whole := []byte("0123456789")
			d := disk.New(plenty)
			before.make(d)
			if e := Save(d, before.n, whole[c.from:c.to]); e != before.e || string(whole) != "0123456789" {
				t.Errorf("%s, %d to %d: error %d, the argument is %q", before.name, c.from, c.to, e, whole)
			}
			d.On()
			seen := view(d)
			scribble(whole)
			if view(d) != seen {
				t.Errorf("%s, %d to %d: %s, before the change %s", before.name, c.from, c.to, view(d), seen)
			}
		}
	}
}

// TestSavedAgain is P6.4 for one slice that is saved again and again with other bytes.
func TestSavedAgain(t *testing.T) {
	d := disk.New(plenty)
	body := make([]byte, 4, 20)
	for n := range 10 {
		for i := range body {
			body[i] = byte('a' + n)
		}
		Save(d, n, body[:n%5])
		scribble(body)
		if want := (loaded{n: n, body: strings.Repeat(string(rune('a'+n)), n%5)}); loadOf(d) != want {
			t.Errorf("Load: %v, want %v", loadOf(d), want)
		}
	}
}

// TestAnswerOfLoad is P6.4: what Load returns is shared neither with the disk nor with another answer.
func TestAnswerOfLoad(t *testing.T) {
	for _, body := range []string{"", "a", "some contents"} {
		d := diskOf(plenty, only(7, body))
		seen := view(d)
		_, first, _ := Load(d)
		_, second, _ := Load(d)
		_, third, _ := Load(d)
		grown(second)
		scribble(first)
		if string(second) != body || string(third) != body || view(d) != seen || loadOf(d) != (loaded{n: 7, body: body}) {
			t.Errorf("%q, scribbled: %q and %q; %s, before it %s", body, second, third, view(d), seen)
		}
		d.Truncate(named(7), 0)
		d.Append(named(7), []byte(strings.Repeat("#", 100)))
		Save(d, 8, []byte("other contents"))
		if string(third) != body {
			t.Errorf("%q has become %q", body, third)
		}
	}
}

// TestTwoDisks is P6.1 with rule 4: disks know nothing of one another.
func TestTwoDisks(t *testing.T) {
	one, other := disk.New(plenty), disk.New(30)
	for i, c := range []struct {
		d    *disk.Disk
		n    int
		body string
		e    api.Errno
		want loaded
	}{
		{one, 7, "seven", api.OK, loaded{n: 7, body: "seven"}}, {other, 3, "three", api.OK, loaded{n: 3, body: "three"}}, {other, 9, "nine", api.ErrFull, loaded{n: 3, body: "three"}}, {one, 5, "five", api.OK, loaded{n: 5, body: "five"}},
		{other, 1, "", api.OK, loaded{n: 1}}, {one, 1, "one", api.OK, loaded{n: 1, body: "one"}}, {other, 1, "two", api.OK, loaded{n: 1, body: "two"}}, {one, -1, "", api.ErrArg, loaded{n: 1, body: "one"}},
	} {
		where := fmt.Sprintf("call %d, Save %d", i+1, c.n)
		if e := Save(c.d, c.n, []byte(c.body)); e != c.e || loadOf(c.d) != c.want {
			t.Errorf("%s: error %d, then %v, want %d, %v", where, e, loadOf(c.d), c.e, c.want)
		}
	}
	other.Off(0)
	if e := Save(one, 2, nil); e != api.OK || loadOf(other).e != api.ErrDown {
		t.Errorf("error %d, %v", e, loadOf(other))
	}
}

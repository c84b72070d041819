package snap

import (
	"fmt"
	"strings"
	"testing"

	"bulwark/api"
)

// TestLoad is P6.1 for Load, which makes no raw write: with none, one and several snapshots, whole and damaged.
func TestLoad(t *testing.T) {
	whole := only(3, "three").with(only(5, "five")).with(only(8, "eight"))
	for _, c := range []struct {
		name string
		on   files
		want loaded
	}{
		{"no file", nil, loaded{n: -1}},
		{"none", some, loaded{n: -1}},
		{"one", only(5, "five"), loaded{n: 5, body: "five"}},
		{"one without contents", only(5, ""), loaded{n: 5}},
		{"number 0", only(0, "nought"), loaded{body: "nought"}},
		{"number 0, without contents", only(0, ""), loaded{}},
		{"the greatest number", only(999999999, "x"), loaded{n: 999999999, body: "x"}},
		{"several", whole, loaded{n: 8, body: "eight"}},
		{"several, with other files", whole.with(some), loaded{n: 8, body: "eight"}},
		{"0 and the greatest", only(0, "nought").with(only(999999999, "x")), loaded{n: 999999999, body: "x"}},
		{"9 and 10", only(9, "nine").with(only(10, "ten")), loaded{n: 10, body: "ten"}},
		{"a draft alone", files{"draft": encoded(9, "x")}, loaded{n: -1}},
		{"a draft with a greater number", whole.with(files{"draft": encoded(9, "x")}), loaded{n: 8, body: "eight"}},

		{"no bytes", files{"s000000005": ""}, loaded{n: -1}},
		{"no encoding", files{"s000000005": "no encoding"}, loaded{n: -1}},
		{"zeros", files{"s000000000": strings.Repeat("\x00", 12)}, loaded{n: -1}},
		{"another one's", files{"s000000005": encoded(4, "x")}, loaded{n: -1}},
		{"a greater one's", files{"s000000005": encoded(6, "x")}, loaded{n: -1}},
		{"cut short", files{"s000000005": encoded(5, "five")[:15]}, loaded{n: -1}},
		{"a byte behind", files{"s000000005": encoded(5, "five") + "!"}, loaded{n: -1}},
		{"a wrong CRC", files{"s000000005": damaged(5, "five", 8)}, loaded{n: -1}},
		{"other contents", files{"s000000005": damaged(5, "five", 15)}, loaded{n: -1}},
		{"another number in it", files{"s000000005": damaged(5, "five", 0)}, loaded{n: -1}},
		{"all damaged", files{"s000000003": "", "s000000005": encoded(4, "x"), "s000000008": damaged(8, "eight", 8)}, loaded{n: -1}},

		{"the last one damaged", whole.with(files{"s000000008": damaged(8, "eight", 12)}), loaded{n: 5, body: "five"}},
		{"the last one another's", whole.with(files{"s000000008": encoded(5, "x")}), loaded{n: 5, body: "five"}},
		{"the last one without bytes", whole.with(files{"s000000008": ""}), loaded{n: 5, body: "five"}},
		{"the last two damaged", whole.with(files{"s000000008": encoded(8, "eight")[:12], "s000000005": encoded(5, "five") + "five"}), loaded{n: 3, body: "three"}},
		{"the first one damaged", whole.with(files{"s000000003": "s"}), loaded{n: 8, body: "eight"}},
		{"the greatest number damaged", whole.with(files{"s999999999": encoded(1000000000, "x")}), loaded{n: 8, body: "eight"}},
		{"the greatest number with the last one's", whole.with(files{"s999999999": encoded(8, "eight")}), loaded{n: 8, body: "eight"}},
	} {
		w := twinsOf(plenty, c.on)
		seen := view(w.program)
		for range 2 {
			if got := w.load(t, func() string { return c.name }); got != c.want {
				t.Errorf("%s: %v, want %v", c.name, got, c.want)
			}
		}
		if got := view(w.program); got != seen {
			t.Errorf("%s: %s, before it %s", c.name, got, seen)
		}
	}
}

// TestOtherFiles is P6.1 for files that have other names than snapshots: neither call has to do with them.
func TestOtherFiles(t *testing.T) {
	others := []string{
		"s", "s5", "s00000005", "s0000000005", "s0000000050", "0000000005", "1000000005", "S000000005", "r000000005", "t000000005", "j000000005", "d000000005", "ss00000005", "s+00000005", "s-00000005", "s 00000005", "s00000005 ", "s0000 0005",
		"s0x0000005", "s00000000a", "s00000000F", "s00000000/", "s00000000:", "s/00000005", "s:00000005", "s00000_005", "s0000000.5", "s5e0000000", "s00000005\x00", "\x00s00000005", "s00000000\xff", "s0000000²", "s٠٠٠١", "ｓ00000005", " s00000005", "Draft", "draft ", "drafs", "draf", "s000000005s", "s000000005\n", "\xff", "\xff000000005",
	}
	for at := 0; at < len(others); at += 12 {
		found := files{}
		for _, name := range others[at:min(at+12, len(others))] {
			found[name] = encoded(5, "x")
		}
		w := twinsOf(plenty, found)
		where := func() string { return fmt.Sprintf("with %s", found) }
		if got := w.load(t, where); got != (loaded{n: -1}) {
			t.Errorf("Load: %v\n%s", got, where())
		}
		for n := range 2 {
			if e := w.save(t, 4-n, "y", where); e != api.OK {
				t.Errorf("Save: error %d\n%s", e, where())
			}
			w.same(t, where)
			if got := w.load(t, where); got != (loaded{n: 4 - n, body: "y"}) {
				t.Errorf("Load: %v\n%s", got, where())
			}
		}
		if got, want := filesOf(w.program).String(), found.with(only(3, "y")).String(); got != want {
			t.Errorf("the files are %s, want %s", got, want)
		}
	}
}

// TestEveryDamage is P6.1 for a snapshot that is cut at each length, or of which any one byte is changed: Load takes the one before it.
func TestEveryDamage(t *testing.T) {
	b := encoded(5, "contents")
	for at := range b {
		changed := []byte(b)
		changed[at] ^= 0x10
		for _, bad := range []string{b[:at], string(changed), b + b[:at] + "!"} {
			for _, before := range []files{nil, only(0, "nought"), only(4, "four")} {
				want := load(diskOf(plenty, before))
				if got := loadOf(diskOf(plenty, before.with(files{"s000000005": bad}))); got != want {
					t.Errorf("with %q beside %s: %v, want %v", bad, before, got, want)
				}
			}
		}
	}
}

// TestPendingBytes is P6.1 for a snapshot whose bytes are pending: they are the file's bytes like the safe ones.
func TestPendingBytes(t *testing.T) {
	b := encoded(5, "five")
	for safe := range len(b) + 1 {
		for keep := range len(b) + 1 {
			d := diskOf(plenty, only(3, "three").with(files{"s000000005": b[:safe]}))
			d.Append("s000000005", []byte(b[safe:]))
			if got := loadOf(d); got != (loaded{n: 5, body: "five"}) {
				t.Fatalf("%d safe: %v", safe, got)
			}
			d.Off(keep)
			d.On()
			want := loaded{n: 3, body: "three"}
			if safe+keep >= len(b) {
				want = loaded{n: 5, body: "five"}
			}
			if got := loadOf(d); got != want {
				t.Fatalf("%d safe, %d kept: %v, want %v", safe, keep, got, want)
			}
		}
	}
}

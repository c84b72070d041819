package snap

import (
	"fmt"
	"maps"
	"math"
	"slices"
	"strings"
	"testing"

	"bulwark/api"
	"bulwark/disk"
)

// saving is a Save on a disk with these files, all of them safe: the error, the raw writes and the files that it is to leave.
type saving struct {
	name   string
	room   int
	before files
	n      int
	body   string
	e      api.Errno
	raw    string
	after  files
}

func (c saving) String() string {
	return fmt.Sprintf("%s: Save %d with %d bytes on %s", c.name, c.n, len(c.body), c.before)
}

// check holds a Save against what is written here and against the model, with the power staying on and failing everywhere.
func (c saving) check(t *testing.T) {
	t.Helper()
	w := twinsOf(c.room, c.before)
	written := w.program.Writes()
	e, raw := save(w.words, c.n, c.body)
	if got := Save(w.program, c.n, []byte(c.body)); got != c.e || e != c.e {
		t.Fatalf("error %d, the model's %d, want %d\n%s", got, e, c.e, c)
	}
	if got := strings.Join(raw, ", "); got != c.raw {
		t.Errorf("the model's raw writes are %q, want %q\n%s", got, c.raw, c)
	}
	if got := w.program.Writes() - written; got != len(raw) {
		t.Errorf("%d raw writes, want %q\n%s", got, raw, c)
	}
	w.same(t, c.String)
	w.both(func(d *disk.Disk) { d.Off(0); d.On() })
	w.same(t, c.String)
	if got := filesOf(w.program); !maps.Equal(got, c.after) {
		t.Errorf("the files are %s, want %s\n%s", got, c.after, c)
	}
	w.load(t, c.String)
	for nth := range raw {
		for _, keep := range keeps(12 + len(c.body)) {
			failure{c, nth + 1, keep}.check(t)
		}
	}
}

// keeps are the numbers of bytes that a power failure is made to keep, where n are pending at most.
func keeps(n int) []int {
	if n > 100 {
		return []int{-1, 0, 1, 11, 12, 13, n - 1, n, n + 1}
	}
	var out []int
	for keep := -1; keep <= n+1; keep++ {
		out = append(out, keep)
	}
	return out
}

// failure is the power failing in a raw write of a Save.
type failure struct {
	saving
	nth, keep int
}

func (f failure) String() string {
	return fmt.Sprintf("power failing in raw write %d, with %d kept, of: %s", f.nth, f.keep, f.saving)
}

// check lets the power fail, then loads, then saves the next snapshot. So each raw write and its place among the others show.
func (f failure) check(t *testing.T) {
	t.Helper()
	for _, next := range []int{0, f.n, f.n + 1} {
		w := twinsOf(f.room, f.before)
		best := load(w.words)
		w.both(func(d *disk.Disk) { d.Arm(f.nth, f.keep) })
		if e := w.save(t, f.n, f.body, f.String); e != api.ErrDown {
			t.Fatalf("error %d\n%s", e, f)
		}
		w.save(t, f.n, f.body, f.String)
		w.load(t, f.String)
		w.same(t, f.String)
		w.both((*disk.Disk).On)
		w.same(t, f.String)
		if got := w.load(t, f.String); got != best && got != (loaded{n: f.n, body: f.body}) {
			t.Errorf("Load: %v, before it %v\n%s", got, best, f)
		}
		e := w.save(t, next, "next", f.String)
		w.same(t, f.String)
		if got := w.load(t, f.String); Name(next) != "" && e == api.OK && got != (loaded{n: next, body: "next"}) {
			t.Errorf("Load after Save %d: %v\n%s", next, got, f)
		}
	}
}

func checkAll(t *testing.T, all []saving) {
	t.Helper()
	for _, c := range all {
		t.Run(c.name, func(t *testing.T) { c.check(t) })
	}
}

// only are the files of a disk with a single snapshot.
func only(n int, body string) files {
	return files{named(n): encoded(n, body)}
}

// with are the files with some more, or with other bytes.
func (f files) with(more files) files {
	out := files{}
	maps.Copy(out, f)
	maps.Copy(out, more)
	return out
}

// some are files that Save and Load have nothing to do with.
var some = files{"j000000001": "journal", "j000000002": "", "draf": "1", "drafts": encoded(9, "x"), "s1": encoded(1, "x"), "s0000000009": encoded(9, "x"), "S000000009": encoded(9, "x")}

// TestExamples are the chapter's examples.
func TestExamples(t *testing.T) {
	checkAll(t, []saving{
		{"the first", plenty, nil, 7, "ab", api.OK, "Append draft 14, Sync draft, Rename draft 7", files{"s000000007": "\x07\x00\x00\x00\x02\x00\x00\x00\x96\x88\xc4\x93ab"}},
		{"the second", plenty, only(7, "ab"), 9, "c", api.OK, "Append draft 13, Sync draft, Rename draft 9, Remove 7", files{"s000000009": "\x09\x00\x00\x00\x01\x00\x00\x00\xa7\xbb\x71\xa3c"}},
	})
	d := disk.New(plenty)
	if e := Save(d, 7, []byte("ab")); e != api.OK || !slices.Equal(d.Names(), []string{"s000000007"}) {
		t.Errorf("error %d, %q", e, d.Names())
	}
	if b, _ := d.Read("s000000007"); len(b) != 14 {
		t.Errorf("%d bytes", len(b))
	}
	d.Arm(3, 0)
	if e := Save(d, 9, []byte("c")); e != api.ErrDown {
		t.Errorf("error %d", e)
	}
	d.On()
	if got := loadOf(d); got != (loaded{n: 7, body: "ab"}) || !slices.Equal(d.Names(), []string{"draft", "s000000007"}) {
		t.Errorf("Load: %v, with %q", got, d.Names())
	}
	if e := Save(d, 9, []byte("c")); e != api.OK || !slices.Equal(d.Names(), []string{"s000000009"}) {
		t.Errorf("error %d, %q", e, d.Names())
	}
	if got := loadOf(d); got != (loaded{n: 9, body: "c"}) {
		t.Errorf("Load: %v", got)
	}
}

// TestSave is P6.1 and P6.2 for ordinary Saves: the number less than, equal to and greater than those on the disk, with none, one and several, and with a draft left over.
func TestSave(t *testing.T) {
	three := only(3, "three").with(only(5, "five")).with(only(8, "eight"))
	torn := files{"draft": encoded(9, "torn")[:10]}
	checkAll(t, []saving{
		{"none", plenty, nil, 5, "x", api.OK, "Append draft 13, Sync draft, Rename draft 5", only(5, "x")},
		{"none, no contents", plenty, nil, 5, "", api.OK, "Append draft 12, Sync draft, Rename draft 5", only(5, "")},
		{"number 0", plenty, nil, 0, "x", api.OK, "Append draft 13, Sync draft, Rename draft 0", only(0, "x")},
		{"the greatest number", plenty, only(999999998, "y"), 999999999, "x", api.OK, "Append draft 13, Sync draft, Rename draft 999999999, Remove 999999998", only(999999999, "x")},
		{"a draft", plenty, torn, 5, "x", api.OK, "Remove draft, Append draft 13, Sync draft, Rename draft 5", only(5, "x")},
		{"a draft without bytes", plenty, files{"draft": ""}, 5, "x", api.OK, "Remove draft, Append draft 13, Sync draft, Rename draft 5", only(5, "x")},
		{"a whole draft", plenty, files{"draft": encoded(5, "x")}, 5, "x", api.OK, "Remove draft, Append draft 13, Sync draft, Rename draft 5", only(5, "x")},
		{"one, less", plenty, only(5, "five"), 4, "x", api.OK, "Append draft 13, Sync draft, Rename draft 4, Remove 5", only(4, "x")},
		{"one, equal", plenty, only(5, "five"), 5, "x", api.OK, "Append draft 13, Sync draft, Rename draft 5", only(5, "x")},
		{"one, equal, the same contents", plenty, only(5, "x"), 5, "x", api.OK, "Append draft 13, Sync draft, Rename draft 5", only(5, "x")},
		{"one, greater", plenty, only(5, "five"), 6, "x", api.OK, "Append draft 13, Sync draft, Rename draft 6, Remove 5", only(6, "x")},
		{"one, less, and a draft", plenty, only(5, "five").with(torn), 4, "x", api.OK, "Remove draft, Append draft 13, Sync draft, Rename draft 4, Remove 5", only(4, "x")},
		{"one, equal, and a draft", plenty, only(5, "five").with(torn), 5, "x", api.OK, "Remove draft, Append draft 13, Sync draft, Rename draft 5", only(5, "x")},
		{"one, greater, and a draft", plenty, only(5, "five").with(torn), 6, "x", api.OK, "Remove draft, Append draft 13, Sync draft, Rename draft 6, Remove 5", only(6, "x")},
		{"three, less than all", plenty, three, 1, "x", api.OK, "Append draft 13, Sync draft, Rename draft 1, Remove 3, Remove 5, Remove 8", only(1, "x")},
		{"three, equal to the first", plenty, three, 3, "x", api.OK, "Append draft 13, Sync draft, Rename draft 3, Remove 5, Remove 8", only(3, "x")},
		{"three, between", plenty, three, 4, "x", api.OK, "Append draft 13, Sync draft, Rename draft 4, Remove 3, Remove 5, Remove 8", only(4, "x")},
		{"three, equal to the second", plenty, three, 5, "x", api.OK, "Append draft 13, Sync draft, Rename draft 5, Remove 3, Remove 8", only(5, "x")},
		{"three, equal to the last", plenty, three, 8, "x", api.OK, "Append draft 13, Sync draft, Rename draft 8, Remove 3, Remove 5", only(8, "x")},
		{"three, greater than all", plenty, three, 9, "", api.OK, "Append draft 12, Sync draft, Rename draft 9, Remove 3, Remove 5, Remove 8", only(9, "")},
		{"three, and a draft", plenty, three.with(torn), 9, "x", api.OK, "Remove draft, Append draft 13, Sync draft, Rename draft 9, Remove 3, Remove 5, Remove 8", only(9, "x")},
		{"order of the numbers", plenty, only(10, "").with(only(9, "")).with(only(0, "")).with(only(100, "")).with(only(999999999, "")), 99, "x", api.OK, "Append draft 13, Sync draft, Rename draft 99, Remove 0, Remove 9, Remove 10, Remove 100, Remove 999999999", only(99, "x")},
		{"other files", plenty, some, 9, "x", api.OK, "Append draft 13, Sync draft, Rename draft 9", some.with(only(9, "x"))},
		{"other files, one, and a draft", plenty, some.with(only(1, "y")).with(torn), 9, "x", api.OK, "Remove draft, Append draft 13, Sync draft, Rename draft 9, Remove 1", some.with(only(9, "x"))},
		{"no encodings", plenty, files{"s000000004": "no encoding", "s000000006": "", "s000000008": encoded(7, "x"), "s999999999": encoded(999999999, "x") + "y"}, 6, "x", api.OK, "Append draft 13, Sync draft, Rename draft 6, Remove 4, Remove 8, Remove 999999999", only(6, "x")},
		{"long contents", plenty, only(5, "five"), 6, strings.Repeat("long", 100), api.OK, "Append draft 412, Sync draft, Rename draft 6, Remove 5", only(6, strings.Repeat("long", 100))},
	})
}

// TestLongest is P6.1 for contents of just as many bytes as fit into a file with the encoding, and of one more.
func TestLongest(t *testing.T) {
	longest := strings.Repeat(".", 1<<20-12)
	for _, before := range []files{nil, only(5, "five"), only(7, longest)} {
		d := diskOf(plenty, before)
		seen := view(d)
		for _, size := range []int{1<<20 - 11, 1<<20 - 10, 1 << 20, 1<<20 + 1, 1 << 22} {
			if e := Save(d, 7, make([]byte, size)); e != api.ErrLong || view(d) != seen {
				t.Errorf("Save of %d bytes: error %d, %s, before it %s", size, e, view(d), seen)
			}
		}
		if e := Save(d, 7, []byte(longest)); e != api.OK || !maps.Equal(filesOf(d), only(7, longest)) {
			t.Errorf("Save of %d bytes: error %d, %s", len(longest), e, filesOf(d))
		}
		if got := loadOf(d); got != (loaded{n: 7, body: longest}) {
			t.Errorf("Load: %d, %d bytes, error %d", got.n, len(got.body), got.e)
		}
	}
	saving{"the longest", plenty, only(5, "five"), 7, longest, api.OK, "Append draft 1048576, Sync draft, Rename draft 7, Remove 5", only(7, longest)}.check(t)
	saving{"one more", plenty, only(5, "five"), 7, longest + ".", api.ErrLong, "", only(5, "five")}.check(t)
}

// TestWrongInputs is P6.1 for what Save refuses before its first raw write, and for which error stands first.
func TestWrongInputs(t *testing.T) {
	long := make([]byte, 1<<20)
	for _, n := range append([]int{5}, edges...) {
		for _, body := range [][]byte{nil, []byte("x"), long} {
			if e := Save(nil, n, body); e != api.ErrNil {
				t.Errorf("Save(nil, %d) with %d bytes: error %d", n, len(body), e)
			}
			for _, on := range []bool{true, false} {
				d := diskOf(plenty, only(5, "five").with(files{"draft": "torn"}))
				if !on {
					d.Off(0)
					d.Arm(1, 0)
				}
				want := api.OK
				switch {
				case n < 0 || n > 999999999:
					want = api.ErrArg
				case len(body) == len(long):
					want = api.ErrLong
				case !on:
					want = api.ErrDown
				}
				seen := view(d)
				if e := Save(d, n, body); e != want || e != api.OK && view(d) != seen {
					t.Errorf("Save %d with %d bytes, power on %v: error %d, want %d; %s, before it %s", n, len(body), on, e, want, view(d), seen)
				}
			}
		}
	}
	if got := loadOf(nil); got != (loaded{e: api.ErrNil}) {
		t.Errorf("Load(nil): %v", got)
	}
}

// TestNoPower is P6.1 for every call while the power is off: nothing happens, and what is armed then stays so.
func TestNoPower(t *testing.T) {
	for _, f := range []files{nil, {"draft": "torn"}, only(5, "five"), only(5, "five").with(files{"draft": "torn"})} {
		d := diskOf(plenty, f)
		best := load(d)
		d.Off(0)
		d.Arm(1, 0)
		seen := view(d)
		for range 3 {
			if e := Save(d, 7, []byte("x")); e != api.ErrDown {
				t.Errorf("Save: error %d", e)
			}
			if got := loadOf(d); got != (loaded{e: api.ErrDown}) {
				t.Errorf("Load: %v", got)
			}
		}
		if Name(7) != "s000000007" || string(Encode(7, nil)) != encoded(7, "") {
			t.Errorf("Name and Encode: %q, %q", Name(7), Encode(7, nil))
		}
		if view(d) != seen {
			t.Errorf("%s, before it %s", view(d), seen)
		}
		d.On()
		if got := loadOf(d); got != best || !maps.Equal(filesOf(d), f) {
			t.Errorf("Load: %v, want %v; %s", got, best, filesOf(d))
		}
		if e := Save(d, 7, []byte("x")); e != api.ErrDown {
			t.Errorf("Save, the power failing: error %d", e)
		}
		d.On()
		if e := Save(d, 7, []byte("x")); e != api.OK {
			t.Errorf("Save: error %d", e)
		}
	}
}

// fifteen are files with other names, each of one byte.
func fifteen() files {
	f := files{}
	for i := range 15 {
		f[fmt.Sprintf("q%d", i)] = "x"
	}
	return f
}

// TestFull is P6.1 and P6.2 for a disk without room for the draft: the Append's ErrFull is returned, and nothing but a draft is gone.
func TestFull(t *testing.T) {
	five, torn := only(5, "five"), files{"draft": "torn"}
	others, snapshots := fifteen(), files{}
	for n := range 16 {
		snapshots[named(n)] = encoded(n, "")
	}
	checkAll(t, []saving{
		{"no room", 0, nil, 7, "ab", api.ErrFull, "", nil},
		{"a byte too few", 13, nil, 7, "ab", api.ErrFull, "", nil},
		{"just enough", 14, nil, 7, "ab", api.OK, "Append draft 14, Sync draft, Rename draft 7", only(7, "ab")},
		{"no room beside another one", 29, five, 7, "ab", api.ErrFull, "", five},
		{"just enough beside another one", 30, five, 7, "ab", api.OK, "Append draft 14, Sync draft, Rename draft 7, Remove 5", only(7, "ab")},
		{"no room beside its predecessor", 29, five, 5, "ab", api.ErrFull, "", five},
		{"just enough beside its predecessor", 30, five, 5, "ab", api.OK, "Append draft 14, Sync draft, Rename draft 5", only(5, "ab")},
		{"no room, and a draft", 29, five.with(torn), 7, "ab", api.ErrFull, "Remove draft", five},
		{"just enough without the draft", 30, five.with(torn), 7, "ab", api.OK, "Remove draft, Append draft 14, Sync draft, Rename draft 7, Remove 5", only(7, "ab")},
		{"less than there is already", 3, five, 7, "", api.ErrFull, "", five},
		{"less than there is already, with a draft", math.MinInt, five.with(torn), 7, "", api.ErrFull, "Remove draft", five},
		{"all files", plenty, others.with(five), 7, "ab", api.ErrFull, "", others.with(five)},
		{"all files, others alone", plenty, others.with(files{"q15": ""}), 7, "ab", api.ErrFull, "", others.with(files{"q15": ""})},
		{"all files but one", plenty, others, 7, "ab", api.OK, "Append draft 14, Sync draft, Rename draft 7", others.with(only(7, "ab"))},
		{"all files, one of them the draft", plenty, others.with(torn), 7, "ab", api.OK, "Remove draft, Append draft 14, Sync draft, Rename draft 7", others.with(only(7, "ab"))},
		{"all files, one of them the draft, no room", 28, others.with(torn), 7, "ab", api.ErrFull, "Remove draft", others},
		{"all files snapshots", plenty, snapshots, 7, "ab", api.ErrFull, "", snapshots},
		{"all files snapshots, none of this number", plenty, snapshots, 77, "ab", api.ErrFull, "", snapshots},
	})
}

// TestSpaceAgain is P6.1 for the Save behind one that the full disk refused, with just as much space as it needs.
func TestSpaceAgain(t *testing.T) {
	for _, torn := range []files{nil, {"draft": "torn"}} {
		for _, size := range []int{0, 1, 10} {
			w := twinsOf(plenty, only(5, "five").with(torn))
			where := func() string { return fmt.Sprintf("with %s, %d bytes", torn, size) }
			body := strings.Repeat("x", size)
			for room := range 16 + 12 + size {
				w.both(func(d *disk.Disk) { d.Room(room) })
				if e := w.save(t, 7, body, where); e != api.ErrFull {
					t.Fatalf("capacity %d: error %d\n%s", room, e, where())
				}
				w.same(t, where)
				if got := w.load(t, where); got != (loaded{n: 5, body: "five"}) || !maps.Equal(filesOf(w.program), only(5, "five")) {
					t.Errorf("Load: %v, %s\n%s", got, filesOf(w.program), where())
				}
			}
			w.both(func(d *disk.Disk) { d.Room(16 + 12 + size) })
			if e := w.save(t, 7, body, where); e != api.OK {
				t.Errorf("error %d\n%s", e, where())
			}
			w.same(t, where)
			if got := w.load(t, where); got != (loaded{n: 7, body: body}) {
				t.Errorf("Load: %v\n%s", got, where())
			}
		}
	}
	d := diskOf(plenty, fifteen().with(only(5, "five")))
	for range 2 {
		if e := Save(d, 7, []byte("x")); e != api.ErrFull || len(d.Names()) != 16 {
			t.Errorf("error %d, with %q", e, d.Names())
		}
	}
	d.Remove("q3")
	if e := Save(d, 7, []byte("x")); e != api.OK || loadOf(d) != (loaded{n: 7, body: "x"}) {
		t.Errorf("error %d, with %q", e, d.Names())
	}
}

package snap

import (
	"encoding/binary"
	"fmt"
	"hash/crc32"
	"maps"
	"math"
	"regexp"
	"slices"
	"strconv"
	"strings"
	"testing"

	"bulwark/api"
	"bulwark/disk"
)

const plenty = 1 << 24

// edges are numbers of which some have a name and some don't.
var edges = []int{0, 1, 7, 255, 256, 65536, 999999998, 999999999, -1, -7, -999999999, -1000000000, 1000000000, 1000000001, 1<<32 - 1, 1 << 32, 1<<32 + 7, -1<<32 + 7, math.MaxInt, math.MinInt}

// files are the bytes of a disk's files, by their names.
type files map[string]string

// diskOf is a disk with these files, all of them safe, and so much room.
func diskOf(room int, f files) *disk.Disk {
	d := disk.New(plenty)
	for _, name := range slices.Sorted(maps.Keys(f)) {
		if d.Append(name, []byte(f[name])) != api.OK || d.Sync(name) != api.OK {
			panic("no disk can have these files")
		}
	}
	d.Room(room)
	return d
}

// filesOf are those of a disk, none while its power is off.
func filesOf(d *disk.Disk) files {
	f := files{}
	for _, name := range d.Names() {
		b, _ := d.Read(name)
		f[name] = string(b)
	}
	return f
}

// view is all that can be seen of a disk.
func view(d *disk.Disk) string {
	return fmt.Sprintf("down %v, %d raw writes, %s", d.Down(), d.Writes(), filesOf(d))
}

// String tells the names in ascending order, and long files by their length and their CRC.
func (f files) String() string {
	var out []string
	for _, name := range slices.Sorted(maps.Keys(f)) {
		b := strconv.Quote(f[name])
		if len(f[name]) > 100 {
			b = fmt.Sprintf("%d bytes with the CRC %08x", len(f[name]), crc32.ChecksumIEEE([]byte(f[name])))
		}
		out = append(out, fmt.Sprintf("%q: %s", name, b))
	}
	return "{" + strings.Join(out, ", ") + "}"
}

// named is the name of snapshot n, which has one.
func named(n int) string { return fmt.Sprintf("s%09d", n) }

// encoded is the encoding of snapshot n, as the chapter says it, by the library's means.
func encoded(n int, body string) string {
	return stating(uint32(n), uint32(len(body)), body)
}

// stating is what would be an encoding if the contents had as many bytes as it states.
func stating(number, size uint32, body string) string {
	b := binary.LittleEndian.AppendUint32(nil, number)
	b = binary.LittleEndian.AppendUint32(b, size)
	crc := crc32.ChecksumIEEE([]byte(string(b) + body))
	return string(binary.LittleEndian.AppendUint32(b, crc)) + body
}

// decoded is Decode as the chapter says it.
func decoded(n int, b string) (string, api.Errno) {
	if len(b) < 12 {
		return "", api.ErrShort
	}
	number, stated := int64(binary.LittleEndian.Uint32([]byte(b))), int64(binary.LittleEndian.Uint32([]byte(b[4:])))
	if int64(len(b)) < 12+stated {
		return "", api.ErrShort
	}
	if int64(len(b)) > 12+stated {
		return "", api.ErrForm
	}
	if n < 0 || n > 999999999 || number != int64(n) {
		return "", api.ErrForm
	}
	if binary.LittleEndian.Uint32([]byte(b[8:])) != crc32.ChecksumIEEE([]byte(b[:8]+b[12:])) {
		return "", api.ErrSum
	}
	return b[12:], api.OK
}

var snapshotName = regexp.MustCompile(`^s[0-9]{9}$`)

// snapshotsOf are the numbers of the files of a disk that have the name of a snapshot, in ascending order.
func snapshotsOf(d *disk.Disk) []int {
	var all []int
	for _, name := range d.Names() {
		if snapshotName.MatchString(name) {
			n, _ := strconv.Atoi(name[1:])
			all = append(all, n)
		}
	}
	slices.Sort(all)
	return all
}

// save is Save as the chapter says it. It also tells the raw writes, that in which the power fails too.
func save(d *disk.Disk, n int, body string) (api.Errno, []string) {
	switch {
	case d == nil:
		return api.ErrNil, nil
	case n < 0 || n > 999999999:
		return api.ErrArg, nil
	case len(encoded(n, body)) > 1048576:
		return api.ErrLong, nil
	case d.Down():
		return api.ErrDown, nil
	}
	var raw []string
	do := func(e api.Errno, what string) bool {
		if e == api.OK || e == api.ErrDown {
			raw = append(raw, what)
		}
		return e == api.OK
	}
	if slices.Contains(d.Names(), "draft") {
		if e := d.Remove("draft"); !do(e, "Remove draft") {
			return e, raw
		}
	}
	if e := d.Append("draft", []byte(encoded(n, body))); !do(e, fmt.Sprintf("Append draft %d", 12+len(body))) {
		return e, raw
	}
	if e := d.Sync("draft"); !do(e, "Sync draft") {
		return e, raw
	}
	if e := d.Rename("draft", named(n)); !do(e, fmt.Sprintf("Rename draft %d", n)) {
		return e, raw
	}
	for _, other := range snapshotsOf(d) {
		if other == n {
			continue
		}
		if e := d.Remove(named(other)); !do(e, fmt.Sprintf("Remove %d", other)) {
			return e, raw
		}
	}
	return api.OK, raw
}

// loaded is what a Load answers: a number and contents, or an error.
type loaded struct {
	n    int
	body string
	e    api.Errno
}

// load is Load as the chapter says it.
func load(d *disk.Disk) loaded {
	if d == nil {
		return loaded{e: api.ErrNil}
	}
	if d.Down() {
		return loaded{e: api.ErrDown}
	}
	found := loaded{n: -1}
	for _, n := range snapshotsOf(d) {
		b, _ := d.Read(named(n))
		if body, e := decoded(n, string(b)); e == api.OK {
			found = loaded{n: n, body: body}
		}
	}
	return found
}

// loadOf is what the program's Load answers.
func loadOf(d *disk.Disk) loaded {
	n, body, e := Load(d)
	return loaded{n, string(body), e}
}

// twins are two disks that are alike: one is the program's, the other the model's.
type twins struct{ program, words *disk.Disk }

func twinsOf(room int, f files) twins {
	return twins{diskOf(room, f), diskOf(room, f)}
}

// both does the same with each of the two.
func (w twins) both(do func(d *disk.Disk)) {
	do(w.program)
	do(w.words)
}

// save saves on both, and fails the test unless they answer the same.
func (w twins) save(t *testing.T, n int, body string, where func() string) api.Errno {
	t.Helper()
	want, _ := save(w.words, n, body)
	if got := Save(w.program, n, []byte(body)); got != want {
		t.Fatalf("Save %d: error %d, want %d\n%s", n, got, want, where())
	}
	return want
}

// load loads from both, and fails the test unless they answer the same.
func (w twins) load(t *testing.T, where func() string) loaded {
	t.Helper()
	want := load(w.words)
	if got := loadOf(w.program); got != want {
		t.Fatalf("Load: %v, want %v\n%s", got, want, where())
	}
	return want
}

// same fails the test unless both disks look the same.
func (w twins) same(t *testing.T, where func() string) {
	t.Helper()
	if got, want := view(w.program), view(w.words); got != want {
		t.Fatalf("the disk is: %s\nwant %s\n%s", got, want, where())
	}
}

package snap

import (
	"fmt"
	"math/rand"
	"strings"
	"testing"

	"bulwark/api"
	"bulwark/disk"
)

// pick draws one of these.
func pick[T any](r *rand.Rand, from ...T) T { return from[r.Intn(len(from))] }

// walker makes calls that are drawn on two disks that are alike.
type walker struct {
	t     *testing.T
	r     *rand.Rand
	w     twins
	trail []string
	seen  map[api.Errno]int // how many Saves ended so
}

func (w *walker) where() string { return "after " + strings.Join(w.trail, "; ") }

// do makes a call of the disk on both.
func (w *walker) do(call func(d *disk.Disk), form string, a ...any) {
	w.trail = append(w.trail, fmt.Sprintf(form, a...))
	w.w.both(call)
}

// save saves on both.
func (w *walker) save() {
	n := pick(w.r, 0, 1, 2, 3, 4, 5, 6, 9, 10, 999999999, 999999999, -1, 1000000000)
	body := strings.Repeat("x", pick(w.r, 0, 1, 2, 5, 20))
	w.trail = append(w.trail, fmt.Sprintf("Save %d %q", n, body))
	w.seen[w.w.save(w.t, n, body, w.where)]++
}

// drawName is a file's name: of a snapshot, the draft's, or another one.
func (w *walker) drawName() string {
	return pick(w.r, "draft", "draft", "s000000000", "s000000001", "s000000002", "s000000003", "s000000005", "s000000010", "s999999999", "s00000001", "j000000001", "q")
}

// drawBytes are those of an encoding, whole or damaged.
func (w *walker) drawBytes() string {
	b := encoded(pick(w.r, 0, 1, 2, 3, 5, 10, 999999999, 1000000000), strings.Repeat("y", w.r.Intn(4)))
	switch w.r.Intn(4) {
	case 0:
		return b[:w.r.Intn(len(b))]
	case 1:
		return b + "z"
	}
	return b
}

// damage changes a file.
func (w *walker) damage() {
	name := w.drawName()
	switch w.r.Intn(5) {
	case 0:
		n := pick(w.r, 0, 1, 12, 13)
		w.do(func(d *disk.Disk) { d.Truncate(name, n) }, "Truncate %s %d", name, n)
	case 1:
		w.do(func(d *disk.Disk) { d.Remove(name) }, "Remove %s", name)
	case 2:
		w.do(func(d *disk.Disk) { d.Sync(name) }, "Sync %s", name)
	case 3:
		b := w.drawBytes()
		w.do(func(d *disk.Disk) { d.Append(name, []byte(b)) }, "Append %s %q", name, b)
	default:
		// The whole encoding of the name's own snapshot, which Load may find.
		n := pick(w.r, 0, 1, 2, 3, 5, 10, 999999999)
		w.do(func(d *disk.Disk) { d.Remove(named(n)); d.Append(named(n), []byte(encoded(n, "own"))) }, "Append %s its encoding", named(n))
	}
}

// power draws a call about the power or the capacity.
func (w *walker) power() {
	keep := pick(w.r, -1, 0, 1, 11, 12, 13, 14, 99)
	switch w.r.Intn(5) {
	case 0, 1:
		n := w.r.Intn(8)
		w.do(func(d *disk.Disk) { d.Arm(n, keep) }, "Arm %d %d", n, keep)
	case 2:
		w.do(func(d *disk.Disk) { d.Off(keep) }, "Off %d", keep)
	case 3:
		room := pick(w.r, -1, 0, 12, 30, 60, 100, plenty, plenty)
		w.do(func(d *disk.Disk) { d.Room(room) }, "Room %d", room)
	default:
		w.do((*disk.Disk).On, "On")
	}
}

// step makes the next call, and compares the disks behind it.
func (w *walker) step() {
	w.t.Helper()
	switch w.r.Intn(10) {
	case 0, 1, 2:
		w.save()
	case 3, 4, 5:
		w.damage()
	case 6, 7:
		w.power()
	case 8:
		w.do((*disk.Disk).On, "On")
	}
	w.w.load(w.t, w.where)
	w.w.same(w.t, w.where)
}

// TestWalks is P6.1 after sequences of calls that are drawn, against the model.
func TestWalks(t *testing.T) {
	seen := map[api.Errno]int{}
	for seed := range 1500 {
		w := &walker{t: t, r: rand.New(rand.NewSource(int64(seed))), w: twinsOf(plenty, nil), seen: seen}
		for range 60 {
			w.step()
		}
		w.do(func(d *disk.Disk) { d.Off(0); d.On() }, "Off 0; On")
		w.w.same(t, w.where)
	}
	for _, e := range []api.Errno{api.OK, api.ErrArg, api.ErrDown, api.ErrFull} {
		if seen[e] < 1000 {
			t.Errorf("only %d Saves with error %d", seen[e], e)
		}
	}
}

// TestEverySequence is P6.1 after every sequence of up to four of these calls, against the model.
func TestEverySequence(t *testing.T) {
	calls := []struct {
		name string
		do   func(w twins, where func() string)
	}{
		{"Save 5", func(w twins, where func() string) { w.save(t, 5, "five", where) }},
		{"Save 3", func(w twins, where func() string) { w.save(t, 3, "", where) }},
		{"Arm 1 5", func(w twins, where func() string) { w.both(func(d *disk.Disk) { d.Arm(1, 5) }) }},
		{"Arm 3 99", func(w twins, where func() string) { w.both(func(d *disk.Disk) { d.Arm(3, 99) }) }},
		{"Arm 5 0", func(w twins, where func() string) { w.both(func(d *disk.Disk) { d.Arm(5, 0) }) }},
		{"Off 0", func(w twins, where func() string) { w.both(func(d *disk.Disk) { d.Off(0) }) }},
		{"On", func(w twins, where func() string) { w.both((*disk.Disk).On) }},
		{"Room 30", func(w twins, where func() string) { w.both(func(d *disk.Disk) { d.Room(30) }) }},
		{"Append 4", func(w twins, where func() string) {
			w.both(func(d *disk.Disk) { d.Append(named(4), []byte(encoded(4, "4"))) })
		}},
		{"Append 7, damaged", func(w twins, where func() string) {
			w.both(func(d *disk.Disk) { d.Append(named(7), []byte(encoded(6, ""))) })
		}},
	}
	for code := range len(calls) * len(calls) * len(calls) * len(calls) {
		w := twinsOf(60, nil)
		var trail []string
		where := func() string { return "after " + strings.Join(trail, "; ") }
		for left := code; len(trail) < 4; left /= len(calls) {
			call := calls[left%len(calls)]
			trail = append(trail, call.name)
			call.do(w, where)
			w.load(t, where)
			w.same(t, where)
		}
		w.both((*disk.Disk).On)
		w.load(t, where)
		w.save(t, 6, "last", where)
		w.load(t, where)
		w.same(t, where)
	}
}

package disk

import (
	"fmt"
	"math/rand"
	"slices"
	"strings"
	"testing"
)

// terrain is what the calls of a walk are drawn from.
type terrain struct {
	name   string
	names  []string
	bytes  []string
	cuts   []string // what Truncate is given
	rooms  []string
	calls  int
	walks  int
	seldom int // one in so many calls is about the power, or the capacity
}

func terrains() []terrain {
	var numbered []string
	for i := range 20 {
		numbered = append(numbered, fmt.Sprintf("f%02d", i))
	}
	few := []string{"a", "b", "c", "a", "b", "c", "*16", "B", "-", "*17"}
	return []terrain{
		{"few names", few, []string{"-", "x", "yz", "pqr", "stuvw"}, []string{"-1", "0", "1", "2", "3", "5", "8"}, []string{"-1", "0", "5", "12", "12", "30", "max"}, 60, 3000, 4},
		{"few names, little said of power", few, []string{"-", "x", "yz", "pqr", "stuvw"}, []string{"-1", "0", "1", "2", "4", "9"}, []string{"20", "25", "60"}, 80, 2000, 15},
		{"many names", numbered, []string{"-", "x", "yz"}, []string{"-1", "0", "1", "2"}, []string{"1000", "1000", "20"}, 150, 300, 30},
		{"long files", []string{"a", "b", "c"}, []string{"*1048576", "*1048577", "*524288", "*524289", "*1048575", ".", "-"}, []string{"524287", "524288", "1048576", "0", "min", "max"}, []string{"1048576", "2097152", "2097151", "max"}, 25, 20, 6},
	}
}

func pick(r *rand.Rand, from []string) string { return from[r.Intn(len(from))] }

// draw is a line with the next call of a walk.
func (g terrain) draw(r *rand.Rand) string {
	name := pick(r, g.names)
	if r.Intn(g.seldom) == 0 {
		keep := pick(r, []string{"-1", "0", "0", "1", "2", "3", "9", "min", "max"})
		switch r.Intn(7) {
		case 0, 1:
			return "Arm " + pick(r, []string{"-1", "0", "1", "1", "2", "3", "5", "min", "max"}) + " " + keep
		case 2:
			return "Off " + keep
		case 3:
			return "Room " + pick(r, g.rooms)
		}
		return "On"
	}
	switch r.Intn(11) {
	case 0, 1:
		return "Sync " + name
	case 2, 3:
		return "Truncate " + name + " " + pick(r, g.cuts)
	case 4, 5:
		return "Rename " + name + " " + pick(r, g.names)
	case 6:
		return "Remove " + name
	case 7:
		return "Read " + name
	}
	return "Append " + name + " " + pick(r, g.bytes)
}

// each makes every walk, and calls step at each of its calls. Every walk begins on a new disk and ends with the power on.
func (g terrain) each(start func(room int), step func(line string, trail []string)) {
	for seed := range g.walks {
		r := rand.New(rand.NewSource(int64(seed)))
		var trail []string
		start(number(pick(r, g.rooms)))
		for range g.calls {
			trail = append(trail, g.draw(r))
			step(trail[len(trail)-1], trail)
		}
		step("On", append(trail, "On"))
	}
}

// TestWalks is P4.1 after sequences of calls that are drawn, against the model.
func TestWalks(t *testing.T) {
	for _, g := range terrains() {
		t.Run(g.name, func(t *testing.T) {
			var d *Disk
			var m *model
			var room int
			g.each(func(n int) { d, m, room = New(n), newModel(n), n }, func(line string, trail []string) {
				if got, want := call(d, line), call(m, line); got != want {
					t.Fatalf("%s: %s, want %s\nafter New(%d); %s", line, got, want, room, strings.Join(trail, "; "))
				}
				if got, want := view(d), view(m); got != want {
					t.Fatalf("%s: %s\nwant %s\nafter New(%d); %s", line, got, want, room, strings.Join(trail, "; "))
				}
			})
		})
	}
}

// TestEverySequence is P4.1 after every sequence of up to four of these calls, against the model.
func TestEverySequence(t *testing.T) {
	calls := []string{"Append a x", "Append a yz", "Append b pq", "Append b -", "Sync a", "Sync b", "Truncate a 1", "Truncate a 3", "Rename a b", "Rename b a", "Rename a a", "Remove a", "Arm 1 1", "Arm 2 0", "Off 1", "Off 0", "On", "Room 2", "Room 9"}
	var extend func(sequence []string)
	extend = func(sequence []string) {
		d, m := New(4), newModel(4)
		for _, line := range sequence {
			if got, want := call(d, line), call(m, line); got != want {
				t.Fatalf("%s: %s, want %s", strings.Join(sequence, "; "), got, want)
			}
		}
		d.On()
		m.On()
		if got, want := view(d), view(m); got != want {
			t.Fatalf("%s: %s, want %s", strings.Join(sequence, "; "), got, want)
		}
		if len(sequence) < 4 {
			for _, line := range calls {
				extend(append(slices.Clone(sequence), line))
			}
		}
	}
	extend(nil)
}

// contents are the bytes of all files, while the power is on.
func contents(d *Disk) map[string]string {
	out := map[string]string{}
	for _, name := range d.Names() {
		b, _ := d.Read(name)
		out[name] = string(b)
	}
	return out
}

// safety is what P4.2 says of a disk's files, by nothing but the calls that were made: how many of each one's bytes are safe, and all of them.
type safety struct {
	safe  map[string]int
	bytes map[string]string
}

// note takes in a raw write that was performed.
func (s *safety) note(w []string) {
	name := text(w[1])
	switch w[0] {
	case "Append":
		s.bytes[name] += text(w[2])
	case "Sync":
		s.safe[name] = len(s.bytes[name])
	case "Truncate":
		s.bytes[name] = s.bytes[name][:number(w[2])]
		s.safe[name] = min(s.safe[name], number(w[2]))
	case "Rename":
		to, bytes, safe := text(w[2]), s.bytes[name], s.safe[name]
		delete(s.bytes, name)
		delete(s.safe, name)
		s.bytes[to], s.safe[to] = bytes, safe
	case "Remove":
		delete(s.bytes, name)
		delete(s.safe, name)
	}
}

// fault is what a file has that P4.2 excludes after a power failure, or nothing.
func (s *safety) fault(after map[string]string) string {
	if len(after) != len(s.bytes) {
		return fmt.Sprintf("%d files, before %d", len(after), len(s.bytes))
	}
	for name, before := range s.bytes {
		now, there := after[name]
		if !there || !strings.HasPrefix(before, now) || len(now) < s.safe[name] {
			return fmt.Sprintf("%s has %s of %s, %d safe", show(name), show(now), show(before), s.safe[name])
		}
	}
	return ""
}

// TestSafeBytesRemain is P4.2 after sequences of calls that are drawn: after each power failure each file has its safe bytes and a prefix of the pending ones, and all of those are safe.
func TestSafeBytesRemain(t *testing.T) {
	failures := 0
	for _, g := range terrains() {
		var d *Disk
		var s safety
		g.each(func(n int) { d, s = New(n), safety{map[string]int{}, map[string]string{}} }, func(line string, trail []string) {
			up, writes := !d.Down(), d.Writes()
			call(d, line)
			w := strings.Fields(line)
			// An Append has its effect in a power failure too; no other raw write has.
			if d.Writes() > writes && (!d.Down() || w[0] == "Append") {
				s.note(w)
			}
			if !up || !d.Down() {
				return
			}
			failures++
			d.On()
			after := contents(d)
			if wrong := s.fault(after); wrong != "" {
				t.Fatalf("%s\nafter %s", wrong, strings.Join(trail, "; "))
			}
			for name, b := range after {
				s.bytes[name], s.safe[name] = b, len(b)
			}
			if rand.New(rand.NewSource(int64(len(trail)))).Intn(2) == 0 {
				d.Off(0)
			}
		})
	}
	if failures < 10000 {
		t.Errorf("only %d power failures", failures)
	}
}

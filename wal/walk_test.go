package wal

import (
	"fmt"
	"math/rand"
	"slices"
	"strings"
	"testing"
)

// terrain is what the calls of a walk are drawn from.
type terrain struct {
	name    string
	records []string
	pers    []string
	rooms   []string
	calls   int
	walks   int
	seldom  int // one in so many calls is about the power, the capacity, or other files
	damage  int // one in so many damages the segments, and opens the journal
}

func terrains() []terrain {
	few := []string{"-", "a", "bc", "def", "ghijk"}
	return []terrain{
		{"little said of power", few, []string{"1", "2", "3"}, []string{"60", "90", "200"}, 60, 600, 12, 60},
		{"much said of power", few, []string{"1", "2", "2", "3", "max"}, []string{"-1", "30", "80", "80", "200"}, 60, 800, 4, 30},
		{"much damage", few, []string{"1", "2", "3", "4", "0", "max"}, []string{"40", "80", "200", "max"}, 50, 1000, 10, 4},
		{"many files", []string{"-", "a"}, []string{"1", "1", "1", "2"}, []string{"1000", "max"}, 120, 150, 30, 100},
		{"long records", []string{"*65536", "*65537", "*65408", "*65000", "-"}, []string{"20", "max", "3"}, []string{"16777216", "2000000"}, 60, 8, 15, 50},
	}
}

func pick(r *rand.Rand, from []string) string { return from[r.Intn(len(from))] }

// draw are the next calls of a walk.
func (g terrain) draw(r *rand.Rand) []string {
	if r.Intn(g.seldom) == 0 {
		return []string{g.drawDisk(r)}
	}
	if r.Intn(g.damage) == 0 {
		return append(g.drawDamage(r), "Open "+pick(r, g.pers))
	}
	switch r.Intn(12) {
	case 0:
		return []string{"Open " + pick(r, g.pers)}
	case 1, 2:
		return []string{"Prune " + pick(r, []string{"min", "0", "1", "2", "3", "4", "5", "6", "7", "8", "10", "12", "20", "max"})}
	case 3:
		return []string{"Next"}
	case 4:
		return []string{"disk.On", "Open " + pick(r, g.pers)}
	}
	return []string{"Append " + pick(r, g.records)}
}

// drawDisk is a call of the disk, which the journal's segments have no part in.
func (g terrain) drawDisk(r *rand.Rand) string {
	keep := pick(r, []string{"-1", "0", "1", "4", "8", "9", "10", "11", "99", "max"})
	switch r.Intn(9) {
	case 0, 1, 2:
		return "disk.Arm " + pick(r, []string{"0", "1", "1", "2", "3", "4", "7"}) + " " + keep
	case 3:
		return "disk.Off " + keep
	case 4:
		return "disk.Room " + pick(r, g.rooms)
	case 5:
		return "disk.Append q" + pick(r, []string{"1", "2", "3"}) + " xyz"
	case 6:
		return "disk.Remove q" + pick(r, []string{"1", "2", "3"})
	}
	return "disk.On"
}

// drawDamage are calls of the disk which change segments.
func (g terrain) drawDamage(r *rand.Rand) []string {
	var out []string
	for range 1 + r.Intn(4) {
		name := fmt.Sprintf("#%d", pickInt(r, 1, 1, 2, 2, 3, 3, 4, 5, 6, 7, 8, 9, 11, 999999998, 999999999))
		switch r.Intn(6) {
		case 0:
			out = append(out, "disk.Truncate "+name+" "+pick(r, []string{"0", "8", "9", "10", "17", "18", "19"}))
		case 1:
			out = append(out, "disk.Remove "+name)
		case 2:
			out = append(out, "disk.Sync "+name)
		default:
			out = append(out, "disk.Append "+name+" "+pick(r, []string{"-", "[a]", "[a]", "[bc][]", "[][][]", "x", "[d]^", "[efg]<2", "[*65537]"}))
		}
	}
	return out
}

func pickInt(r *rand.Rand, from ...int) int { return from[r.Intn(len(from))] }

// each makes every walk, and calls step at each of its calls. Every walk begins on a new disk, and ends with an opening.
func (g terrain) each(start func(room int), step func(line string, trail []string)) {
	for seed := range g.walks {
		r := rand.New(rand.NewSource(int64(seed)))
		room := pick(r, g.rooms)
		trail := []string{"New(" + room + ")"}
		start(number10(room))
		walk := []string{"Open " + pick(r, g.pers)}
		for len(walk) < g.calls {
			walk = append(walk, g.draw(r)...)
		}
		for _, line := range append(walk, "disk.Off 0", "disk.On", "Open 2") {
			trail = append(trail, line)
			step(line, trail)
		}
	}
}

func trailText(trail []string) string { return strings.Join(trail, "; ") }

// TestWalks is P5.1 after sequences of calls that are drawn, against the model.
func TestWalks(t *testing.T) {
	for _, g := range terrains() {
		t.Run(g.name, func(t *testing.T) {
			t.Parallel()
			var program, words *side
			g.each(func(room int) { program, words = programSide(room), modelSide(room) }, func(line string, trail []string) {
				where := func() string { return "after " + trailText(trail) }
				both(t, program, words, line, where)
				same(t, program, words, where)
			})
		})
	}
}

// TestEverySequence is P5.1 after every sequence of up to four of these calls, against the model.
func TestEverySequence(t *testing.T) {
	t.Parallel()
	calls := []string{"Open 1", "Open 2", "Append a", "Append bcd", "Prune 2", "Prune 99", "disk.Arm 1 99", "disk.Arm 2 3", "disk.Off 9", "disk.On", "disk.Room 17", "disk.Append #2 [x]y", "disk.Append #3 x"}
	starts := [][]string{{}, {"Open 2", "Append a"}, {"disk.Append #1 [a][b]", "disk.Append #3 [c]x", "disk.Append #4 [d]"}}
	for _, start := range starts {
		var extend func(sequence []string)
		extend = func(sequence []string) {
			program, words := programSide(60), modelSide(60)
			where := func() string { return "after " + trailText(sequence) }
			for _, line := range sequence {
				both(t, program, words, line, where)
			}
			if damaged(sequence[len(start):]) {
				// A journal whose segments were changed from outside is opened, not used.
				both(t, program, words, "Open 2", where)
			}
			for _, line := range []string{"Append q", "Next", "disk.On", "Open 2"} {
				both(t, program, words, line, where)
			}
			same(t, program, words, where)
			if len(sequence) == len(start)+4 || damaged(sequence[len(start):]) {
				return
			}
			for _, line := range calls {
				extend(append(slices.Clone(sequence), line))
			}
		}
		extend(start)
	}
}

// damaged reports whether the last call changed a segment.
func damaged(sequence []string) bool {
	return len(sequence) > 0 && strings.HasPrefix(sequence[len(sequence)-1], "disk.Append")
}

// TestOpeningAgain is P5.3 after sequences of calls that are drawn: opening again finds the same records, and nothing to remove.
func TestOpeningAgain(t *testing.T) {
	t.Parallel()
	openings := 0
	for _, g := range terrains() {
		var s *side
		g.each(func(room int) { s = programSide(room) }, func(line string, trail []string) {
			got := s.call(line)
			if !strings.HasPrefix(line, "Open") || strings.HasPrefix(got, "Err") {
				return
			}
			openings++
			s.d.Arm(0, 0)
			before, writes := names(s.d), s.d.Writes()
			for _, again := range []string{"Open 1", "Open max", line} {
				if found := s.call(again); found != got {
					t.Fatalf("%s: %s, before %s\nafter %s", again, found, got, trailText(trail))
				}
			}
			if names(s.d) != before || s.d.Writes() != writes+3*len(segmentsOf(s.d)) {
				t.Fatalf("%s: %s, before %s, %d raw writes\nafter %s", line, names(s.d), before, s.d.Writes()-writes, trailText(trail))
			}
		})
	}
	if openings < 5000 {
		t.Errorf("only %d openings", openings)
	}
}

package snap

import (
	"fmt"
	"math/rand"
	"strings"
	"testing"

	"bulwark/api"
	"bulwark/disk"
)

// keeper knows of a disk what Save and Load told it, and nothing of how snapshots are kept.
type keeper struct {
	t     *testing.T
	d     *disk.Disk
	best  loaded // what Load is to find
	trail []string
	saved int // how many Saves the power failed in that left the new snapshot
	lost  int // and how many left the one before
}

func keeperOf(t *testing.T, f files) *keeper {
	d := diskOf(plenty, f)
	return &keeper{t: t, d: d, best: loadOf(d), trail: []string{"with " + f.String()}}
}

// save saves, with the power failing in the nth raw write from now on, and holds what Load finds behind it against P6.2. It reports whether the power failed.
func (k *keeper) save(n int, body string, nth, keep int) bool {
	k.t.Helper()
	k.d.Arm(nth, keep)
	e := Save(k.d, n, []byte(body))
	k.d.Arm(0, 0)
	k.trail = append(k.trail, fmt.Sprintf("Arm %d %d, Save %d %q: error %d", nth, keep, n, body, e))
	failed := k.d.Down()
	k.d.On()
	now, fresh := loadOf(k.d), loaded{n: n, body: body}
	switch {
	case e == api.OK && !failed && now == fresh:
	case e == api.ErrDown && failed && now == fresh:
		k.saved++
	case e == api.ErrDown && failed && now == k.best:
		k.lost++
	default:
		k.t.Fatalf("Load: %v, before the last Save %v\n%s", now, k.best, strings.Join(k.trail, "; "))
	}
	k.best = now
	k.steady()
	return failed
}

// steady fails the test unless what Load finds is safe.
func (k *keeper) steady() {
	k.t.Helper()
	k.d.Off(0)
	k.d.On()
	if now := loadOf(k.d); now != k.best {
		k.t.Fatalf("Load: %v, before the power went off %v\n%s", now, k.best, strings.Join(k.trail, "; "))
	}
}

// grounds are disks on which snapshots are saved: with none, one and several of them, with a draft and without, with damaged ones.
func grounds() []files {
	torn := files{"draft": encoded(5, "torn")[:9]}
	several := only(2, "two").with(only(4, "four")).with(only(6, "six"))
	return []files{
		nil, torn, some, only(4, "four"), only(4, "four").with(torn), several, several.with(torn).with(files{"j000000001": "journal"}),
		several.with(files{"s000000006": "damaged"}), several.with(files{"s000000009": encoded(6, "six")}).with(torn), {"s000000003": "damaged", "s000000004": ""},
	}
}

// TestPowerFails is P6.2 for the power failing in each raw write of a Save, with each number of bytes kept, and again in each of the next Save.
func TestPowerFails(t *testing.T) {
	failures, saved, lost := 0, 0, 0
	for _, f := range grounds() {
		for n := 1; n <= 7; n++ {
			for _, body := range []string{"", "new"} {
				for keep := -1; keep <= 13+len(body); keep++ {
					for nth, failed := 1, true; failed; nth++ {
						k := keeperOf(t, f)
						failed = k.save(n, body, nth, keep)
						for again, next := 1, failed; next; again++ {
							l := keeperOf(t, f)
							l.save(n, body, nth, keep)
							next = l.save(8-n, "again", again, keep)
							l.save(n, "third", 0, 0)
						}
						failures, saved, lost = failures+1, saved+k.saved, lost+k.lost
					}
				}
			}
		}
	}
	if failures < 5000 || saved < 500 || lost < 5000 {
		t.Errorf("only %d failures, %d with the new snapshot, %d with the one before", failures, saved, lost)
	}
}

// TestPowerFailsOften is P6.2 for courses that are drawn, in which the power fails again and again.
func TestPowerFailsOften(t *testing.T) {
	saved, lost := 0, 0
	for seed := range 500 {
		r := rand.New(rand.NewSource(int64(seed)))
		all := grounds()
		k := keeperOf(t, all[r.Intn(len(all))])
		for range 40 {
			k.save(r.Intn(10), strings.Repeat(string(rune('a'+r.Intn(26))), r.Intn(6)), r.Intn(9), r.Intn(20)-1)
		}
		saved, lost = saved+k.saved, lost+k.lost
	}
	if saved < 500 || lost < 2000 {
		t.Errorf("only %d failures with the new snapshot, %d with the one before", saved, lost)
	}
}

// TestSavedIsFound is P6.2 for Saves that returned OK, one after the other, with the power failing between them: the last one is found, whatever its number.
func TestSavedIsFound(t *testing.T) {
	for _, f := range grounds() {
		k := keeperOf(t, f)
		for i, n := range []int{0, 1, 5, 5, 3, 999999999, 999999998, 0, 0, 7} {
			body := strings.Repeat("x", i)
			if k.save(n, body, 0, 0) || k.best != (loaded{n: n, body: body}) {
				t.Errorf("Load: %v, want %d, %d bytes", k.best, n, i)
			}
			if names := snapshotsOf(k.d); len(names) != 1 || names[0] != n {
				t.Errorf("after Save %d there are %d", n, names)
			}
		}
	}
}

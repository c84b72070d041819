package sess

import (
	"slices"
	"testing"

	"bulwark/api"
)

// same reports whether two ends are the same.
func same(a, b api.Side) bool {
	return slices.Equal(a.Sent, b.Sent) && a.Taken == b.Taken && a.Known == b.Known
}

// checkTake holds what Take answers against these results.
func checkTake(t *testing.T, s api.Side, f api.Frame, next api.Side, m string, list []api.Frame, e api.Errno) {
	t.Helper()
	gotNext, gotM, gotList, gotE := Take(s, f)
	if !same(gotNext, next) || gotM != m || !slices.Equal(gotList, list) || gotE != e {
		t.Errorf("%.100v takes %.100v: %.200v, %.50q, %.200v, error %d; want %.200v, %.50q, %.200v, error %d", s, f, gotNext, gotM, gotList, gotE, next, m, list, e)
	}
}

// TestExamples is the chapter's examples.
func TestExamples(t *testing.T) {
	two := end(2, 0)
	checkTake(t, two, data(3, 0, "x"), end(3, 0), "x", nil, api.OK)
	checkTake(t, two, data(5, 0, "x"), two, "", []api.Frame{ask(3, 2)}, api.OK)
	checkTake(t, two, data(2, 0, "x"), two, "", nil, api.OK)
	checkTake(t, two, beat(2, 0), two, "", nil, api.OK)
	checkTake(t, two, beat(4, 0), two, "", []api.Frame{ask(3, 2)}, api.OK)
	abc := end(0, 0, "a", "b", "c")
	checkTake(t, abc, ask(2, 0), abc, "", []api.Frame{data(2, 0, "b"), data(3, 0, "c")}, api.OK)
	checkTake(t, abc, ask(4, 0), abc, "", nil, api.OK)
}

// TestTakeErrors is P8.1 for the errors of Take and their order.
func TestTakeErrors(t *testing.T) {
	for _, s := range []api.Side{end(-1, 0), end(1<<40+1, 0), end(0, -1, "a"), end(0, 2, "a"), end(0, 0, ""), end(0, 0, many(257)...)} {
		for _, f := range []api.Frame{data(1, 1, "a"), data(0, 0, "a"), ask(1, 1), ask(0, 0), beat(0, 0), {}, data(1<<40+1, 0, "a")} {
			checkTake(t, s, f, api.Side{}, "", nil, api.ErrArg)
		}
	}
	for _, s := range []api.Side{end(0, 0), end(2, 1, "a", "b"), end(1<<40, 0, many(256)...)} {
		for _, f := range []api.Frame{data(0, 1, "a"), data(1, 1, ""), data(1, 1, size(4097)), ask(0, 1), beat(-1, 1), beat(0, -1), {}, {Kind: 4, Num: 1}} {
			checkTake(t, s, f, api.Side{}, "", nil, api.ErrForm)
		}
	}
}

// TestKnown is P8.1 for what a frame's Taken does to Known, whatever its kind.
func TestKnown(t *testing.T) {
	sent := []string{"a", "b", "c", "d", "e"}
	for known := range 6 {
		for taken, want := range map[int]int{0: known, 1: max(1, known), 2: max(2, known), 3: max(3, known), 4: max(4, known), 5: 5, 6: known, 7: known, 1 << 40: known} {
			s, next := end(3, known, sent...), end(3, want, sent...)
			checkTake(t, s, data(4, taken, "x"), end(4, want, sent...), "x", nil, api.OK)
			checkTake(t, s, data(5, taken, "x"), next, "", []api.Frame{ask(4, 3)}, api.OK)
			checkTake(t, s, data(3, taken, "x"), next, "", nil, api.OK)
			checkTake(t, s, ask(4, taken), next, "", []api.Frame{data(4, 3, "d"), data(5, 3, "e")}, api.OK)
			checkTake(t, s, ask(6, taken), next, "", nil, api.OK)
			checkTake(t, s, beat(3, taken), next, "", nil, api.OK)
			checkTake(t, s, beat(4, taken), next, "", []api.Frame{ask(4, 3)}, api.OK)
		}
	}
	checkTake(t, end(0, 0), beat(0, 1), end(0, 0), "", nil, api.OK)
	checkTake(t, end(0, 0, many(256)...), beat(0, 256), end(0, 256, many(256)...), "", nil, api.OK)
	checkTake(t, end(0, 9, many(256)...), beat(0, 257), end(0, 9, many(256)...), "", nil, api.OK)
}

// TestTakeData is P8.1 for FrData.
func TestTakeData(t *testing.T) {
	for _, taken := range []int{0, 1, 2, 255, 256, 257, 1<<40 - 2, 1<<40 - 1, 1 << 40} {
		s := end(taken, 1, "a", "b")
		if taken > 0 {
			checkTake(t, s, data(taken, 0, "x"), s, "", nil, api.OK)
			checkTake(t, s, data(1, 0, "x"), s, "", nil, api.OK)
		}
		if taken < 1<<40 {
			checkTake(t, s, data(taken+1, 0, "x"), end(taken+1, 1, "a", "b"), "x", nil, api.OK)
			checkTake(t, s, data(taken+1, 2, size(4096)), end(taken+1, 2, "a", "b"), size(4096), nil, api.OK)
		} else {
			checkTake(t, s, data(taken+1, 0, "x"), api.Side{}, "", nil, api.ErrForm)
		}
		if taken < 1<<40-1 {
			checkTake(t, s, data(taken+2, 0, "x"), s, "", []api.Frame{ask(taken+1, taken)}, api.OK)
			checkTake(t, s, data(1<<40, 2, "x"), end(taken, 2, "a", "b"), "", []api.Frame{ask(taken+1, taken)}, api.OK)
		}
	}
}

// TestDeliver is P8.1 for an end that has accepted as many messages as it can, of which no valid frame brings one more.
func TestDeliver(t *testing.T) {
	if next, m, list, e := deliver(end(1<<40, 0, "a"), "x"); e != api.ErrRoom || m != "" || list != nil || !same(next, api.Side{}) {
		t.Errorf("%v, %q, %v, error %d", next, m, list, e)
	}
	if next, m, list, e := deliver(end(1<<40-1, 0, "a"), "x"); e != api.OK || m != "x" || list != nil || !same(next, end(1<<40, 0, "a")) {
		t.Errorf("%v, %q, %v, error %d", next, m, list, e)
	}
}

// TestTakeAsk is P8.1 for FrAsk.
func TestTakeAsk(t *testing.T) {
	for _, n := range []int{0, 1, 2, 62, 63, 64, 65, 66, 128, 129, 255, 256} {
		s := end(9, 0, many(n)...)
		for from := 1; from <= n; from++ {
			last := min(n, from+63)
			checkTake(t, s, ask(from, 0), s, "", resend(s, from, last), api.OK)
		}
		for _, from := range []int{n + 1, n + 2, n + 64, n + 65, 257, 1<<40 - 1, 1 << 40} {
			checkTake(t, s, ask(from, 0), s, "", nil, api.OK)
		}
	}
	s := end(1<<40, 3, "a", size(4096), "c")
	checkTake(t, s, ask(1, 0), s, "", []api.Frame{data(1, 1<<40, "a"), data(2, 1<<40, size(4096)), data(3, 1<<40, "c")}, api.OK)
	if _, _, list, _ := Take(end(0, 0, many(65)...), ask(1, 0)); len(list) != 64 || list[63].Num != 64 {
		t.Errorf("%v", list)
	}
	if _, _, list, _ := Take(end(0, 0, many(65)...), ask(2, 0)); len(list) != 64 || list[63].Num != 65 {
		t.Errorf("%v", list)
	}
	if _, _, list, _ := Take(end(0, 0, many(65)...), ask(3, 0)); len(list) != 63 || list[62].Num != 65 {
		t.Errorf("%v", list)
	}
}

// TestTakeBeat is P8.1 for FrBeat.
func TestTakeBeat(t *testing.T) {
	for _, taken := range []int{0, 1, 2, 256, 1<<40 - 1, 1 << 40} {
		s := end(taken, 0, "a")
		for _, num := range []int{0, 1, 2, 3, taken - 1, taken, taken + 1, taken + 2, 1<<40 - 1, 1 << 40} {
			switch {
			case num < 0 || num > 1<<40:
				checkTake(t, s, beat(num, 0), api.Side{}, "", nil, api.ErrForm)
			case num > taken:
				checkTake(t, s, beat(num, 0), s, "", []api.Frame{ask(taken+1, taken)}, api.OK)
			default:
				checkTake(t, s, beat(num, 0), s, "", nil, api.OK)
			}
		}
	}
}

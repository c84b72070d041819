package sess

import (
	"slices"
	"testing"

	"bulwark/api"
)

// roomy is the end with spare capacity behind Sent, and all of that.
func roomy(s api.Side) (api.Side, []string) {
	whole := append(append(make([]string, 0, len(s.Sent)+3), s.Sent...), "x", "y", "z")
	s.Sent = whole[:len(s.Sent)]
	return s, whole
}

// scribble overwrites all messages, with the spare capacity behind them.
func scribble(list []string) {
	list = list[:cap(list)]
	for i := range list {
		list[i] = "#"
	}
}

// scribbleFrames overwrites all frames, with the spare capacity behind them.
func scribbleFrames(list []api.Frame) {
	list = list[:cap(list)]
	for i := range list {
		list[i] = api.Frame{Kind: -9, Num: -9, Body: "#"}
	}
}

// someEnds are ends for the tests of P8.4, valid ones and others.
func someEnds() []api.Side {
	return []api.Side{
		end(0, 0), end(3, 0), end(3, 1, "a"), end(0, 2, "a", "b", "c"), end(9, 0, many(100)...), end(1<<40, 200, many(255)...), end(0, 0, many(256)...),
		end(0, 0, many(257)...), end(-1, 0, "a", "b"), end(0, 3, "a", "b"), end(0, 0, "a", "", "c"),
	}
}

// TestSendOwns is P8.4 for Send.
func TestSendOwns(t *testing.T) {
	for _, s := range someEnds() {
		for _, m := range []string{"m", "", size(4096), size(4097)} {
			arg, whole := roomy(s)
			before, want := slices.Clone(whole), sent(s, m)
			first, _, e := Send(arg, m)
			second, _, _ := Send(arg, m)
			third, _, _ := Send(arg, m)
			if e != want.e || !same(first, want.next) || !slices.Equal(whole, before) {
				t.Fatalf("%.100v sends %.20q: %.200v, error %d; the argument is %.100v", s, m, first, e, whole)
			}
			scribble(first.Sent)
			_ = append(second.Sent, "more", "behind")
			if !same(second, want.next) || !same(third, want.next) || !slices.Equal(whole, before) {
				t.Errorf("%.100v sends %.20q: scribbled, the others are %.100v and %.100v, the argument %.100v", s, m, second, third, whole)
			}
			scribble(whole)
			if !same(second, want.next) || !same(third, want.next) {
				t.Errorf("%.100v sends %.20q: with the argument, the ends have become %.100v and %.100v", s, m, second, third)
			}
		}
	}
}

// TestSentOnes is P8.4 for two ends that go on from one: neither sees what the other sends.
func TestSentOnes(t *testing.T) {
	for _, s := range someEnds() {
		base, _, e := Send(s, "base")
		if e != api.OK || len(base.Sent) == 256 {
			continue
		}
		one, _, _ := Send(base, "one")
		two, _, _ := Send(base, "two")
		moved, _, _, _ := Take(base, beat(0, 0))
		three, _, _ := Send(moved, "three")
		last := len(base.Sent)
		if one.Sent[last] != "one" || two.Sent[last] != "two" || three.Sent[last] != "three" || base.Sent[last-1] != "base" || len(base.Sent) != last {
			t.Errorf("%.100v: %.100v, %.100v, %.100v", base, one, two, three)
		}
	}
}

// TestTakeOwns is P8.4 for Take.
func TestTakeOwns(t *testing.T) {
	for _, s := range someEnds() {
		for _, f := range []api.Frame{data(1, 0, "d"), data(s.Taken+1, 1, "d"), data(s.Taken+2, 1, "d"), ask(1, 0), ask(2, 1), ask(100, 0), ask(300, 0), beat(0, 0), beat(5, 1), beat(1<<40, 0), {}} {
			arg, whole := roomy(s)
			before, want := slices.Clone(whole), taken(s, f)
			var first, second, third outcome
			first.next, first.m, first.list, first.e = Take(arg, f)
			second.next, second.m, second.list, second.e = Take(arg, f)
			third.next, third.m, third.list, third.e = Take(arg, f)
			if !first.is(want) || !slices.Equal(whole, before) {
				t.Fatalf("%.100v takes %v: %.200v; the argument is %.100v", s, f, first, whole)
			}
			scribble(first.next.Sent)
			if !slices.Equal(first.list, want.list) {
				t.Errorf("%.100v takes %v: with the end, the frames have become %.100v", s, f, first.list)
			}
			scribbleFrames(first.list)
			_ = append(second.next.Sent, "more", "behind")
			_ = append(second.list, ask(1, 1), ask(2, 2))
			if !second.is(want) || !third.is(want) || !slices.Equal(whole, before) {
				t.Errorf("%.100v takes %v: scribbled, the others are %.100v and %.100v, the argument %.100v", s, f, second, third, whole)
			}
			scribble(whole)
			if !second.is(want) || !third.is(want) {
				t.Errorf("%.100v takes %v: with the argument, the others have become %.100v and %.100v", s, f, second, third)
			}
		}
	}
}

// TestAskersOwn is P8.4 for Good, Tick and Left, which change nothing.
func TestAskersOwn(t *testing.T) {
	for _, s := range someEnds() {
		arg, whole := roomy(s)
		before := slices.Clone(whole)
		good, left := Good(arg), Left(arg)
		f, e := Tick(arg)
		if !slices.Equal(whole, before) || !same(arg, s) {
			t.Errorf("%.100v has become %.100v, with %.100v", s, arg, whole)
		}
		if g, h := Tick(s); good != Good(s) || left != Left(s) || f != g || e != h {
			t.Errorf("%.100v: other answers with spare capacity", s)
		}
	}
}

// TestEmptyEnds is rule 5: nil and empty lists are the same.
func TestEmptyEnds(t *testing.T) {
	for _, f := range []api.Frame{data(1, 0, "d"), data(2, 0, "d"), ask(1, 0), beat(0, 0), beat(1, 1), {}} {
		var none, empty outcome
		none.next, none.m, none.list, none.e = Take(api.Side{}, f)
		empty.next, empty.m, empty.list, empty.e = Take(api.Side{Sent: []string{}}, f)
		if !none.is(empty) {
			t.Errorf("%v: %v and %v", f, none, empty)
		}
	}
	one, f, e := Send(api.Side{}, "a")
	two, g, h := Send(api.Side{Sent: []string{}}, "a")
	if !same(one, two) || f != g || e != h {
		t.Errorf("%v and %v", one, two)
	}
}

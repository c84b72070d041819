package sess

import (
	"math/rand"
	"slices"
	"strings"
	"testing"

	"bulwark/api"
)

// outcome is all that a call answers.
type outcome struct {
	next api.Side
	m    string
	list []api.Frame
	e    api.Errno
}

func (a outcome) is(b outcome) bool {
	return same(a.next, b.next) && a.m == b.m && slices.Equal(a.list, b.list) && a.e == b.e
}

// validEnd says the chapter's sentence on ends.
func validEnd(s api.Side) bool {
	outside := func(m string) bool { return len(m) < 1 || 4096 < len(m) }
	return !(256 < len(s.Sent) || slices.ContainsFunc(s.Sent, outside) || s.Known < 0 || len(s.Sent) < s.Known || s.Taken < 0 || 1<<40 < s.Taken)
}

// validFrame says the chapter's sentence on frames.
func validFrame(f api.Frame) bool {
	numbers := 0 <= f.Num && f.Num <= 1<<40 && 0 <= f.Taken && f.Taken <= 1<<40
	isData := f.Kind == 1 && 1 <= f.Num && 1 <= len(f.Body) && len(f.Body) <= 4096
	isAsk := f.Kind == 2 && 1 <= f.Num && len(f.Body) == 0
	isBeat := f.Kind == 3 && len(f.Body) == 0
	return numbers && (isData || isAsk || isBeat)
}

// sent says what Send answers.
func sent(s api.Side, m string) outcome {
	if !validEnd(s) {
		return outcome{e: 1}
	}
	if m == "" || len(m) > 4096 {
		return outcome{e: 11}
	}
	if len(s.Sent) >= 256 {
		return outcome{e: 40}
	}
	all := slices.Concat(s.Sent, []string{m})
	return outcome{next: api.Side{Sent: all, Taken: s.Taken, Known: s.Known}, list: []api.Frame{{Kind: 1, Num: len(all), Taken: s.Taken, Body: m}}}
}

// taken says what Take answers, sentence by sentence.
func taken(s api.Side, f api.Frame) outcome {
	if !validEnd(s) {
		return outcome{e: 1}
	}
	if !validFrame(f) {
		return outcome{e: 11}
	}
	o := outcome{next: api.Side{Sent: slices.Clone(s.Sent), Taken: s.Taken, Known: s.Known}}
	if s.Known < f.Taken && f.Taken <= len(s.Sent) {
		o.next.Known = f.Taken
	}
	switch expected := f.Num == s.Taken+1; {
	case f.Kind == 1 && expected && s.Taken == 1<<40:
		return outcome{e: 40}
	case f.Kind == 1 && expected:
		o.next.Taken, o.m = f.Num, f.Body
	case f.Kind == 2:
		for i, m := range s.Sent {
			if n := i + 1; n >= f.Num && n < f.Num+64 {
				o.list = append(o.list, api.Frame{Kind: 1, Num: n, Taken: s.Taken, Body: m})
			}
		}
	case (f.Kind == 1 || f.Kind == 3) && f.Num > s.Taken:
		o.list = append(o.list, api.Frame{Kind: 2, Num: s.Taken + 1, Taken: s.Taken})
	}
	return o
}

// checkValid is P8.2 for what a call answered at a valid end.
func checkValid(t *testing.T, what any, o outcome, delivers bool) {
	t.Helper()
	if !Good(o.next) || !validEnd(o.next) {
		t.Fatalf("%.200v: the end is %.200v", what, o.next)
	}
	for _, f := range o.list {
		if !Valid(f) || !validFrame(f) {
			t.Fatalf("%.200v: the frame %.200v", what, f)
		}
	}
	if (o.m != "") != delivers || len(o.m) > 4096 {
		t.Fatalf("%.200v: the message %.200q", what, o.m)
	}
}

// checkFrame holds Valid and Take against the model.
func checkFrame(t *testing.T, s api.Side, f api.Frame, seen map[api.Errno]int) {
	t.Helper()
	if Valid(f) != validFrame(f) {
		t.Fatalf("Valid of %.200v: %v", f, Valid(f))
	}
	var got outcome
	got.next, got.m, got.list, got.e = Take(s, f)
	want := taken(s, f)
	seen[want.e]++
	if !got.is(want) {
		t.Fatalf("%.200v takes %.200v: %.300v, want %.300v", s, f, got, want)
	}
	if got.e == api.OK {
		checkValid(t, f, got, f.Kind == api.FrData && got.next.Taken != s.Taken)
	}
}

// checkEnd holds the other calls against the model.
func checkEnd(t *testing.T, s api.Side, m string, seen map[api.Errno]int) {
	t.Helper()
	good := validEnd(s)
	f, e := Tick(s)
	switch {
	case Good(s) != good:
		t.Fatalf("Good of %.200v: %v", s, !good)
	case good && (e != 0 || f != (api.Frame{Kind: 3, Num: len(s.Sent), Taken: s.Taken}) || Left(s) != len(s.Sent[s.Known:])):
		t.Fatalf("%.200v: Tick: %v, error %d; Left: %d", s, f, e, Left(s))
	case !good && (e != 1 || f != api.Frame{} || Left(s) != 0):
		t.Fatalf("%.200v: Tick: %v, error %d; Left: %d", s, f, e, Left(s))
	}
	if good {
		checkValid(t, s, outcome{next: s, list: []api.Frame{f}}, false)
	}
	var got outcome
	var frame api.Frame
	got.next, frame, got.e = Send(s, m)
	if got.e == api.OK {
		got.list = []api.Frame{frame}
	} else if frame != (api.Frame{}) {
		t.Fatalf("%.200v sends %.100q: %.100v beside error %d", s, m, frame, got.e)
	}
	want := sent(s, m)
	seen[want.e]++
	if !got.is(want) {
		t.Fatalf("%.200v sends %.100q: %.300v, want %.300v", s, m, got, want)
	}
	if got.e == api.OK {
		checkValid(t, m, got, false)
	}
}

// TestAllSmall is P8.1 and P8.2 for every end and frame whose numbers are small or about the limits.
func TestAllSmall(t *testing.T) {
	numbers := []int{-1, 0, 1, 2, 3, 4, 5, 1<<40 - 2, 1<<40 - 1, 1 << 40, 1<<40 + 1}
	bodies := []string{"", "x"}
	seen := map[api.Errno]int{}
	for _, list := range [][]string{nil, {"a"}, {"a", "b"}, {"a", ""}, {"a", "b", "c"}} {
		for _, takenNow := range numbers {
			for known := -1; known <= len(list)+1; known++ {
				s := end(takenNow, known, list...)
				for _, m := range bodies {
					checkEnd(t, s, m, seen)
				}
				for kind := -1; kind <= 5; kind++ {
					for _, num := range numbers {
						for _, told := range numbers {
							for _, body := range bodies {
								checkFrame(t, s, api.Frame{Kind: kind, Num: num, Taken: told, Body: body}, seen)
							}
						}
					}
				}
			}
		}
	}
	for _, e := range []api.Errno{api.OK, api.ErrArg, api.ErrForm} {
		if seen[e] < 1000 {
			t.Errorf("error %d only %d times", e, seen[e])
		}
	}
}

// pick draws one of these.
func pick[T any](r *rand.Rand, from ...T) T { return from[r.Intn(len(from))] }

// drawnEnd is an end that is valid but for one time in ten.
func drawnEnd(r *rand.Rand) api.Side {
	list := many(pick(r, 0, 1, 2, 3, 63, 64, 65, 66, 129, 254, 255, 256, r.Intn(257)))
	s := end(pick(r, 0, 1, 2, 255, 256, 1<<40-1, 1<<40, r.Intn(1<<40)), r.Intn(len(list)+1), list...)
	switch r.Intn(60) {
	case 0:
		s.Taken = pick(r, -1, 1<<40+1, -1<<63, 1<<63-1, r.Int(), -r.Int())
	case 1:
		s.Known = pick(r, -1, len(list)+1, r.Int(), -r.Int(), 1<<63-1, -1<<63)
	case 2:
		s.Sent = many(257 + r.Intn(100))
	case 3, 4, 5:
		if len(list) > 0 {
			list[r.Intn(len(list))] = pick(r, "", size(4097), size(5000))
		}
	}
	return s
}

// drawnFrame is a frame that is valid but for one time in five.
func drawnFrame(r *rand.Rand, s api.Side) api.Frame {
	num := pick(r, 0, 1, 2, 3, s.Taken-1, s.Taken, s.Taken+1, s.Taken+1, s.Taken+2, len(s.Sent)-63, len(s.Sent)-64, len(s.Sent), len(s.Sent)+1, 1<<40, r.Intn(1<<40))
	told := pick(r, 0, s.Known-1, s.Known, s.Known+1, len(s.Sent)-1, len(s.Sent), len(s.Sent)+1, 1<<40, r.Intn(1<<40), r.Intn(257))
	f := pick(r, data(num, told, "x"), data(num, told, pick(r, size(4096), size(4095), "y", "\x00")), ask(num, told), beat(num, told))
	switch r.Intn(25) {
	case 0:
		f.Kind = pick(r, 0, 4, -1, r.Int(), -r.Int())
	case 1:
		f.Num = pick(r, -1, 0, 1<<40+1, r.Int(), -r.Int())
	case 2:
		f.Taken = pick(r, -1, 1<<40+1, r.Int(), -r.Int())
	case 3:
		f.Body = pick(r, "", "z", size(4097), strings.Repeat("long", 2000))
	}
	return f
}

// TestWalk is P8.1 and P8.2 for ends and frames that are drawn.
func TestWalk(t *testing.T) {
	r := rand.New(rand.NewSource(1))
	seen, seenSend := map[api.Errno]int{}, map[api.Errno]int{}
	for range 40000 {
		s := drawnEnd(r)
		checkFrame(t, s, drawnFrame(r, s), seen)
		checkEnd(t, s, pick(r, "m", "m", "m", "", size(4096), size(4097)), seenSend)
	}
	for _, e := range []api.Errno{api.OK, api.ErrArg, api.ErrForm} {
		if seen[e] < 1000 || seenSend[e] < 1000 {
			t.Errorf("error %d only %d and %d times", e, seen[e], seenSend[e])
		}
	}
	if seenSend[api.ErrRoom] < 1000 {
		t.Errorf("ErrRoom only %d times", seenSend[api.ErrRoom])
	}
}

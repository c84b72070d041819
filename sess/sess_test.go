package sess

import (
	"strings"
	"testing"

	"bulwark/api"
)

// end is an end with these numbers that sent these messages.
func end(taken, known int, sent ...string) api.Side {
	return api.Side{Sent: sent, Taken: taken, Known: known}
}

// many are n messages: m1, m2 and so on, in letters, so that none is like another.
func many(n int) []string {
	var sent []string
	for i := range n {
		sent = append(sent, string([]byte{'m', 'a' + byte(i/26), 'a' + byte(i%26)}))
	}
	return sent
}

// size is a message of n bytes.
func size(n int) string { return strings.Repeat("s", n) }

func data(num, taken int, body string) api.Frame {
	return api.Frame{Kind: api.FrData, Num: num, Taken: taken, Body: body}
}

func ask(num, taken int) api.Frame { return api.Frame{Kind: api.FrAsk, Num: num, Taken: taken} }

func beat(num, taken int) api.Frame { return api.Frame{Kind: api.FrBeat, Num: num, Taken: taken} }

// resend are the frames of the messages from to last of the end.
func resend(s api.Side, from, last int) []api.Frame {
	var frames []api.Frame
	for n := from; n <= last; n++ {
		frames = append(frames, data(n, s.Taken, s.Sent[n-1]))
	}
	return frames
}

// sides are ends at every edge, each with whether it is valid.
var sides = []struct {
	name string
	s    api.Side
	good bool
}{
	{"nothing", end(0, 0), true},
	{"an empty list", end(0, 0, []string{}...), true},
	{"255 messages", end(0, 0, many(255)...), true},
	{"256 messages", end(0, 0, many(256)...), true},
	{"257 messages", end(0, 0, many(257)...), false},
	{"300 messages", end(0, 0, many(300)...), false},
	{"a message of 1 byte", end(0, 0, "a"), true},
	{"a message of 4096 bytes", end(0, 0, size(4096)), true},
	{"the empty message", end(0, 0, ""), false},
	{"a message of 4097 bytes", end(0, 0, size(4097)), false},
	{"the first empty", end(0, 0, "", "b", "c"), false},
	{"the middle one empty", end(0, 0, "a", "", "c"), false},
	{"the last empty", end(0, 0, "a", "b", ""), false},
	{"the first too long", end(0, 0, size(4097), "b", "c"), false},
	{"the middle one too long", end(0, 0, "a", size(4097), "c"), false},
	{"the last too long", end(0, 0, "a", "b", size(4097)), false},
	{"all of 4096 bytes", end(0, 0, size(4096), size(4096), size(4096)), true},
	{"the last of 256 empty", end(0, 0, append(many(255), "")...), false},
	{"bytes of any kind", end(0, 0, "\x00", "\xff\xfe", "\x01"), true},
	{"Known -1", end(0, -1, "a", "b"), false},
	{"Known -1 of none", end(0, -1), false},
	{"Known 0", end(0, 0, "a", "b"), true},
	{"Known 1 of 2", end(0, 1, "a", "b"), true},
	{"Known 2 of 2", end(0, 2, "a", "b"), true},
	{"Known 3 of 2", end(0, 3, "a", "b"), false},
	{"Known 1 of none", end(0, 1), false},
	{"Known 256 of 256", end(0, 256, many(256)...), true},
	{"Known 257 of 256", end(0, 257, many(256)...), false},
	{"Known is the least integer", end(0, -1<<63, "a"), false},
	{"Known is the greatest integer", end(0, 1<<63-1, "a"), false},
	{"Taken -1", end(-1, 0, "a"), false},
	{"Taken 1", end(1, 0, "a"), true},
	{"Taken 257", end(257, 0), true},
	{"Taken 2^40 - 1", end(1<<40-1, 0, "a"), true},
	{"Taken 2^40", end(1<<40, 0, "a"), true},
	{"Taken 2^40 + 1", end(1<<40+1, 0, "a"), false},
	{"Taken is the least integer", end(-1<<63, 0), false},
	{"Taken is the greatest integer", end(1<<63-1, 0), false},
}

// TestGood is P8.1 for Good, and for what each other call answers to an invalid end.
func TestGood(t *testing.T) {
	for _, c := range sides {
		if Good(c.s) != c.good {
			t.Errorf("%s: Good is %v", c.name, !c.good)
		}
		want := api.ErrArg
		if c.good {
			want = api.OK
		}
		if _, e := Tick(c.s); e != want {
			t.Errorf("%s: Tick: error %d", c.name, e)
		}
		if _, _, _, e := Take(c.s, beat(0, 0)); e != want {
			t.Errorf("%s: Take: error %d", c.name, e)
		}
		if want == api.OK && len(c.s.Sent) == 256 {
			want = api.ErrRoom
		}
		if _, _, e := Send(c.s, "m"); e != want {
			t.Errorf("%s: Send: error %d", c.name, e)
		}
	}
}

// frames are frames at every edge, each with whether it is valid.
var frames = []struct {
	f     api.Frame
	valid bool
}{
	{api.Frame{}, false},
	{data(1, 0, "a"), true},
	{data(0, 0, "a"), false},
	{data(-1, 0, "a"), false},
	{data(2, 0, "a"), true},
	{data(1, 0, ""), false},
	{data(0, 0, ""), false},
	{data(1, 0, size(4096)), true},
	{data(1, 0, size(4097)), false},
	{data(1<<40-1, 0, "a"), true},
	{data(1<<40, 0, "a"), true},
	{data(1<<40+1, 0, "a"), false},
	{data(1<<63-1, 0, "a"), false},
	{data(-1<<63, 0, "a"), false},
	{data(1, -1, "a"), false},
	{data(1, 1<<40, "a"), true},
	{data(1, 1<<40+1, "a"), false},
	{data(1, 1<<63-1, "a"), false},
	{data(1, 0, "\x00"), true},
	{ask(1, 0), true},
	{ask(0, 0), false},
	{ask(-1, 0), false},
	{ask(257, 0), true},
	{ask(1<<40, 0), true},
	{ask(1<<40+1, 0), false},
	{ask(1, -1), false},
	{ask(1, 1<<40), true},
	{ask(1, 1<<40+1), false},
	{api.Frame{Kind: api.FrAsk, Num: 1, Body: "a"}, false},
	{api.Frame{Kind: api.FrAsk, Body: "a"}, false},
	{beat(0, 0), true},
	{beat(1, 0), true},
	{beat(-1, 0), false},
	{beat(257, 0), true},
	{beat(1<<40, 0), true},
	{beat(1<<40+1, 0), false},
	{beat(0, -1), false},
	{beat(0, 1<<40), true},
	{beat(0, 1<<40+1), false},
	{beat(0, -1<<63), false},
	{api.Frame{Kind: api.FrBeat, Body: "a"}, false},
	{api.Frame{Kind: api.FrBeat, Num: 1, Body: "a"}, false},
	{api.Frame{Kind: 0, Num: 1}, false},
	{api.Frame{Kind: 0, Num: 1, Body: "a"}, false},
	{api.Frame{Kind: 4, Num: 1}, false},
	{api.Frame{Kind: 4, Num: 1, Body: "a"}, false},
	{api.Frame{Kind: -1, Num: 1}, false},
	{api.Frame{Kind: -1, Num: 1, Body: "a"}, false},
	{api.Frame{Kind: 1<<63 - 1, Num: 1}, false},
	{api.Frame{Kind: 1<<63 - 1, Num: 1, Body: "a"}, false},
	{api.Frame{Kind: 1 << 32, Num: 1, Body: "a"}, false},
	{api.Frame{Kind: 1<<32 + api.FrData, Num: 1, Body: "a"}, false},
	{api.Frame{Kind: 1<<32 + api.FrBeat, Num: 1}, false},
}

// TestValid is P8.1 for Valid, and for what Take answers to an invalid frame.
func TestValid(t *testing.T) {
	for _, c := range frames {
		if Valid(c.f) != c.valid {
			t.Errorf("%.100v: Valid is %v", c.f, !c.valid)
		}
		want := api.ErrForm
		if c.valid {
			want = api.OK
		}
		if _, _, _, e := Take(end(0, 0, "a"), c.f); e != want {
			t.Errorf("%.100v: Take: error %d", c.f, e)
		}
		if next, m, list, e := Take(end(0, 1), c.f); e != api.ErrArg || !same(next, api.Side{}) || m != "" || list != nil {
			t.Errorf("%.100v at an invalid end: %v, %q, %v, error %d", c.f, next, m, list, e)
		}
	}
}

// TestSend is P8.1 for Send.
func TestSend(t *testing.T) {
	ff := string([]byte{0xff, 0})
	for _, c := range []struct {
		name string
		s    api.Side
		m    string
		num  int
		e    api.Errno
	}{
		{"the first", end(0, 0), "a", 1, api.OK},
		{"the second", end(7, 1, "a"), "b", 2, api.OK},
		{"the same again", end(7, 0, "a"), "a", 2, api.OK},
		{"of any bytes", end(1<<40, 0, "a"), ff, 2, api.OK},
		{"of 4096 bytes", end(3, 2, "a", "b"), size(4096), 3, api.OK},
		{"of 4097 bytes", end(3, 2, "a", "b"), size(4097), 0, api.ErrForm},
		{"the empty one", end(3, 2, "a", "b"), "", 0, api.ErrForm},
		{"the 255th", end(0, 9, many(254)...), "m", 255, api.OK},
		{"the 256th", end(0, 255, many(255)...), "m", 256, api.OK},
		{"the 257th", end(0, 0, many(256)...), "m", 0, api.ErrRoom},
		{"the 257th, all known", end(0, 256, many(256)...), "m", 0, api.ErrRoom},
		{"an empty 257th", end(0, 0, many(256)...), "", 0, api.ErrForm},
		{"a 257th of 4097 bytes", end(0, 0, many(256)...), size(4097), 0, api.ErrForm},
		{"at an invalid end", end(-1, 0), "a", 0, api.ErrArg},
		{"an empty one at an invalid end", end(0, 2, "a"), "", 0, api.ErrArg},
		{"one of 4097 bytes at an invalid end", end(1<<40+1, 0), size(4097), 0, api.ErrArg},
		{"at an end with 257", end(0, 0, many(257)...), "a", 0, api.ErrArg},
		{"an empty one at an end with 257", end(0, 0, many(257)...), "", 0, api.ErrArg},
		{"at an invalid end with 256", end(-1, 0, many(256)...), "a", 0, api.ErrArg},
	} {
		want, frame := api.Side{}, api.Frame{}
		if c.e == api.OK {
			want = end(c.s.Taken, c.s.Known, append(many(0), append(c.s.Sent[:len(c.s.Sent):len(c.s.Sent)], c.m)...)...)
			frame = data(c.num, c.s.Taken, c.m)
		}
		if next, f, e := Send(c.s, c.m); e != c.e || f != frame || !same(next, want) {
			t.Errorf("%s: %.200v, %.200v, error %d", c.name, next, f, e)
		}
	}
}

// TestTickAndLeft is P8.1 for Tick and Left.
func TestTickAndLeft(t *testing.T) {
	for _, c := range []struct {
		s    api.Side
		f    api.Frame
		left int
		e    api.Errno
	}{
		{end(0, 0), beat(0, 0), 0, api.OK},
		{end(5, 0), beat(0, 5), 0, api.OK},
		{end(5, 0, "a"), beat(1, 5), 1, api.OK},
		{end(5, 1, "a"), beat(1, 5), 0, api.OK},
		{end(1<<40, 1, "a", "b", "c"), beat(3, 1<<40), 2, api.OK},
		{end(0, 0, many(256)...), beat(256, 0), 256, api.OK},
		{end(0, 255, many(256)...), beat(256, 0), 1, api.OK},
		{end(0, 256, many(256)...), beat(256, 0), 0, api.OK},
		{end(0, 0, many(257)...), api.Frame{}, 0, api.ErrArg},
		{end(0, -1, "a"), api.Frame{}, 0, api.ErrArg},
		{end(0, 2, "a"), api.Frame{}, 0, api.ErrArg},
		{end(-1, 0, "a"), api.Frame{}, 0, api.ErrArg},
		{end(1<<40+1, 0, "a"), api.Frame{}, 0, api.ErrArg},
		{end(0, 0, "a", ""), api.Frame{}, 0, api.ErrArg},
		{end(0, 0, size(4097)), api.Frame{}, 0, api.ErrArg},
	} {
		if f, e := Tick(c.s); f != c.f || e != c.e {
			t.Errorf("%.100v: Tick: %v, error %d", c.s, f, e)
		}
		if n := Left(c.s); n != c.left {
			t.Errorf("%.100v: Left: %d", c.s, n)
		}
	}
}

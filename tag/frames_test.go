package tag

import (
	"fmt"
	"iter"
	"slices"
	"strings"
	"testing"

	"bulwark/api"
)

// streams are bytes with several frames, and faults between them.
func streams() []string {
	a, b, c := framed("35=D\x01"), framed(bar("35=D|11=7|")), framed(bar("35=E|58=x8=FIX.4.4|"))
	wrong := strings.Replace(b, "11=7", "11=8", 1)
	inside := strings.Replace(c, "35=E", "35=F", 1)
	misshapen := framed(bar("36=D|"))
	all := []string{
		"", a, a + b, a + b + c, a + a + a,
		"x" + a, a + "x", a + "x" + b, "xyz" + a + "xyz" + b + "xyz", a + "\x01" + b + "\x01",
		wrong, wrong + a, a + wrong, a + wrong + b, wrong + wrong, a + wrong + wrong + b,
		inside, inside + a, a + inside + b, misshapen, misshapen + a, a + misshapen + b,
		a[:1], a[:9], a[:10], a[:12], a[:len(a)-1], a + a[:1], a + a[:10], a + a[:12], a + a[:20], a + b[:len(b)-1], "x" + a[:5], a + "x" + b[:5],
		a[:20] + b, a[:10] + b, a[:12] + b, a[:14] + b, a[1:] + b, a[:5] + a, a[:len(a)-1] + a, a + b[:len(b)-3] + c + a + b,
		"8" + a, "8=" + a + "8=", a + "8" + b + "8", "88=FIX" + a + "8=FIX8=FIX.4.4",
		bar("8=FIX.4.4|9=0|") + a, bar("8=FIX.4.4|9=4097|") + a, bar("8=FIX.4.4|9=05|35=D|10=183|") + a, bar("8=FIX.4.4|9=|") + a, bar("8=FIX.4.4|9=5x") + a,
		bar("8=FIX.4.4|9=26|") + a + b, bar("8=FIX.4.4|9=45|") + a + b + c, bar("8=FIX.4.4|9=4096|") + a + b, bar("8=FIX.4.4|9=100|") + strings.Repeat(a, 6) + "x" + b,
		strings.Repeat("x", 5000) + a, strings.Repeat(a+"x", 50), strings.Repeat("\x01", 100),
	}
	return append(all, strings.Join(all, ""))
}

// TestFrames is P7.1 for Frames and Rest, by what was written by hand.
func TestFrames(t *testing.T) {
	d, e7 := yielded{`35="D"`, api.OK}, yielded{`35="D" 11="7"`, api.OK}
	form, sum := yielded{"", api.ErrForm}, yielded{"", api.ErrSum}
	a, b := "8=FIX.4.4|9=5|35=D|10=183|", "8=FIX.4.4|9=10|35=D|11=7|10=186|"
	for _, c := range []struct {
		b    string
		want []yielded
		rest int
	}{
		{"", nil, 0},
		{a, []yielded{d}, 0},
		{a + b, []yielded{d, e7}, 0},
		{b + a + b, []yielded{e7, d, e7}, 0},
		{"x", []yielded{form}, 0},
		{"x" + a, []yielded{form, d}, 0},
		{a + "x", []yielded{d, form}, 0},
		{"xy" + a + "zz" + b + "8", []yielded{form, d, form, e7}, 1},
		{a + "8=FIX.4.4|", []yielded{d}, 10},
		{a + "8=FIX.4.4|9=5|35=D|", []yielded{d}, 19},
		{a + "zz8=FIX.4.4|9=5|35=D|", []yielded{d, form}, 19},
		{a + "zz8=FIX.", []yielded{d, form}, 6},
		{"8=FIX.4.4|9=5|35=D|10=184|" + a, []yielded{sum, d}, 0},
		{"8=FIX.4.4|9=5|35=D|10=184|", []yielded{sum}, 0},
		{"8=FIX.4.4|9=5|35=D|10=18x|" + a, []yielded{form, d}, 0},
		{"8=FIX.4.4|9=5|36=D|10=184|" + a, []yielded{form, d}, 0},
		{"8=FIX.4.4|9=5|36=D|10=185|8=FIX.4.4|9=5|35=D|10=184|" + a, []yielded{sum, sum, d}, 0},
		// The header in the body of the first one is no frame's beginning.
		{"8=FIX.4.4|9=18|35=D|58=8=FIX.4.4|10=182|" + a, []yielded{{`35="D" 58="8=FIX.4.4"`, api.OK}, d}, 0},
		{"8=FIX.4.4|9=18|35=D|58=8=FIX.4.4|10=183|" + a, []yielded{sum, form, d}, 0},
		// Frames within what seemed to be another one.
		{"8=FIX.4.4|9=26|" + a + b, []yielded{form, d, e7}, 0},
		{"8=FIX.4.4|9=52|" + a + b, nil, 73},
		{"8=FIX.4.4|9=52|" + a + b + "8=FIX.4.4|9=99|", []yielded{form, d, e7}, 15},
		{"8=FIX.4.4|9=4097|" + a, []yielded{form, d}, 0},
		{"8=FIX.4.4|9=0|8=FIX.4.4|9=x|8=FIX.4.4|9=|" + a, []yielded{form, form, form, d}, 0},
	} {
		s := bar(c.b)
		if got := framesOf(s); !slices.Equal(got, c.want) {
			t.Errorf("Frames of %q: %v, want %v", c.b, got, c.want)
		}
		if got := Rest([]byte(s)); got != c.rest {
			t.Errorf("Rest of %q: %d, want %d", c.b, got, c.rest)
		}
		checkFrames(t, s)
	}
	if got := Rest(nil); got != 0 {
		t.Errorf("Rest of nil: %d", got)
	}
	for range Frames(nil) {
		t.Error("Frames of nil yields")
	}
}

// TestStreams is P7.1 for Frames and Rest, against the model, for the streams and every beginning of them.
func TestStreams(t *testing.T) {
	for _, s := range streams() {
		checkFrames(t, s)
		for n := range min(len(s), 300) {
			checkFrames(t, s[:n])
			checkFrames(t, s[n:])
		}
	}
}

// some are the first results of an iteration, which is left then.
func some(seq iter.Seq2[[]api.Field, api.Errno], most int) []yielded {
	var all []yielded
	if most == 0 {
		return nil
	}
	for fields, e := range seq {
		all = append(all, yielded{said(fields), e})
		if len(all) == most {
			break
		}
	}
	return all
}

// TestLeftEarly is P7.1 and rule 8: an iterator is left at each place, and iterates from the beginning again each time.
func TestLeftEarly(t *testing.T) {
	for _, s := range streams() {
		want, _ := visited(s)
		seq := Frames([]byte(s))
		for most := range min(len(want)+2, 40) {
			if got := some(seq, most); !slices.Equal(got, want[:min(most, len(want))]) {
				t.Errorf("the first %d of %.200q: %v, want %v", most, s, got, want)
			}
			if most < 10 {
				if got := some(seq, -1); !slices.Equal(got, want) {
					t.Errorf("all of %.200q, left after %d before: %v, want %v", s, most, got, want)
				}
			}
		}
		for range 2 {
			if got := some(seq, -1); !slices.Equal(got, want) {
				t.Errorf("all of %.200q again: %v, want %v", s, got, want)
			}
		}
	}
}

// TestNested is rule 8: an iterator within itself.
func TestNested(t *testing.T) {
	s := framed("35=D\x01") + "xx" + framed(bar("35=D|11=7|")) + framed("36=D\x01") + framed("35=E\x01") + "8=F"
	seq := Frames([]byte(s))
	want, _ := visited(s)
	var outer []yielded
	for fields, e := range seq {
		outer = append(outer, yielded{said(fields), e})
		if got := some(seq, -1); !slices.Equal(got, want) {
			t.Errorf("within result %d: %v, want %v", len(outer), got, want)
		}
		some(seq, 2)
	}
	if !slices.Equal(outer, want) || len(want) != 5 {
		t.Errorf("%v, want %v", outer, want)
	}
	one, stopOne := iter.Pull2(seq)
	other, stopOther := iter.Pull2(seq)
	defer stopOne()
	defer stopOther()
	other()
	for i := range want {
		a, e, ok := one()
		b, f, more := other()
		if !ok || (yielded{said(a), e}) != want[i] || more != (i+1 < len(want)) || more && (yielded{said(b), f}) != want[i+1] {
			t.Errorf("side by side, result %d: %v, error %d, and %v, error %d", i, a, e, b, f)
		}
	}
}

// TestFramesIsDecodeInTurn is P7.1: Frames yields what Decode returns, one after the other, and Rest is what Decode says ErrShort to.
func TestFramesIsDecodeInTurn(t *testing.T) {
	for _, s := range streams() {
		var want []yielded
		b := []byte(s)
		for {
			fields, n, e := Decode(b)
			if e == api.ErrShort {
				break
			}
			if n < 1 || n > len(b) {
				t.Fatalf("Decode of %.200q: %d", b, n)
			}
			want = append(want, yielded{said(fields), e})
			b = b[n:]
		}
		if got := framesOf(s); !slices.Equal(got, want) {
			t.Errorf("Frames of %.200q: %v, want %v", s, got, want)
		}
		if got := Rest([]byte(s)); got != len(b) {
			t.Errorf("Rest of %.200q: %d, want %d", s, got, len(b))
		}
		if got := Rest(b); got != len(b) || len(framesOf(string(b))) != 0 {
			t.Errorf("Rest of the rest %q: %d, want all", b, got)
		}
	}
}

// TestPanicInTheLoop is rule 1: what the caller's function does is the caller's; the iterator is as it was.
func TestPanicInTheLoop(t *testing.T) {
	s := framed("35=D\x01") + framed("35=E\x01")
	seq := Frames([]byte(s))
	told := func() (told string) {
		defer func() { told = fmt.Sprint(recover()) }()
		for range seq {
			panic("the caller's")
		}
		return ""
	}()
	if told != "the caller's" {
		t.Errorf("recovered %q", told)
	}
	if got := some(seq, -1); len(got) != 2 {
		t.Errorf("after it: %v", got)
	}
}

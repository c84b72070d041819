package tag

import (
	"math/rand"
	"slices"
	"testing"

	"bulwark/api"
)

// receiver gets bytes in pieces. It knows only Frames and Rest.
type receiver struct {
	kept  []byte
	got   []string // the frames' fields
	sums  int      // how many frames had another checksum
	forms int
}

func (r *receiver) take(piece string) {
	b := append(slices.Clone(r.kept), piece...)
	for fields, e := range Frames(b) {
		switch e {
		case api.OK:
			r.got = append(r.got, said(fields))
		case api.ErrSum:
			r.sums++
		default:
			r.forms++
		}
	}
	r.kept = b[len(b)-Rest(b):]
}

// received takes s divided at these places, which ascend.
func received(s string, at ...int) *receiver {
	r, from := &receiver{}, 0
	for _, to := range append(at, len(s)) {
		r.take(s[from:to])
		from = to
	}
	return r
}

// like compares what came in pieces with what came whole: the frames, those with another checksum, what is kept. Between frames, how often something is amiss hangs on the pieces, as each of them is skipped by itself.
func (r *receiver) like(whole *receiver) bool {
	return slices.Equal(r.got, whole.got) && r.sums == whole.sums && string(r.kept) == string(whole.kept) && r.forms >= whole.forms
}

// check holds s, divided at these places, against s as a whole.
func (whole *receiver) check(t *testing.T, s string, at ...int) {
	t.Helper()
	if r := received(s, at...); !r.like(whole) {
		t.Errorf("%.300q divided at %v: %v, want %v", s, at, r, whole)
	}
}

// everyPlace are all places of s.
func everyPlace(s string) []int {
	var all []int
	for i := range len(s) {
		all = append(all, i)
	}
	return all
}

// TestCutOnce is P7.3 for each of the streams in two pieces, at each place, and in single bytes.
func TestCutOnce(t *testing.T) {
	for _, s := range streams() {
		if len(s) > 600 {
			continue
		}
		whole := received(s)
		for at := range len(s) + 1 {
			whole.check(t, s, at)
		}
		whole.check(t, s, everyPlace(s)...)
	}
}

// TestCutTwice is P7.3 for streams in three pieces, also empty ones.
func TestCutTwice(t *testing.T) {
	a, b := framed("35=D\x01"), framed(bar("35=D|58=8=FIX.4.4|"))
	wrong := framed(bar("35=D|11=7|"))[:22] + "xx10=183\x01"
	for _, s := range []string{a + b, "x" + a + "8=F" + b, a + wrong + b, b[:30] + a + b, a + "88=FIX.4.4" + b + "8=FI", bar("8=FIX.4.4|9=26|") + a + b} {
		whole := received(s)
		for first := range len(s) + 1 {
			for second := first; second <= len(s); second++ {
				whole.check(t, s, first, second)
			}
		}
	}
}

// TestCutAcrossALongFrame is P7.3 for the longest frame.
func TestCutAcrossALongFrame(t *testing.T) {
	frame := framed(spelled(long(4096, 3)))
	s := "xx" + frame + framed("35=D\x01") + frame[:100] + frame + frame[:4000]
	whole := received(s)
	if len(whole.got) != 3 {
		t.Fatalf("whole: %d frames", len(whole.got))
	}
	for at := 0; at <= len(s); at += 7 {
		whole.check(t, s, at)
	}
	for _, size := range []int{64, 1000, 4096, 4118, 4119, 4120} {
		var at []int
		for place := size; place < len(s); place += size {
			at = append(at, place)
		}
		whole.check(t, s, at...)
	}
}

// TestCutDrawn is P7.3 for streams and divisions that are drawn.
func TestCutDrawn(t *testing.T) {
	r := rand.New(rand.NewSource(3))
	frames, faults := 0, 0
	for range 4000 {
		s := stream(r)
		whole := received(s)
		frames += len(whole.got)
		faults += whole.sums
		for range 3 {
			var at []int
			for place := r.Intn(40); place < len(s); place += r.Intn(40) {
				at = append(at, place)
			}
			whole.check(t, s, at...)
		}
		whole.check(t, s, everyPlace(s)...)
	}
	if frames < 4000 || faults < 1000 {
		t.Errorf("only %d frames, %d faults", frames, faults)
	}
}

// TestPiecesByHand is P7.3 by what arrives after each piece.
func TestPiecesByHand(t *testing.T) {
	r := &receiver{}
	for _, c := range []struct {
		piece  string
		frames int
		kept   int
	}{
		{"", 0, 0}, {"x", 0, 0}, {"8=FI", 0, 4}, {"", 0, 4}, {"X.4.4|9=", 0, 12}, {"5", 0, 13}, {"|35=D", 0, 18}, {"|10=18", 0, 24}, {"3", 0, 25}, {"|8", 1, 1}, {"=FIX.4.4|9=5|35=D|10=183|", 2, 0}, {"8=FIX.4.4|9=5|35=D|10=183|8=FIX.4.4|9=5|35=D|10=183|8=FIX.4.5", 4, 0}, {"8=8=FIX", 4, 5}, {"8", 4, 1}, {"=FIX.4.4|9=1|", 4, 14}, {"8=FIX.4", 4, 21}, {".4|9=5|35=D|10=183|", 5, 0},
	} {
		r.take(bar(c.piece))
		if len(r.got) != c.frames || len(r.kept) != c.kept {
			t.Errorf("after %q: %d frames, %d bytes kept, want %d, %d", c.piece, len(r.got), len(r.kept), c.frames, c.kept)
		}
	}
}

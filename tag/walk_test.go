package tag

import (
	"fmt"
	"math/rand"
	"slices"
	"strings"
	"testing"

	"bulwark/api"
)

// pick draws one of these.
func pick[T any](r *rand.Rand, from ...T) T { return from[r.Intn(len(from))] }

// drawnFields are fields that may be a frame's, or not.
func drawnFields(r *rand.Rand) []api.Field {
	fields := []api.Field{{Tag: 35, Val: "D"}}
	for range r.Intn(5) {
		val := pick(r, "7", "a=b", "8=FIX.4.4", "10=186", "\xff\x00", "x", strings.Repeat("long", r.Intn(40)))
		fields = append(fields, api.Field{Tag: 1 + r.Intn(120), Val: val})
	}
	at := r.Intn(len(fields))
	switch r.Intn(12) {
	case 0:
		fields[at].Tag = pick(r, -1, 0, 1, 7, 8, 9, 10, 11, 9999, 10000)
	case 1:
		fields[at].Val = pick(r, "", "\x01", "a\x01b", "\x01a", "a\x01")
	case 2:
		fields[at].Val = strings.Repeat("v", 4060+r.Intn(60))
	case 3:
		return fields[1:]
	}
	return fields
}

// TestWalkEncode is P7.1, P7.2 and P7.4 for fields that are drawn.
func TestWalkEncode(t *testing.T) {
	r := rand.New(rand.NewSource(1))
	seen := map[api.Errno]int{}
	for range 20000 {
		fields := drawnFields(r)
		want := validity(fields)
		seen[want]++
		checkValid(t, "drawn", fields, want)
		if want != api.OK {
			continue
		}
		b, _ := Encode(fields)
		if got := answerOf(string(b) + pick(r, "", "x", string(b))); got != (answer{said(fields), len(b), api.OK}) {
			t.Fatalf("Decode of %q: %v", b, got)
		}
		changed := slices.Clone(b)
		changed[r.Intn(len(b))] ^= byte(1 + r.Intn(255))
		if got := answerOf(string(changed)); got.e == api.OK && got.n == len(b) {
			t.Fatalf("Decode of %q, of which a byte was changed: %v", b, got)
		}
	}
	for _, e := range []api.Errno{api.OK, api.ErrForm, api.ErrLong} {
		if seen[e] < 500 {
			t.Errorf("error %d only %d times", e, seen[e])
		}
	}
}

// drawnBody is the body of a frame, or almost.
func drawnBody(r *rand.Rand) string {
	body := bar(pick(r, "35=D|", "35=D|", "35=D|11=7|", "35=D|58=8=FIX.4.4|", "35=D|58=8=F|", "36=D|"))
	for range r.Intn(3) {
		body += bar(pick(r, "11=7|", "1=2|", "44=-5|", "9999=a=b|", "8=7|", "011=7|", "11=|", "x=7|", "|", "11", "10000=7|"))
	}
	return body
}

// damaged is s with something changed.
func damaged(r *rand.Rand, s string) string {
	if s == "" {
		return s
	}
	at := r.Intn(len(s))
	switch r.Intn(5) {
	case 0:
		return s[:at] + s[at+1:]
	case 1:
		return s[:at] + pick(r, "8", "=", "\x01", "0", "9", "x") + s[at:]
	case 2:
		return s[:at]
	case 3:
		return s[at:]
	}
	b := []byte(s)
	b[at] = pick(r, '8', '=', '\x01', '0', '9', 'x', byte(r.Intn(256)))
	return string(b)
}

// stream is bytes with frames, good and others, and what is none.
func stream(r *rand.Rand) string {
	s := ""
	for range 1 + r.Intn(7) {
		switch r.Intn(8) {
		case 0:
			s += bar(pick(r, "x", "8", "8=", "8=FIX.4.4", "8=FIX.4.4|", "8=FIX.4.4|9=", "8=FIX.4.4|9=5", "8=FIX.4.4|9=5|", "8=FIX.4.4|9=40|", "|", "10=000|", "9=5|", "88=FIX"))
		case 1:
			s += damaged(r, framed(drawnBody(r)))
		case 2:
			s += framed(drawnBody(r))[:20] + framed(drawnBody(r))
		case 3:
			body := drawnBody(r)
			s += fmt.Sprintf("8=FIX.4.4\x019=%d\x01%s10=%03d\x01", len(body), body, r.Intn(300))
		default:
			s += framed(drawnBody(r))
		}
	}
	return s
}

// checkAll holds all calls against the model for these bytes, and what is decoded against Encode.
func checkAll(t *testing.T, s string, seen map[api.Errno]int) {
	t.Helper()
	want := decoded(s)
	seen[want.e]++
	if got := answerOf(s); got != want {
		t.Fatalf("Decode of %q: %v, want %v", s, got, want)
	}
	checkFrames(t, s)
	for rest := []byte(s); ; {
		fields, n, e := Decode(rest)
		if e == api.ErrShort {
			return
		}
		if e == api.OK {
			if again, f := Encode(fields); string(again) != string(rest[:n]) || f != api.OK {
				t.Fatalf("Encode of what was decoded from %q: %q, error %d", rest[:n], again, f)
			}
		} else if fields != nil {
			t.Fatalf("fields beside error %d: %v", e, fields)
		}
		rest = rest[n:]
	}
}

// TestWalkDecode is P7.1 and P7.2 for bytes that are drawn.
func TestWalkDecode(t *testing.T) {
	r := rand.New(rand.NewSource(2))
	seen := map[api.Errno]int{}
	for range 40000 {
		s := stream(r)
		if r.Intn(3) == 0 {
			s = damaged(r, s)
		}
		checkAll(t, s, seen)
	}
	for _, e := range []api.Errno{api.OK, api.ErrShort, api.ErrForm, api.ErrSum} {
		if seen[e] < 1000 {
			t.Errorf("error %d only %d times", e, seen[e])
		}
	}
}

// TestAllShortSequences is P7.1 for every sequence of up to four parts of frames.
func TestAllShortSequences(t *testing.T) {
	parts := []string{"8", "=FIX.4.4|", "8=FIX.4.4|", "9=5|", "9=", "1", "5|", "35=D|", "10=183|", "10=184|", "|", "x", "8=FIX.4.4|9=5|35=D|10=183|", "8=FIX.4.4|9=5|36=D|10=184|"}
	seen := map[api.Errno]int{}
	var walk func(s string, left int)
	walk = func(s string, left int) {
		checkAll(t, s, seen)
		if left == 0 {
			return
		}
		for _, part := range parts {
			walk(s+bar(part), left-1)
		}
	}
	walk("", 4)
	for _, e := range []api.Errno{api.OK, api.ErrShort, api.ErrForm, api.ErrSum} {
		if seen[e] < 1 {
			t.Errorf("error %d never", e)
		}
	}
}

// TestNoise is P7.1 and rule 1 for bytes of any kind.
func TestNoise(t *testing.T) {
	r := rand.New(rand.NewSource(4))
	for range 3000 {
		b := make([]byte, r.Intn(200))
		r.Read(b)
		for i := range b {
			if r.Intn(2) == 0 {
				b[i] = "8=FIX.49\x01"[r.Intn(9)]
			}
		}
		checkAll(t, string(b), map[api.Errno]int{})
		checkAll(t, bar("8=FIX.4.4|9=")+string(b), map[api.Errno]int{})
	}
}

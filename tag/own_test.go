package tag

import (
	"slices"
	"strings"
	"testing"

	"bulwark/api"
)

// scribble overwrites all bytes of b, with the spare capacity behind them.
func scribble(b []byte) {
	b = b[:cap(b)]
	for i := range b {
		b[i] = '#'
	}
}

// scribbleFields overwrites all fields, with the spare capacity behind them.
func scribbleFields(fields []api.Field) {
	fields = fields[:cap(fields)]
	for i := range fields {
		fields[i] = api.Field{Tag: -9, Val: "#"}
	}
}

// roomy is s as bytes with spare capacity behind them, and all of that.
func roomy(s string) (b, whole []byte) {
	whole = []byte(s + framed("35=X\x01") + "spare capacity")
	return whole[:len(s)], whole
}

// TestFieldsOfEncode is P7.5 for the argument of Encode and Valid, with and without an error.
func TestFieldsOfEncode(t *testing.T) {
	for _, fields := range [][]api.Field{fieldsFrom("35=D"), fieldsFrom("35=D", "11=7"), long(4096, 3), nil, fieldsFrom("11=7"), fieldsFrom("35=D", "8=7", "11=x"), long(4097, 3)} {
		whole := append(slices.Clone(fields), fieldsFrom("35=S", "58=spare")...)
		before, arg := slices.Clone(whole), whole[:len(fields)]
		want := validity(fields)
		first, e := Encode(arg)
		second, _ := Encode(arg)
		third, _ := Encode(arg)
		if f := Valid(arg); f != want || e != want || !slices.Equal(whole, before) {
			t.Errorf("errors %d and %d, want %d; the argument is %.100q", f, e, want, said(whole))
		}
		told := string(first)
		scribble(first)
		_ = append(second, "more bytes behind"...)
		if string(second) != told || string(third) != told || !slices.Equal(whole, before) {
			t.Errorf("scribbled: %.100q and %.100q, want %.100q", second, third, told)
		}
		scribbleFields(whole)
		if string(third) != told {
			t.Errorf("the frame %.100q has become %.100q", told, third)
		}
	}
}

// TestBytesOfDecode is P7.5 for Decode: the argument stays, and what was returned stays too, whatever becomes of the argument and of other results.
func TestBytesOfDecode(t *testing.T) {
	for _, s := range append(frames(), streams()...) {
		b, whole := roomy(s)
		before, want := string(whole), decoded(s)
		first, n, e := Decode(b)
		second, _, _ := Decode(b)
		third, _, _ := Decode(b)
		if string(whole) != before || (answer{said(first), n, e}) != want {
			t.Fatalf("Decode of %.100q: %v, %d, error %d; the argument is %.100q", s, first, n, e, whole)
		}
		scribbleFields(first)
		_ = append(second, fieldsFrom("35=X")...)
		if string(whole) != before || said(second) != want.fields || said(third) != want.fields {
			t.Errorf("%.100q, scribbled: %v and %v", s, second, third)
		}
		scribble(whole)
		if said(second) != want.fields || said(third) != want.fields {
			t.Errorf("%.100q: the fields have become %v and %v", s, second, third)
		}
	}
}

// TestBytesOfFrames is P7.5 for Frames: changes to its argument, ahead of an iteration, during it and after it, are not seen.
func TestBytesOfFrames(t *testing.T) {
	for _, s := range streams() {
		b, whole := roomy(s)
		before := string(whole)
		want, _ := visited(s)
		seq := Frames(b)
		if got := some(seq, -1); !slices.Equal(got, want) || string(whole) != before {
			t.Fatalf("Frames of %.100q: %v; the argument is %.100q", s, got, whole)
		}
		var kept [][]api.Field
		for fields, e := range seq {
			if got := (yielded{said(fields), e}); got != want[len(kept)] {
				t.Errorf("%.100q, changed after %d results: %v, want %v", s, len(kept), got, want[len(kept)])
			}
			kept = append(kept, fields)
			scribble(whole)
		}
		copy(whole, strings.Repeat(framed("35=Y\x01"), 1+len(whole)/26))
		if got := some(seq, -1); !slices.Equal(got, want) {
			t.Errorf("%.100q, changed: %v, want %v", s, got, want)
		}
		for i, fields := range kept {
			if said(fields) != want[i].fields {
				t.Errorf("%.100q: result %d has become %v", s, i, fields)
			}
		}
	}
}

// TestResultsOfFrames is P7.5 and rule 3: results of one iteration, and of several, share nothing.
func TestResultsOfFrames(t *testing.T) {
	for _, s := range streams() {
		want, _ := visited(s)
		seq := Frames([]byte(s))
		var first, second [][]api.Field
		for fields := range seq {
			first = append(first, fields)
		}
		for fields := range seq {
			second = append(second, fields)
		}
		for i, fields := range first {
			_ = append(fields, fieldsFrom("35=X", "11=x")...)
			scribbleFields(fields)
			for j := i + 1; j < len(first); j++ {
				if j < i+5 && said(first[j]) != want[j].fields {
					t.Errorf("%.100q: result %d was changed with result %d: %v", s, j, i, first[j])
				}
			}
			if said(second[i]) != want[i].fields {
				t.Errorf("%.100q: result %d of the second iteration was changed: %v", s, i, second[i])
			}
		}
		if got := some(seq, -1); !slices.Equal(got, want) {
			t.Errorf("%.100q, results scribbled: %v", s, got)
		}
	}
}

// TestBytesOfRest is P7.5 for Rest.
func TestBytesOfRest(t *testing.T) {
	for _, s := range streams() {
		b, whole := roomy(s)
		before := string(whole)
		_, want := visited(s)
		if got := Rest(b); got != want || string(whole) != before {
			t.Errorf("Rest of %.100q: %d, want %d; the argument is %.100q", s, got, want, whole)
		}
	}
}

// TestSpareCapacityIsNotRead is P7.1 with rule 3: what stands in the spare capacity is no part of the argument.
func TestSpareCapacityIsNotRead(t *testing.T) {
	frame := framed(bar("35=D|11=7|"))
	for n := range frame {
		b := []byte(frame + frame)[:n]
		if got, k, e := Decode(b); got != nil || k != 0 || e != api.ErrShort || Rest(b) != n {
			t.Errorf("%d bytes: %v, %d, error %d, rest %d", n, got, k, e, Rest(b))
		}
	}
	b := []byte("xyz" + frame)[:3]
	if _, n, e := Decode(b); n != 3 || e != api.ErrForm {
		t.Errorf("a header in the spare capacity: %d, error %d", n, e)
	}
	fields := fieldsFrom("35=D", "10=7")[:1]
	if e := Valid(fields); e != api.OK {
		t.Errorf("a field in the spare capacity: error %d", e)
	}
}

// TestCallsAreIndependent is rule 4: a call answers the same whatever was called ahead of it.
func TestCallsAreIndependent(t *testing.T) {
	frame := framed(bar("35=D|11=7|"))
	want := decoded(frame)
	for _, s := range append(streams(), frames()...) {
		Decode([]byte(s))
		Rest([]byte(s))
		framesOf(s)
		Encode(long(5000, 2))
		if got := answerOf(frame); got != want {
			t.Fatalf("after %.100q: %v, want %v", s, got, want)
		}
	}
}

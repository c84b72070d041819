package tag

import (
	"math"
	"strings"
	"testing"

	"bulwark/api"
)

// fieldsFrom are fields by their texts, such as 35=D.
func fieldsFrom(texts ...string) []api.Field {
	var fields []api.Field
	for _, text := range texts {
		head, val, _ := strings.Cut(text, "=")
		n := 0
		for _, c := range head {
			n = 10*n + int(c-'0')
		}
		fields = append(fields, api.Field{Tag: n, Val: val})
	}
	return fields
}

// TestEncode is P7.1 for Encode and Valid, and P7.2 for Decode, by frames whose checksums were worked out apart from the program.
func TestEncode(t *testing.T) {
	for _, c := range []struct {
		fields []api.Field
		want   string
	}{
		{fieldsFrom("35=D", "11=7"), "8=FIX.4.4|9=10|35=D|11=7|10=186|"},
		{fieldsFrom("35=D"), "8=FIX.4.4|9=5|35=D|10=183|"},
		{fieldsFrom("35=E"), "8=FIX.4.4|9=5|35=E|10=184|"},
		{fieldsFrom("35=A", "1=-1"), "8=FIX.4.4|9=10|35=A|1=-1|10=173|"},
		{fieldsFrom("35=D", "1=2", "11=1", "55=0", "38=51", "44=100"), "8=FIX.4.4|9=32|35=D|1=2|11=1|55=0|38=51|44=100|10=119|"},
		{fieldsFrom("35=D", "35=D"), "8=FIX.4.4|9=10|35=D|35=D|10=205|"},
		{fieldsFrom("35=D", "1=x", "7=y", "11=z", "9999=a=b"), "8=FIX.4.4|9=27|35=D|1=x|7=y|11=z|9999=a=b|10=252|"},
		{fieldsFrom("35=D", "58=\x00\x02\x7f\x80\xc3\xa9\xff"), "8=FIX.4.4|9=16|35=D|58=\x00\x02\x7f\x80\xc3\xa9\xff|10=000|"},
		{fieldsFrom("35=D", "58=8=FIX.4.4"), "8=FIX.4.4|9=18|35=D|58=8=FIX.4.4|10=182|"},
		{fieldsFrom("35==="), "8=FIX.4.4|9=6|35===|10=238|"},
		{fieldsFrom("35=="), "8=FIX.4.4|9=5|35==|10=176|"},
		{fieldsFrom("35=D", "38=99"), "8=FIX.4.4|9=11|35=D|38=99|10=255|"},
	} {
		want := bar(c.want)
		if got, e := Encode(c.fields); string(got) != want || e != api.OK {
			t.Errorf("Encode of %s: %q, error %d, want %q", said(c.fields), got, e, want)
		}
		if e := Valid(c.fields); e != api.OK {
			t.Errorf("Valid of %s: error %d", said(c.fields), e)
		}
		if got := framed(spelled(c.fields)); got != want {
			t.Errorf("the model's frame of %s: %q, want %q", said(c.fields), got, want)
		}
		checkDecode(t, "a frame", want, answer{said(c.fields), len(want), api.OK})
	}
}

// checkValid holds Valid and Encode against the error wanted, and the model too.
func checkValid(t *testing.T, name string, fields []api.Field, want api.Errno) {
	t.Helper()
	if e := Valid(fields); e != want {
		t.Errorf("%s: Valid: error %d, want %d", name, e, want)
	}
	frame := ""
	if want == api.OK {
		frame = framed(spelled(fields))
	}
	if got, e := Encode(fields); string(got) != frame || e != want {
		t.Errorf("%s: Encode: %.80q, error %d, want %.80q, error %d", name, got, e, frame, want)
	}
	if e := validity(fields); e != want {
		t.Errorf("%s: the model's Valid: error %d, want %d", name, e, want)
	}
}

// TestValidTags is P7.1 for tags at each place of one to three fields.
func TestValidTags(t *testing.T) {
	for _, c := range []struct {
		tag  int
		want api.Errno
	}{
		{1, api.OK}, {2, api.OK}, {6, api.OK}, {7, api.OK}, {11, api.OK}, {12, api.OK}, {35, api.OK}, {99, api.OK}, {100, api.OK}, {999, api.OK}, {1000, api.OK}, {9998, api.OK}, {9999, api.OK},
		{0, api.ErrForm}, {8, api.ErrForm}, {9, api.ErrForm}, {10, api.ErrForm}, {10000, api.ErrForm}, {10001, api.ErrForm}, {65536 + 11, api.ErrForm}, {1<<32 + 11, api.ErrForm}, {math.MaxInt, api.ErrForm},
		{-1, api.ErrForm}, {-7, api.ErrForm}, {-8, api.ErrForm}, {-9, api.ErrForm}, {-10, api.ErrForm}, {-11, api.ErrForm}, {-35, api.ErrForm}, {-9999, api.ErrForm}, {math.MinInt, api.ErrForm},
	} {
		f, x, y := api.Field{Tag: c.tag, Val: "v"}, api.Field{Tag: 35, Val: "D"}, api.Field{Tag: 44, Val: "5"}
		for _, fields := range [][]api.Field{{x, f}, {x, f, y}, {x, y, f}, {x, f, f}} {
			checkValid(t, said(fields), fields, c.want)
		}
		first := api.ErrForm
		if c.tag == 35 {
			first = api.OK
		}
		for _, fields := range [][]api.Field{{f}, {f, y}, {f, x}, {f, f}} {
			checkValid(t, said(fields), fields, first)
		}
	}
	for n := -20; n < 10020; n++ {
		fields := []api.Field{{Tag: 35, Val: "D"}, {Tag: n, Val: "1"}}
		if got, want := Valid(fields), validity(fields); got != want {
			t.Errorf("tag %d: error %d, want %d", n, got, want)
		}
	}
}

// TestValidValues is P7.1 for values, of the first field, of one between and of the last one.
func TestValidValues(t *testing.T) {
	var every strings.Builder
	for c := range 256 {
		if c != 1 {
			every.WriteByte(byte(c))
		}
	}
	for _, c := range []struct {
		val  string
		want api.Errno
	}{
		{"D", api.OK}, {"=", api.OK}, {"==", api.OK}, {"=a", api.OK}, {"a=", api.OK}, {"a=b=c", api.OK}, {"35=D", api.OK}, {" ", api.OK}, {"|", api.OK}, {"\x00", api.OK}, {"\x02", api.OK}, {"\x80", api.OK}, {"\x81", api.OK}, {"\xff\xfe", api.OK}, {"\xc3\xa9", api.OK}, {"\u0101", api.OK}, {"\U0001f600", api.OK}, {"8=FIX.4.4", api.OK}, {"10=186", api.OK}, {"\n", api.OK}, {every.String(), api.OK},
		{"", api.ErrForm}, {"\x01", api.ErrForm}, {"\x01\x01", api.ErrForm}, {"\x01a", api.ErrForm}, {"a\x01", api.ErrForm}, {"a\x01b", api.ErrForm}, {"a\x01b=c", api.ErrForm}, {"\x80\x01\x80", api.ErrForm}, {strings.Repeat("a", 300) + "\x01" + strings.Repeat("a", 300), api.ErrForm}, {"8=FIX.4.4\x01", api.ErrForm},
	} {
		x, y := api.Field{Tag: 35, Val: "D"}, api.Field{Tag: 44, Val: "5"}
		for _, fields := range [][]api.Field{{{Tag: 35, Val: c.val}}, {{Tag: 35, Val: c.val}, y}, {x, {Tag: 58, Val: c.val}, y}, {x, {Tag: 58, Val: c.val}}, {x, y, y, {Tag: 9999, Val: c.val}}} {
			checkValid(t, said(fields), fields, c.want)
		}
	}
	for c := range 256 {
		fields := []api.Field{{Tag: 35, Val: "D"}, {Tag: 58, Val: "a" + string([]byte{byte(c)}) + "b"}}
		checkValid(t, said(fields), fields, validity(fields))
	}
}

// TestNoFields is P7.1 for no fields.
func TestNoFields(t *testing.T) {
	checkValid(t, "nil", nil, api.ErrForm)
	checkValid(t, "empty", []api.Field{}, api.ErrForm)
	checkValid(t, "empty with capacity", fieldsFrom("35=D")[:0], api.ErrForm)
	checkValid(t, "a zero field", []api.Field{{}}, api.ErrForm)
}

// long are fields whose body has this many bytes, of so many fields of equal length behind the first one; the last one makes up what lacks.
func long(size, many int) []api.Field {
	fields := []api.Field{{Tag: 35, Val: "D"}}
	for len(fields) <= many {
		fields = append(fields, api.Field{Tag: 100 + len(fields), Val: "v"})
	}
	lack := size - len(spelled(fields))
	fields[many].Val += strings.Repeat("w", lack)
	return fields
}

// TestLong is P7.1 for bodies about MaxFrame bytes.
func TestLong(t *testing.T) {
	for _, many := range []int{0, 1, 2, 7, 500} {
		for _, c := range []struct {
			size int
			want api.Errno
		}{
			{4000, api.OK}, {4095, api.OK}, {4096, api.OK}, {4097, api.ErrLong}, {4098, api.ErrLong}, {5000, api.ErrLong}, {8192, api.ErrLong}, {4096 + 65536, api.ErrLong}, {1 << 20, api.ErrLong},
		} {
			fields := long(c.size, many)
			if got := len(spelled(fields)); got != c.size {
				t.Fatalf("the test's own body has %d bytes, not %d", got, c.size)
			}
			checkValid(t, "a long body", fields, c.want)
		}
	}
	// One tag with a digit more, one field more, one byte of several more.
	checkValid(t, "of 4096", append(long(4086, 3), fieldsFrom("999=12345")...), api.OK)
	checkValid(t, "of 4097 by a digit of a tag", append(long(4086, 3), fieldsFrom("1000=12345")...), api.ErrLong)
	checkValid(t, "of 4100 by a field", append(long(4096, 3), fieldsFrom("1=a")...), api.ErrLong)
	checkValid(t, "of 4098 by a letter of several bytes", append(long(4086, 3), fieldsFrom("999=1234\u0434\u0434")...), api.ErrLong)
}

// TestFormBeforeLong is P7.1 for bodies that are too long, of fields that can't be a frame's either.
func TestFormBeforeLong(t *testing.T) {
	for _, many := range []int{0, 1, 7} {
		for _, size := range []int{4097, 5000, 1 << 17} {
			at := func(change func(fields []api.Field)) []api.Field {
				fields := long(size, many)
				change(fields)
				return fields
			}
			checkValid(t, "another first tag", at(func(f []api.Field) { f[0].Tag = 36 }), api.ErrForm)
			checkValid(t, "a last tag of 10", at(func(f []api.Field) { f[many].Tag = 10 }), api.ErrForm)
			checkValid(t, "a last tag of 10000", at(func(f []api.Field) { f[many].Tag = 10000 }), api.ErrForm)
			checkValid(t, "01 at the end", at(func(f []api.Field) { f[many].Val += "\x01" }), api.ErrForm)
			checkValid(t, "01 at the beginning", at(func(f []api.Field) { f[many].Val = "\x01" + f[many].Val }), api.ErrForm)
			checkValid(t, "an empty value behind", append(long(size, many), api.Field{Tag: 11}), api.ErrForm)
			checkValid(t, "a tag of 0 behind", append(long(size, many), api.Field{Val: "a"}), api.ErrForm)
			checkValid(t, "an empty value in front", append([]api.Field{{Tag: 35}}, long(size, many)...), api.ErrForm)
		}
	}
}

// TestEachLength is P7.1 and P7.2 for bodies of all lengths.
func TestEachLength(t *testing.T) {
	for size := 5; size <= api.MaxFrame; size++ {
		fields := long(size, 0)
		b, e := Encode(fields)
		if string(b) != framed(spelled(fields)) || e != api.OK {
			t.Fatalf("%d: %q, error %d", size, b, e)
		}
		if got := answerOf(string(b) + "x"); got != (answer{said(fields), len(b), api.OK}) {
			t.Fatalf("%d: %v", size, got)
		}
	}
}

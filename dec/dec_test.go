package dec

import (
	"math"
	"math/big"
	"regexp"
	"strconv"
	"strings"
	"testing"

	"bulwark/api"
)

const (
	most  = 1 << 62
	least = -most
)

// read is what Parse answers, written what Format does.
type (
	read struct {
		x int
		e api.Errno
	}
	written struct {
		text string
		e    api.Errno
	}
)

func parsed(text string, places int) read {
	x, e := Parse(text, places)
	return read{x, e}
}

func formatted(x int, places int) written {
	text, e := Format(x, places)
	return written{text, e}
}

// brief cuts a text that is too long to be told whole.
func brief(text string) string {
	if len(text) > 60 {
		return strconv.Quote(text[:30]) + ".." + strconv.Quote(text[len(text)-30:])
	}
	return strconv.Quote(text)
}

// edges are the amounts at which a text may turn: nought, where a digit more is needed, and the limits, each with its neighbours and its opposite.
func edges() []int {
	xs := []int{0, 5, -5, 12345, -12345, 1500, most / 3, most - 1, most, least + 1, least}
	x := 1
	for range 19 {
		xs = append(xs, x-1, x, x+1, 1-x, -x, -x-1)
		x *= 10
	}
	return xs
}

func TestFormat(t *testing.T) {
	for _, c := range []struct {
		x, places int
		want      string
	}{
		{7, 0, "7"},
		{-7, 0, "-7"},
		{10, 0, "10"},
		{1200, 0, "1200"},
		{12345, 1, "1234.5"},
		{12345, 2, "123.45"},
		{12345, 4, "1.2345"},
		{12345, 5, "0.12345"},
		{12345, 6, "0.012345"},
		{12345, 9, "0.000012345"},
		{-12345, 4, "-1.2345"},
		{-12345, 5, "-0.12345"},
		{-5, 2, "-0.05"},
		{5, 1, "0.5"},
		{-1, 9, "-0.000000001"},
		{1, 9, "0.000000001"},
		{1500, 3, "1.500"},
		{1500, 2, "15.00"},
		{-1000, 3, "-1.000"},
		{999999999, 9, "0.999999999"},
		{1000000000, 9, "1.000000000"},
		{most, 0, "4611686018427387904"},
		{most, 1, "461168601842738790.4"},
		{most, 9, "4611686018.427387904"},
		{most - 1, 0, "4611686018427387903"},
		{most - 1, 9, "4611686018.427387903"},
		{least, 0, "-4611686018427387904"},
		{least, 9, "-4611686018.427387904"},
		{least + 1, 2, "-46116860184273879.03"},
	} {
		if have := formatted(c.x, c.places); have != (written{c.want, api.OK}) {
			t.Errorf("Format(%d, %d): %v, not %q", c.x, c.places, have, c.want)
		}
		if have := parsed(c.want, c.places); have != (read{c.x, api.OK}) {
			t.Errorf("Parse(%q, %d): %v, not %d", c.want, c.places, have, c.x)
		}
	}
}

// TestNought: 0 has no sign, and as many zeros behind the point as there are places.
func TestNought(t *testing.T) {
	for places, want := range []string{
		"0", "0.0", "0.00", "0.000", "0.0000", "0.00000", "0.000000", "0.0000000", "0.00000000", "0.000000000",
	} {
		if have := formatted(0, places); have != (written{want, api.OK}) {
			t.Errorf("Format(0, %d): %v, not %q", places, have, want)
		}
		for _, text := range []string{"0", want} {
			if have := parsed(text, places); have != (read{0, api.OK}) {
				t.Errorf("Parse(%q, %d): %v, not 0", text, places, have)
			}
			if have := parsed("-"+text, places); have != (read{0, api.ErrForm}) {
				t.Errorf("Parse(%q, %d): %v, not ErrForm", "-"+text, places, have)
			}
		}
	}
}

// TestFormatErrors: ErrArg stands ahead of ErrOver, and beside each of them the text is empty.
func TestFormatErrors(t *testing.T) {
	for _, c := range []struct {
		x, places int
		want      api.Errno
	}{
		{1, -1, api.ErrArg},
		{1, 10, api.ErrArg},
		{0, 10, api.ErrArg},
		{1, math.MinInt, api.ErrArg},
		{1, math.MaxInt, api.ErrArg},
		{most, 10, api.ErrArg},
		{most + 1, -1, api.ErrArg},
		{least - 1, 10, api.ErrArg},
		{math.MinInt, math.MinInt, api.ErrArg},
		{most + 1, 0, api.ErrOver},
		{most + 1, 9, api.ErrOver},
		{least - 1, 0, api.ErrOver},
		{least - 1, 9, api.ErrOver},
		{math.MaxInt, 2, api.ErrOver},
		{math.MinInt, 2, api.ErrOver},
		{math.MinInt, 0, api.ErrOver},
	} {
		if have := formatted(c.x, c.places); have != (written{"", c.want}) {
			t.Errorf("Format(%d, %d): %v, not %d", c.x, c.places, have, c.want)
		}
	}
}

// TestParse: the zeros that lack behind the point are made up for.
func TestParse(t *testing.T) {
	for _, c := range []struct {
		text         string
		places, want int
	}{
		{"1", 0, 1},
		{"1", 1, 10},
		{"1", 9, 1000000000},
		{"-1", 0, -1},
		{"-1", 3, -1000},
		{"1.5", 1, 15},
		{"1.5", 3, 1500},
		{"1.50", 3, 1500},
		{"1.500", 3, 1500},
		{"-0.05", 2, -5},
		{"-0.05", 9, -50000000},
		{"0.5", 9, 500000000},
		{"0.000000001", 9, 1},
		{"-0.000000001", 9, -1},
		{"0.123456789", 9, 123456789},
		{"10", 0, 10},
		{"10.01", 2, 1001},
		{"100200300", 0, 100200300},
		{"9876543210", 0, 9876543210},
		{"9876543210", 2, 987654321000},
	} {
		if have := parsed(c.text, c.places); have != (read{c.want, api.OK}) {
			t.Errorf("Parse(%q, %d): %v, not %d", c.text, c.places, have, c.want)
		}
	}
}

// TestParseLimit: texts whose value just is an amount, and just is none, or would be one after wrapping round.
func TestParseLimit(t *testing.T) {
	fits := func(x int) read { return read{x, api.OK} }
	over := read{0, api.ErrOver}
	for _, c := range []struct {
		text   string
		places int
		want   read
	}{
		{"4611686018427387903", 0, fits(most - 1)},
		{"4611686018427387904", 0, fits(most)},
		{"4611686018427387905", 0, over},
		{"-4611686018427387903", 0, fits(least + 1)},
		{"-4611686018427387904", 0, fits(least)},
		{"-4611686018427387905", 0, over},
		{"4611686018427387910", 0, over},
		{"461168601842738790.4", 1, fits(most)},
		{"461168601842738790.5", 1, over},
		{"461168601842738790", 1, fits(most - 4)},
		{"461168601842738791", 1, over},
		{"4611686018.427387904", 9, fits(most)},
		{"4611686018.427387905", 9, over},
		{"4611686018.42738790", 9, fits(most - 4)},
		{"4611686018.42738791", 9, over},
		{"4611686018", 9, fits(4611686018000000000)},
		{"4611686019", 9, over},
		{"-4611686018.427387904", 9, fits(least)},
		{"-4611686018.427387905", 9, over},
		{"-4611686018", 9, fits(-4611686018000000000)},
		{"-4611686019", 9, over},
		{"9223372036854775807", 0, over},
		{"9223372036854775808", 0, over},
		{"-9223372036854775808", 0, over},
		{"-9223372036854775809", 0, over},
		{"18446744073709551615", 0, over},
		{"18446744073709551616", 0, over}, // 2^64 would wrap to 0
		{"18446744073709551617", 0, over},
		{"-18446744073709551617", 0, over},
		{"18446744073.709551617", 9, over},
		{"36893488147419103233", 0, over},
		{"340282366920938463463374607431768211457", 0, over},
		{"10000000000000000000", 0, over},
		{"1000000000000000000", 0, fits(1000000000000000000)},
		{"1000000000000000000", 1, over},
		{"9999999999", 9, over},
	} {
		if have := parsed(c.text, c.places); have != c.want {
			t.Errorf("Parse(%q, %d): %v, not %v", c.text, c.places, have, c.want)
		}
	}
}

// TestPlacesTaken: as many digits behind the point as there are places are valid, one more is not.
func TestPlacesTaken(t *testing.T) {
	for places := range 10 {
		for digits := 1; digits <= 12; digits++ {
			for _, last := range []string{"0", "1"} {
				text := "3." + strings.Repeat("0", digits-1) + last
				want := api.OK
				if digits > places {
					want = api.ErrForm
				}
				if have := parsed(text, places); have.e != want {
					t.Errorf("Parse(%q, %d): %v, not %d", text, places, have, want)
				}
				if have := parsed("-"+text, places); have.e != want {
					t.Errorf("Parse(%q, %d): %v, not %d", "-"+text, places, have, want)
				}
			}
		}
	}
}

// TestNotValid: texts that no number of places makes valid.
func TestNotValid(t *testing.T) {
	for _, text := range []string{
		"", "-", ".", "-.", "--", "..",
		"1.", "-1.", "0.", ".5", "-.5", ".", "4611686018427387905.",
		"1..5", "1.5.", ".1.5", "1.5.5", "1.2.3", "-1..5",
		"01", "00", "-01", "00.5", "-00.5", "000", "01.5", "0123456789",
		"-0", "-0.0", "-0.000", "-0.000000000",
		"+1", "+", "+0", "+-1", "-+1", "--1", "1-", "1-1", "1.-5", "-1.-5", "1.+5",
		"a", "1a", "a1", "1.a", "1.5a", "1e3", "1E3", "0x10", "0b1", "1_000", "1,000", "1,5", "inf", "NaN", "nil",
		" ", " 1", "1 ", "- 1", "1 .5", "1. 5", "\t1", "1\n", "1\r\n", "\n", "1.5\n",
		"\x00", "1\x00", "\x001", "1.\x00",
		"/", ":", "1/", "1:", "1.5/", "1.5:",
		"\u0661", "1\u0662", "1.\u0665", "\uff11", "1\u00bd", "\u2212" + "1", "1\u00b7" + "5", "1\uff0e5", "\ufeff1",
		"\xff", "1\xff", "1.\xb9", "\x801", "1\xc2",
	} {
		for places := range 10 {
			if have := parsed(text, places); have != (read{0, api.ErrForm}) {
				t.Errorf("Parse(%q, %d): %v, not ErrForm", text, places, have)
			}
		}
	}
}

// TestEachByte: of all bytes, alone and in each place of a valid text, only digits may stand, and a - or a point where the form has them.
func TestEachByte(t *testing.T) {
	for b := range 256 {
		c := string([]byte{byte(b)})
		digit := '0' <= b && b <= '9'
		for _, place := range []struct {
			text  string
			valid bool
		}{
			{c, digit},
			{c + "2", digit && b != '0' || b == '-'},
			{"1" + c, digit},
			{"1" + c + "2", digit || b == '.'},
			{c + "1.2", digit && b != '0' || b == '-'},
			{"1.2" + c, digit},
			{"1." + c + "2", digit},
			{"-" + c, digit && b != '0'},
			{"-" + c + ".5", digit},
			{"-0." + c, digit && b != '0'},
		} {
			if have := parsed(place.text, 3); (have.e == api.OK) != place.valid || !place.valid && have != (read{0, api.ErrForm}) {
				t.Errorf("Parse(%q, 3): %v; valid: %v", place.text, have, place.valid)
			}
		}
	}
}

// TestParseErrors: ErrArg stands ahead of ErrForm, and that ahead of ErrOver.
func TestParseErrors(t *testing.T) {
	for _, c := range []struct {
		text   string
		places int
		want   api.Errno
	}{
		{"1", -1, api.ErrArg},
		{"1", 10, api.ErrArg},
		{"0.0000000001", 10, api.ErrArg},
		{"1", math.MinInt, api.ErrArg},
		{"1", math.MaxInt, api.ErrArg},
		{"", -1, api.ErrArg},
		{"", 10, api.ErrArg},
		{"01", 10, api.ErrArg},
		{"1.5", -1, api.ErrArg},
		{"4611686018427387905", -1, api.ErrArg},
		{"4611686018427387905", 10, api.ErrArg},
		{"4611686018427387905.", 10, api.ErrArg},
		{"4611686018427387905.5", 0, api.ErrForm},
		{"4611686018427387905.55", 1, api.ErrForm},
		{"4611686018427387905x", 0, api.ErrForm},
		{"x4611686018427387905", 0, api.ErrForm},
		{"+4611686018427387905", 0, api.ErrForm},
		{"04611686018427387905", 0, api.ErrForm},
		{"-04611686018427387905", 0, api.ErrForm},
		{"4611686018427387905.", 9, api.ErrForm},
		{"4611686018427387905.5.5", 9, api.ErrForm},
		{"4611686018427387905 ", 0, api.ErrForm},
		{"4611686018427387905.5", 1, api.ErrOver},
		{"99999999999999999999999999999999999999", 9, api.ErrOver},
	} {
		if have := parsed(c.text, c.places); have != (read{0, c.want}) {
			t.Errorf("Parse(%q, %d): %v, not %d", c.text, c.places, have, c.want)
		}
	}
}

// TestLong: texts of very many digits.
func TestLong(t *testing.T) {
	const many = 1 << 20
	nines, noughts := strings.Repeat("9", many), strings.Repeat("0", many)
	for _, c := range []struct {
		text string
		want api.Errno
	}{
		{nines, api.ErrOver},
		{"-" + nines, api.ErrOver},
		{nines + ".5", api.ErrOver},
		{"1" + noughts, api.ErrOver},
		{nines + "x", api.ErrForm},
		{nines + ".", api.ErrForm},
		{nines + "." + nines, api.ErrForm},
		{"0." + noughts, api.ErrForm},
		{"1." + noughts, api.ErrForm},
		{"0." + nines, api.ErrForm},
		{noughts, api.ErrForm},
		{"-" + noughts, api.ErrForm},
		{noughts + "1", api.ErrForm},
		{"0" + nines, api.ErrForm},
		{strings.Repeat("-", many), api.ErrForm},
		{strings.Repeat(".", many), api.ErrForm},
		{strings.Repeat("1.", many), api.ErrForm},
		{strings.Repeat(" ", many) + "1", api.ErrForm},
	} {
		for _, places := range []int{0, 1, 9} {
			want := c.want
			if places == 0 && strings.Contains(c.text, ".") {
				want = api.ErrForm
			}
			if have := parsed(c.text, places); have != (read{0, want}) {
				t.Errorf("Parse(%s, %d): %v, not %d", brief(c.text), places, have, want)
			}
		}
	}
}

// TestChapterExamples: those of chapter 2.
func TestChapterExamples(t *testing.T) {
	for _, c := range []struct {
		x, places int
		want      string
	}{{12345, 2, "123.45"}, {-5, 2, "-0.05"}, {7, 0, "7"}, {0, 3, "0.000"}} {
		if have := formatted(c.x, c.places); have != (written{c.want, api.OK}) {
			t.Errorf("Format(%d, %d): %v", c.x, c.places, have)
		}
	}
	for _, c := range []struct {
		text   string
		places int
		want   read
	}{
		{"1.5", 3, read{1500, api.OK}},
		{"-0.05", 2, read{-5, api.OK}},
		{"1", 0, read{1, api.OK}},
		{"1.", 1, read{0, api.ErrForm}},
		{".5", 1, read{0, api.ErrForm}},
		{"01", 1, read{0, api.ErrForm}},
		{"-0", 1, read{0, api.ErrForm}},
		{"-0.0", 1, read{0, api.ErrForm}},
		{"+1", 1, read{0, api.ErrForm}},
		{"1.55", 1, read{0, api.ErrForm}},
		{"", 1, read{0, api.ErrForm}},
		{"4611686018427387905", 0, read{0, api.ErrOver}},
	} {
		if have := parsed(c.text, c.places); have != c.want {
			t.Errorf("Parse(%q, %d): %v, not %v", c.text, c.places, have, c.want)
		}
	}
}

// signedZeros are the texts of the form in which a - stands before only zeros.
var signedZeros = regexp.MustCompile(`\A-[0.]*\z`)

// forms returns what a text must match, by its number of places.
func forms() []*regexp.Regexp {
	all := []*regexp.Regexp{regexp.MustCompile(`\A-?(0|[1-9][0-9]*)\z`)}
	for places := 1; places <= 9; places++ {
		all = append(all, regexp.MustCompile(`\A-?(0|[1-9][0-9]*)(\.[0-9]{1,`+strconv.Itoa(places)+`})?\z`))
	}
	return all
}

// wanted answers what Parse has to, out of a text's form and its exact fraction.
func wanted(form *regexp.Regexp, text string, places int) read {
	if !form.MatchString(text) || signedZeros.MatchString(text) {
		return read{0, api.ErrForm}
	}
	x, _ := new(big.Rat).SetString(text)
	unit := new(big.Int).Exp(big.NewInt(10), big.NewInt(int64(places)), nil)
	x.Mul(x, new(big.Rat).SetInt(unit))
	if x.Num().CmpAbs(big.NewInt(most)) > 0 {
		return read{0, api.ErrOver}
	}
	return read{int(x.Num().Int64()), api.OK}
}

// checkParse holds Parse against what it has to answer, and what was read against its text.
func checkParse(t *testing.T, all []*regexp.Regexp, text string) {
	t.Helper()
	for places, form := range all {
		want := wanted(form, text, places)
		if have := parsed(text, places); have != want {
			t.Fatalf("Parse(%q, %d): %v, not %v", text, places, have, want)
		}
		if want.e != api.OK {
			continue
		}
		if have := formatted(want.x, places); have != (written{completed(text, places), api.OK}) {
			t.Fatalf("Parse(%q, %d) is formatted as %v", text, places, have)
		}
	}
}

// completed appends the zeros that a valid text lacks behind its point, and the point with them.
func completed(text string, places int) string {
	_, fraction, pointed := strings.Cut(text, ".")
	if !pointed && places > 0 {
		text += "."
	}
	return text + strings.Repeat("0", places-len(fraction))
}

// TestAllShort: every short text of the bytes that matter.
func TestAllShort(t *testing.T) {
	all := forms()
	var visit func(text string)
	visit = func(text string) {
		checkParse(t, all, text)
		if len(text) == 6 {
			return
		}
		for _, c := range "-.+019" {
			visit(text + string(c))
		}
	}
	visit("")
}

// TestTurned: valid texts of all lengths about the limit, and what they become when a byte of them is taken away, doubled or replaced.
func TestTurned(t *testing.T) {
	all := forms()
	for _, x := range edges() {
		for places := range 10 {
			text, _ := Format(x, places)
			checkParse(t, all, text)
			checkParse(t, all, text+"0")
			for i := range text {
				checkParse(t, all, text[:i])
				checkParse(t, all, text[:i]+text[i+1:])
				checkParse(t, all, text[:i]+text[i:i+1]+text[i:])
				for _, c := range "-.059x" {
					checkParse(t, all, text[:i]+string(c)+text[i+1:])
				}
			}
		}
	}
}

// TestInverse: Parse inverts Format for the same places.
func TestInverse(t *testing.T) {
	for _, x := range edges() {
		for places := range 10 {
			text, e := Format(x, places)
			if e != api.OK {
				t.Fatalf("Format(%d, %d): %d", x, places, e)
			}
			if have := parsed(text, places); have != (read{x, api.OK}) {
				t.Errorf("Format(%d, %d) is %q, which is parsed as %v", x, places, text, have)
			}
		}
	}
}

// TestOrder: of texts with the same sign and the same length, the greater one is that of the greater absolute value.
func TestOrder(t *testing.T) {
	pairs := 0
	for places := range 10 {
		for _, x := range edges() {
			for _, y := range edges() {
				if (x < 0) != (y < 0) {
					continue
				}
				a, _ := Format(x, places)
				b, _ := Format(y, places)
				if len(a) != len(b) {
					continue
				}
				pairs++
				below := x < y
				if x < 0 {
					below = y < x
				}
				if (a < b) != below || (a == b) != (x == y) {
					t.Errorf("%q and %q, of %d and %d with %d places", a, b, x, y, places)
				}
			}
		}
	}
	if pairs < 1000 {
		t.Errorf("no more than %d pairs were compared", pairs)
	}
}

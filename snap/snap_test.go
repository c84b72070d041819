package snap

import (
	"bytes"
	"fmt"
	"math"
	"math/rand"
	"strings"
	"testing"

	"bulwark/api"
)

// TestName is P6.1 for Name.
func TestName(t *testing.T) {
	for _, c := range []struct {
		n    int
		want string
	}{
		{0, "s000000000"}, {1, "s000000001"}, {9, "s000000009"}, {10, "s000000010"}, {99, "s000000099"}, {100, "s000000100"}, {65536, "s000065536"}, {99999999, "s099999999"}, {100000000, "s100000000"}, {123456789, "s123456789"}, {999999998, "s999999998"}, {999999999, "s999999999"},
		{-1, ""}, {-9, ""}, {-999999999, ""}, {-1000000000, ""}, {-1000000001, ""}, {1000000000, ""}, {1000000001, ""}, {1999999999, ""}, {9999999999, ""}, {1 << 32, ""}, {1<<32 + 1, ""}, {math.MaxInt, ""}, {math.MinInt, ""},
	} {
		if got := Name(c.n); got != c.want {
			t.Errorf("Name(%d): %q, want %q", c.n, got, c.want)
		}
	}
	for n := 0; n <= 999999999; n += 1 + n/7 {
		if got, want := Name(n), fmt.Sprintf("s%09d", n); got != want {
			t.Errorf("Name(%d): %q, want %q", n, got, want)
		}
	}
}

// TestEncode is P6.1 for Encode, by bytes that were worked out apart from the program. The model is held against them too, since other tests trust it.
func TestEncode(t *testing.T) {
	for _, c := range []struct {
		n          int
		body, want string
	}{
		{0, "", "\x00\x00\x00\x00\x00\x00\x00\x00\x69\xdf\x22\x65"},
		{7, "ab", "\x07\x00\x00\x00\x02\x00\x00\x00\x96\x88\xc4\x93ab"},
		{9, "c", "\x09\x00\x00\x00\x01\x00\x00\x00\xa7\xbb\x71\xa3c"},
		{1, "\x00", "\x01\x00\x00\x00\x01\x00\x00\x00\x5d\x29\x12\xcc\x00"},
		{0x01020304, "ab", "\x04\x03\x02\x01\x02\x00\x00\x00\x99\x03\x2c\xa5ab"},
		{999999999, "123456789", "\xff\xc9\x9a\x3b\x09\x00\x00\x00\xf8\x98\xc1\x5d123456789"},
		{1000000000, "", "\x00\xca\x9a\x3b\x00\x00\x00\x00\x1e\xa3\x43\x67"},
		{-1, "x", "\xff\xff\xff\xff\x01\x00\x00\x00\x41\x2f\x41\x9cx"},
		{math.MinInt64, "", "\x00\x00\x00\x00\x00\x00\x00\x00\x69\xdf\x22\x65"},
		{1 << 32, "", "\x00\x00\x00\x00\x00\x00\x00\x00\x69\xdf\x22\x65"},
		{1<<32 + 5, "y", "\x05\x00\x00\x00\x01\x00\x00\x00\xc9\xb1\x27\xb8y"},
		{math.MaxInt64, "", "\xff\xff\xff\xff\x00\x00\x00\x00\xff\xff\xff\xff"},
	} {
		if got := Encode(c.n, []byte(c.body)); string(got) != c.want {
			t.Errorf("Encode(%d, %q): %q, want %q", c.n, c.body, got, c.want)
		}
		if got := encoded(c.n, c.body); got != c.want {
			t.Errorf("the model's Encode(%d, %q): %q, want %q", c.n, c.body, got, c.want)
		}
	}
	if got := Encode(7, nil); string(got) != encoded(7, "") {
		t.Errorf("Encode(7, nil): %q", got)
	}
}

// TestEncodeOfEachLength is P6.1 and P6.3 for contents of many lengths, also of more than a file can have: Encode has no limit.
func TestEncodeOfEachLength(t *testing.T) {
	r := rand.New(rand.NewSource(1))
	for _, size := range []int{0, 1, 2, 11, 12, 13, 127, 128, 255, 256, 257, 65535, 65536, 65537, 1<<20 - 13, 1<<20 - 12, 1<<20 - 11, 1 << 20, 1<<24 + 1} {
		body := make([]byte, size)
		r.Read(body)
		for _, n := range []int{0, 7, 999999999} {
			b := Encode(n, body)
			if string(b) != encoded(n, string(body)) {
				t.Errorf("Encode of %d bytes: other bytes, %d", size, len(b))
			}
			if got, e := Decode(n, b); e != api.OK || !bytes.Equal(got, body) {
				t.Errorf("Decode of the encoding of %d bytes: %d bytes, error %d", size, len(got), e)
			}
		}
	}
}

// decoding is a call of Decode with the answer that it is to have.
type decoding struct {
	name string
	n    int
	b    string
	want string
	e    api.Errno
}

func (c decoding) check(t *testing.T) {
	t.Helper()
	if got, e := Decode(c.n, []byte(c.b)); string(got) != c.want || e != c.e {
		t.Errorf("%s: Decode(%d, %.40q): %q, error %d, want %q, error %d", c.name, c.n, c.b, got, e, c.want, c.e)
	}
	if got, e := decoded(c.n, c.b); got != c.want || e != c.e {
		t.Errorf("%s: the model's Decode(%d, %.40q): %q, error %d, want %q, error %d", c.name, c.n, c.b, got, e, c.want, c.e)
	}
}

// damaged is an encoding of which the byte at this place is changed.
func damaged(n int, body string, at int) string {
	b := []byte(encoded(n, body))
	b[at] ^= 1
	return string(b)
}

// TestDecode is P6.1 for Decode.
func TestDecode(t *testing.T) {
	long := strings.Repeat("long", 1<<16)
	for _, c := range []decoding{
		{"no contents", 0, encoded(0, ""), "", api.OK},
		{"some", 7, "\x07\x00\x00\x00\x02\x00\x00\x00\x96\x88\xc4\x93ab", "ab", api.OK},
		{"the greatest number", 999999999, encoded(999999999, "abc"), "abc", api.OK},
		{"an encoding as contents", 3, encoded(3, encoded(3, "x")), encoded(3, "x"), api.OK},
		{"many", 3, encoded(3, long), long, api.OK},
		{"a number of which 7 is the rest modulo 2^32", 7, encoded(1<<32+7, "ab"), "ab", api.OK},

		{"no bytes", 7, "", "", api.ErrShort},
		{"one byte", 7, "\x07", "", api.ErrShort},
		{"eleven bytes", 7, encoded(7, "")[:11], "", api.ErrShort},
		{"eleven bytes that state none", 7, strings.Repeat("\x00", 11), "", api.ErrShort},
		{"a byte too few", 7, encoded(7, "ab")[:13], "", api.ErrShort},
		{"a byte more stated", 7, stating(7, 3, "ab"), "", api.ErrShort},
		{"one stated of none", 7, stating(7, 1, ""), "", api.ErrShort},
		{"twelve more stated", 7, stating(7, 14, "ab"), "", api.ErrShort},
		{"2^31 - 1 stated", 7, stating(7, 1<<31-1, "ab"), "", api.ErrShort},
		{"2^31 stated", 7, stating(7, 1<<31, "ab"), "", api.ErrShort},
		{"2^32 - 12 stated", 7, stating(7, 1<<32-12, "ab"), "", api.ErrShort},
		{"2^32 - 10 stated", 7, stating(7, 1<<32-10, "ab"), "", api.ErrShort},
		{"2^32 - 1 stated", 7, stating(7, 1<<32-1, "ab"), "", api.ErrShort},
		{"2^8 more stated", 7, stating(7, 1<<8+2, "ab"), "", api.ErrShort},
		{"2^16 more stated", 7, stating(7, 1<<16+2, "ab"), "", api.ErrShort},
		{"2^24 more stated", 7, stating(7, 1<<24+2, "ab"), "", api.ErrShort},

		{"a byte behind", 7, encoded(7, "ab") + "c", "", api.ErrForm},
		{"a byte behind no contents", 7, encoded(7, "") + "\x00", "", api.ErrForm},
		{"another encoding behind", 7, encoded(7, "ab") + encoded(7, "ab"), "", api.ErrForm},
		{"a byte fewer stated", 7, stating(7, 1, "ab"), "", api.ErrForm},
		{"none stated", 7, stating(7, 0, "ab"), "", api.ErrForm},
		{"2^16 fewer stated", 7, stating(7, 1<<18-1<<16, long), "", api.ErrForm},
		{"another number", 8, encoded(7, "ab"), "", api.ErrForm},
		{"a number with another first byte", 7, encoded(7+1, "ab"), "", api.ErrForm},
		{"a number with another second byte", 7, encoded(7+1<<8, "ab"), "", api.ErrForm},
		{"a number with another third byte", 7, encoded(7+1<<16, "ab"), "", api.ErrForm},
		{"a number with another fourth byte", 7, encoded(7+1<<24, "ab"), "", api.ErrForm},
		{"1000000000", 1000000000, encoded(1000000000, "ab"), "", api.ErrForm},
		{"2^32 - 1", 1<<32 - 1, encoded(1<<32-1, "ab"), "", api.ErrForm},
		{"2^32 + 7", 1<<32 + 7, encoded(7, "ab"), "", api.ErrForm},
		{"-2^32 + 7", -1<<32 + 7, encoded(7, "ab"), "", api.ErrForm},
		{"-1", -1, encoded(-1, "ab"), "", api.ErrForm},
		{"-7", -7, encoded(7, "ab"), "", api.ErrForm},
		{"the least one", math.MinInt, encoded(math.MinInt, "ab"), "", api.ErrForm},
		{"the greatest one", math.MaxInt, encoded(math.MaxInt, "ab"), "", api.ErrForm},

		{"a wrong CRC", 7, damaged(7, "ab", 8), "", api.ErrSum},
		{"a wrong CRC in its last byte", 7, damaged(7, "ab", 11), "", api.ErrSum},
		{"other contents", 7, damaged(7, "ab", 13), "", api.ErrSum},
		{"no contents with a wrong CRC", 7, damaged(7, "", 10), "", api.ErrSum},
		{"the CRC of another number", 7, "\x07\x00\x00\x00" + encoded(8, "ab")[4:], "", api.ErrSum},
		{"the CRC of the contents alone", 9, "\x09\x00\x00\x00\x01\x00\x00\x00\x43\xbe\xb7\xe8a", "", api.ErrSum},
		{"twelve zeros", 0, strings.Repeat("\x00", 12), "", api.ErrSum},
	} {
		c.check(t)
	}
	if got, e := Decode(0, nil); len(got) != 0 || e != api.ErrShort {
		t.Errorf("Decode(0, nil): %q, error %d", got, e)
	}
}

// TestWhatStandsFirstInDecode is P6.1 for bytes to which several errors of Decode apply.
func TestWhatStandsFirstInDecode(t *testing.T) {
	for _, n := range edges {
		for _, c := range []decoding{
			{"short, whatever the number", n, encoded(n, "")[:11], "", api.ErrShort},
			{"short, another number", n, encoded(5, "ab")[:13], "", api.ErrShort},
			{"short, a wrong CRC", n, damaged(n, "ab", 8)[:13], "", api.ErrShort},
			{"3 bytes stated of 2, another number, a wrong CRC", n, damaged(5, "ab", 4), "", api.ErrShort},
			{"none stated of 1, another number, a wrong CRC", n, damaged(5, "a", 4), "", api.ErrForm},
			{"a byte behind, another number", n, encoded(5, "ab") + "c", "", api.ErrForm},
			{"a byte behind, a wrong CRC", n, damaged(n, "ab", 8) + "c", "", api.ErrForm},
			{"another number, a wrong CRC", n, damaged(5, "ab", 8), "", api.ErrForm},
		} {
			c.check(t)
		}
	}
}

// bodies are contents of several lengths, among them such as look like parts of an encoding.
var bodies = []string{"", "a", "\x00", "ab", "twelve bytes", "\x00\x00\x00\x00", strings.Repeat("\xff", 16), encoded(7, "ab"), encoded(7, "")[:11], strings.Repeat("0123456789", 40)}

// TestDecodeOfEncode is P6.3: with its number an encoding is decoded, and with no other; a number that no snapshot can have decodes nothing.
func TestDecodeOfEncode(t *testing.T) {
	for _, n := range edges {
		for _, body := range bodies {
			for _, as := range edges {
				want, e := body, api.OK
				if as != n || Name(n) == "" {
					want, e = "", api.ErrForm
				}
				// A number modulo 2^32 is that of another one.
				if as != n && as == 7 && uint32(n) == 7 || as != n && as == 0 && uint32(n) == 0 {
					want, e = body, api.OK
				}
				if got, f := Decode(as, Encode(n, []byte(body))); string(got) != want || f != e {
					t.Errorf("Decode(%d) of Encode(%d, %.40q): %q, error %d, want error %d", as, n, body, got, f, e)
				}
			}
		}
	}
}

// TestCut is P6.3 and P6.1 for an encoding that is cut at each length: no proper prefix is an encoding, whatever the number.
func TestCut(t *testing.T) {
	for _, n := range edges {
		for _, body := range bodies {
			b := Encode(n, []byte(body))
			for size := range b {
				for _, as := range []int{n, 7, 0, -1, 1000000000} {
					if got, e := Decode(as, b[:size]); len(got) != 0 || e != api.ErrShort {
						t.Errorf("Decode(%d) of %d bytes of Encode(%d, %.40q): %q, error %d", as, size, n, body, got, e)
					}
				}
			}
		}
	}
}

// TestBytesBehind is P6.3 and P6.1 for an encoding with bytes behind it: that is none, whatever the number.
func TestBytesBehind(t *testing.T) {
	for _, n := range edges {
		for _, body := range bodies {
			for _, behind := range append([]string{" ", "\x01", strings.Repeat("\x00", 300)}, bodies[1:]...) {
				b := append(Encode(n, []byte(body)), behind...)
				for _, as := range []int{n, 7, 0, -1, 1000000000} {
					if got, e := Decode(as, b); len(got) != 0 || e != api.ErrForm {
						t.Errorf("Decode(%d) of Encode(%d, %.40q) and %.40q: %q, error %d", as, n, body, behind, got, e)
					}
				}
			}
		}
	}
}

// TestEachByteChanged is P6.1 for each single byte of an encoding in all its other values: its place tells the error.
func TestEachByteChanged(t *testing.T) {
	for _, n := range []int{0, 7, 258, 999999999} {
		for _, body := range bodies {
			b := []byte(encoded(n, body))
			for at, was := range b {
				for to := range 256 {
					if byte(to) == was {
						continue
					}
					b[at] = byte(to)
					want := api.ErrSum
					switch {
					case at < 4, at < 8 && byte(to) < was:
						want = api.ErrForm
					case at < 8:
						want = api.ErrShort
					}
					if got, e := Decode(n, b); len(got) != 0 || e != want {
						t.Errorf("Decode of Encode(%d, %.40q), byte %d from %d to %d: %q, error %d, want %d", n, body, at, was, to, got, e, want)
					}
				}
				b[at] = was
			}
		}
	}
}

// TestDecodeDrawn is P6.1 for encodings that are changed by chance, against the model.
func TestDecodeDrawn(t *testing.T) {
	r := rand.New(rand.NewSource(2))
	seen := map[api.Errno]int{}
	for range 50000 {
		n := r.Intn(3)
		number, body := uint32(r.Intn(3)), strings.Repeat("x", r.Intn(4))
		if r.Intn(4) > 0 {
			number = uint32(n)
		}
		size := uint32(len(body))
		if r.Intn(4) == 0 {
			size = uint32(r.Intn(6))
		}
		b := []byte(stating(number, size, body))
		switch r.Intn(8) {
		case 0:
			b = b[:r.Intn(len(b))]
		case 1:
			b = append(b, strings.Repeat("y", r.Intn(3))...)
		case 2:
			b[r.Intn(len(b))] ^= 1 << r.Intn(8)
		}
		got, e := Decode(n, b)
		want, f := decoded(n, string(b))
		if string(got) != want || e != f {
			t.Fatalf("Decode(%d, %q): %q, error %d, want %q, error %d", n, b, got, e, want, f)
		}
		seen[e]++
	}
	for _, e := range []api.Errno{api.OK, api.ErrShort, api.ErrForm, api.ErrSum} {
		if seen[e] < 1000 {
			t.Errorf("error %d only %d times", e, seen[e])
		}
	}
}

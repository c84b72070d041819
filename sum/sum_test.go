package sum

import (
	"bytes"
	"hash/crc32"
	"math/rand"
	"slices"
	"testing"
)

// sums is what the two functions answer.
type sums struct {
	crc   uint32
	small int
}

func sumsOf(b []byte) sums { return sums{Crc(b), Small(b)} }

// defined works the sums out as the document's words say them, bit by bit.
func defined(b []byte) sums {
	r, total := uint32(0xffffffff), 0
	for _, c := range b {
		r ^= uint32(c)
		for range 8 {
			out := r & 1
			r >>= 1
			if out == 1 {
				r ^= 0xedb88320
			}
		}
		total += int(c)
	}
	return sums{^r, total % 256}
}

// brief cuts bytes that are too many to be told whole.
func brief(b []byte) []byte { return b[:min(len(b), 16)] }

// drawn answers n bytes that are the same in each run.
func drawn(seed int64, n int) []byte {
	b := make([]byte, n)
	rand.New(rand.NewSource(seed)).Read(b)
	return b
}

// samples are byte strings of each kind that the tests go through.
func samples() [][]byte {
	out := [][]byte{nil, {}, []byte("123456789"), []byte("8=FIX.4.4\x019=5\x0135=0\x01")}
	every := make([]byte, 256)
	for v := range 256 {
		every[v] = byte(v)
		out = append(out, []byte{byte(v)})
	}
	out = append(out, every)
	for _, n := range []int{1, 2, 3, 4, 5, 8, 15, 16, 17, 255, 256, 257, 4096, 65536, 65537} {
		out = append(out, make([]byte, n), bytes.Repeat([]byte{255}, n), drawn(int64(n), n))
	}
	return append(out, drawn(1, 1<<20), bytes.Repeat([]byte{255}, 1<<20))
}

func TestChapterExamples(t *testing.T) {
	if got := sumsOf([]byte("123456789")); got != (sums{0xcbf43926, 221}) {
		t.Errorf("of 123456789: %x, %d", got.crc, got.small)
	}
	if got := sumsOf([]byte("")); got != (sums{}) {
		t.Errorf("of the empty string: %x, %d", got.crc, got.small)
	}
}

// TestWritten is P3.1 by values that don't come from this project's code.
func TestWritten(t *testing.T) {
	for _, c := range []struct {
		name string
		b    []byte
		want sums
	}{
		{"nil", nil, sums{0, 0}},
		{"empty", []byte{}, sums{0, 0}},
		{"empty with capacity", make([]byte, 0, 9), sums{0, 0}},
		{"a byte of 0", []byte{0}, sums{0xd202ef8d, 0}},
		{"a byte of 1", []byte{1}, sums{0xa505df1b, 1}},
		{"a byte of 128", []byte{128}, sums{0x3fba6cad, 128}},
		{"a byte of 255", []byte{255}, sums{0xff000000, 255}},
		{"four of 0", make([]byte, 4), sums{0x2144df1c, 0}},
		{"four of 255", []byte{255, 255, 255, 255}, sums{0xffffffff, 252}},
		{"a", []byte("a"), sums{0xe8b7be43, 97}},
		{"abc", []byte("abc"), sums{0x352441c2, 38}},
		{"32 of 0", make([]byte, 32), sums{0x190a55ad, 0}},
		{"32 of 255", bytes.Repeat([]byte{255}, 32), sums{0xff6cab0b, 224}},
		{"a sentence", []byte("The quick brown fox jumps over the lazy dog"), sums{0x414fa339, 217}},
	} {
		if got := sumsOf(c.b); got != c.want {
			t.Errorf("%s: %x, %d; want %x, %d", c.name, got.crc, got.small, c.want.crc, c.want.small)
		}
	}
}

// TestDefined is P3.1 against the document's words, and against the library's CRC.
func TestDefined(t *testing.T) {
	for _, b := range samples() {
		got, want := sumsOf(b), defined(b)
		if got != want {
			t.Errorf("%d bytes, %v..: %x, %d; want %x, %d", len(b), brief(b), got.crc, got.small, want.crc, want.small)
		}
		if other := crc32.ChecksumIEEE(b); got.crc != other {
			t.Errorf("%d bytes, %v..: CRC %x; the library has %x", len(b), brief(b), got.crc, other)
		}
	}
}

// TestPairs is P3.1 for each byte after each other.
func TestPairs(t *testing.T) {
	for v := range 1 << 16 {
		b := []byte{byte(v >> 8), byte(v)}
		if got, want := sumsOf(b), defined(b); got != want {
			t.Fatalf("%v: %x, %d; want %x, %d", b, got.crc, got.small, want.crc, want.small)
		}
	}
}

// TestTurns is P3.1 for sums about each of the first multiples of 256, by few great bytes and by many small ones.
func TestTurns(t *testing.T) {
	for multiple := 256; multiple <= 4096; multiple += 256 {
		for total := multiple - 2; total <= multiple+2; total++ {
			great := append(bytes.Repeat([]byte{255}, total/255), byte(total%255))
			for _, b := range [][]byte{great, bytes.Repeat([]byte{1}, total)} {
				if got := Small(b); got != total%256 {
					t.Errorf("%d bytes of %d together: %d, want %d", len(b), total, got, total%256)
				}
			}
		}
	}
}

// places are where n adjacent bytes lie in b: at its beginning, in its middle, at its end.
func places(b []byte, n int) []int {
	return []int{0, 1, (len(b) - n) / 2, len(b) - n - 1, len(b) - n}
}

// bases are the byte strings that P3.2's tests change.
func bases() [][]byte {
	return [][]byte{make([]byte, 16), bytes.Repeat([]byte{255}, 16), drawn(16, 16), []byte("8=FIX.4.4\x019=1\x01")}
}

// TestOneChanged is P3.2 for each change of one byte.
func TestOneChanged(t *testing.T) {
	long := append(bases(), drawn(2, 512))
	for _, b := range long {
		for at := range b {
			before, seen := sumsOf(b), map[uint32]bool{}
			for by := 1; by < 256; by++ {
				changed := slices.Clone(b)
				changed[at] ^= byte(by)
				after := sumsOf(changed)
				if after.crc == before.crc || after.small == before.small {
					t.Fatalf("%v..: byte %d xored with %d: %v, before %v", brief(b), at, by, after, before)
				}
				if seen[after.crc] {
					t.Fatalf("%v..: two values of byte %d have the CRC %x", brief(b), at, after.crc)
				}
				seen[after.crc] = true
			}
		}
	}
}

// TestTwoChanged is P3.2 for each change within two adjacent bytes.
func TestTwoChanged(t *testing.T) {
	for _, b := range bases() {
		for _, at := range places(b, 2) {
			before, changed := Crc(b), slices.Clone(b)
			for by := 1; by < 1<<16; by++ {
				changed[at], changed[at+1] = b[at]^byte(by), b[at+1]^byte(by>>8)
				if Crc(changed) == before {
					t.Fatalf("%v: bytes %d and on xored with %x: CRC %x again", b, at, by, before)
				}
			}
		}
	}
}

// differences are the changes within n adjacent bytes that are tried: for each byte none, each bit alone, and some of several bits.
func differences(n int) [][]byte {
	if n == 0 {
		return [][]byte{nil}
	}
	var out [][]byte
	for _, head := range differences(n - 1) {
		for _, by := range []byte{0, 1, 2, 4, 8, 16, 32, 64, 128, 3, 15, 0x20, 0x83, 0xb8, 0xed, 0xf0, 255} {
			out = append(out, append(slices.Clone(head), by))
		}
	}
	return out
}

// TestThreeAndFourChanged is P3.2 for changes within three and within four adjacent bytes.
func TestThreeAndFourChanged(t *testing.T) {
	for n := 3; n <= 4; n++ {
		tried := differences(n)[1:] // the first changes nothing
		for _, b := range bases() {
			for _, at := range places(b, n) {
				before, changed := Crc(b), slices.Clone(b)
				for _, by := range tried {
					for i := range by {
						changed[at+i] = b[at+i] ^ by[i]
					}
					if Crc(changed) == before {
						t.Fatalf("%v: bytes %d and on xored with %v: CRC %x again", b, at, by, before)
					}
				}
			}
		}
	}
}

// TestFourBytesApart is P3.2 for byte strings of four bytes: as many CRCs as strings, as far as they are drawn.
func TestFourBytesApart(t *testing.T) {
	of := map[uint32][4]byte{}
	r := rand.New(rand.NewSource(4))
	for range 1 << 17 {
		var b [4]byte
		r.Read(b[:])
		crc := Crc(b[:])
		if other, ok := of[crc]; ok && other != b {
			t.Fatalf("%v and %v have the CRC %x", other, b, crc)
		}
		of[crc] = b
	}
}

// TestOrder is P3.2's end: Small is the same for the bytes in any order, while Crc tells neighbours that changed places.
func TestOrder(t *testing.T) {
	for _, b := range append(samples(), []byte{1, 2}, []byte{255, 1}, []byte{128, 128, 1}) {
		small, turned := Small(b), slices.Clone(b)
		slices.Reverse(turned)
		if got := Small(turned); got != small {
			t.Errorf("%v.. turned round: %d, before %d", brief(b), got, small)
		}
		slices.Sort(turned)
		if got := Small(turned); got != small {
			t.Errorf("%v.. sorted: %d, before %d", brief(b), got, small)
		}
		rand.New(rand.NewSource(9)).Shuffle(len(turned), func(i, j int) { turned[i], turned[j] = turned[j], turned[i] })
		if got := Small(turned); got != small {
			t.Errorf("%v.. shuffled: %d, before %d", brief(b), got, small)
		}
	}
	for at := range 8 {
		b := []byte("123456789")
		b[at], b[at+1] = b[at+1], b[at]
		if got := sumsOf(b); got.crc == 0xcbf43926 || got.small != 221 {
			t.Errorf("%s: %x, %d", b, got.crc, got.small)
		}
	}
}

// TestArgumentStays is P3.3 and Rule 3: the argument isn't changed, its spare capacity neither.
func TestArgumentStays(t *testing.T) {
	for _, b := range samples() {
		whole := append(slices.Clone(b), drawn(3, 64)...)
		before := slices.Clone(whole)
		Crc(whole[:len(b)])
		Small(whole[:len(b)])
		if !bytes.Equal(whole, before) {
			t.Errorf("%d bytes, %v..: changed", len(b), brief(b))
		}
	}
}

// TestNothingKept is P3.3 and Rule 4: a change of the argument after the call doesn't reach the result, and the next call sees the bytes as they are then, whatever was called ahead of it.
func TestNothingKept(t *testing.T) {
	b := []byte("123456789")
	first := sumsOf(b)
	copy(b, "abc")
	if first != (sums{0xcbf43926, 221}) {
		t.Errorf("after a change: %v", first)
	}
	if got, want := sumsOf(b), defined([]byte("abc456789")); got != want {
		t.Errorf("changed bytes: %v, want %v", got, want)
	}
	copy(b, "123456789")
	for _, other := range samples() {
		sumsOf(other)
		if got := sumsOf(b); got != first {
			t.Fatalf("after %v..: %v, want %v", brief(other), got, first)
		}
	}
}

// TestTable holds each entry against four shifts of its place, so that one wrong word is named.
func TestTable(t *testing.T) {
	for n, got := range nibbleCrcs {
		want := uint32(n)
		for range 4 {
			want = want>>1 ^ want&1*0xedb88320
		}
		if got != want {
			t.Errorf("entry %d: %x, want %x", n, got, want)
		}
	}
}

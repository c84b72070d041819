package tag

import (
	"strings"
	"testing"

	"bulwark/api"
)

// TestSkipped is P7.1 for how many bytes are skipped beside ErrForm.
func TestSkipped(t *testing.T) {
	for _, c := range []struct {
		name, b string
		n       int
	}{
		{"one byte", "x", 1},
		{"nothing of the header", "abcdefghijklmnopqrstuvwxyz", 26},
		{"only 01", "|||", 3},

		{"the header behind a byte", "x8=FIX.4.4|", 1},
		{"the header behind ten", "0123456789" + "8=FIX.4.4|", 10},
		{"with bytes behind", "abc8=FIX.4.4|xyz", 3},
		{"with a part of it behind", "abc8=FIX.4.4|8=FI", 3},
		{"twice", "abc8=FIX.4.4|8=FIX.4.4|", 3},
		{"three times, bytes between", "a8=FIX.4.4|b8=FIX.4.4|c8=FIX.4.4|", 1},
		{"a frame behind a byte", "x8=FIX.4.4|9=5|35=D|10=183|", 1},
		{"two frames behind bytes", "xyz8=FIX.4.4|9=5|35=D|10=183|8=FIX.4.4|9=5|35=D|10=183|", 3},

		{"the header in front, nothing of it behind", "8=FIX.4.4|x", 11},
		{"the header in front, and again", "8=FIX.4.4|x8=FIX.4.4|", 11},
		{"twice, one behind the other", "8=FIX.4.4|8=FIX.4.4|", 10},
		{"three times", "8=FIX.4.4|8=FIX.4.4|8=FIX.4.4|", 10},
		{"in front, and a part behind", "8=FIX.4.4|x8=FIX.4.4", 11},
		{"in front, a part between, and again", "8=FIX.4.4|x8=FIX.48=FIX.4.4|", 18},
		{"a wrong number, and again", "8=FIX.4.4|9=x|8=FIX.4.4|", 14},
		{"a number too great, and a part behind", "8=FIX.4.4|9=50008=", 16},

		{"a part of one byte at the end", "abc8", 3},
		{"of two", "abc8=", 3},
		{"of four", "abc8=FI", 3},
		{"of nine", "abc8=FIX.4.4", 3},
		{"a part behind one byte", "x8", 1},
		{"a part behind one, of nine", "x8=FIX.4.4", 1},
		{"several parts, the last at the end", "a8=FIX8=F8", 9},
		{"a part that goes on otherwise", "abc8=FIY", 8},
		{"a part with a byte behind", "abc8=FIX.4.4x", 13},
		{"the header but for 01", "abc8=FIX.4.4 8=FIX.4.4", 13},
		{"another header", "8=FIX.4.2|9=5|35=D|10=183|8=FI", 26},

		{"a header within the beginning of another", "8=FIX8=FIX.4.4|", 5},
		{"behind the first byte of another", "88=FIX.4.4|", 1},
		{"behind several first bytes", "8888=FIX.4.4|", 3},
		{"behind all but the last byte", "8=FIX.4.48=FIX.4.4|", 9},
		{"a part within a part", "x8=FIX.8=FIX.", 7},
		{"first bytes alone", "x8888", 4},
		{"first bytes alone at the beginning", "8888", 3},
		{"two first bytes", "88", 1},
		{"parts of two bytes", "8=8=8=", 4},
		{"the end of the header in front", "FIX.4.4|8=FIX.4.4|", 8},
		{"the last byte in front", "|8=FIX.4.4|", 1},
	} {
		checkDecode(t, c.name, bar(c.b), answer{n: c.n, e: api.ErrForm})
	}
}

// TestSkippedBesideSum is P7.1 for how many bytes are skipped beside ErrSum: up to a header within the frame, behind it, or none.
func TestSkippedBesideSum(t *testing.T) {
	for _, c := range []struct {
		name, b string
		n       int
	}{
		{"no more", "8=FIX.4.4|9=5|35=D|10=184|", 26},
		{"other bytes behind", "8=FIX.4.4|9=5|35=D|10=184|xyz", 29},
		{"another frame behind", "8=FIX.4.4|9=5|35=D|10=184|8=FIX.4.4|9=5|35=D|10=183|", 26},
		{"another one behind bytes", "8=FIX.4.4|9=5|35=D|10=184|xyz8=FIX.4.4|9=5|35=D|10=183|", 29},
		{"a part behind", "8=FIX.4.4|9=5|35=D|10=184|8=FIX", 26},
		{"one byte of it behind", "8=FIX.4.4|9=5|35=D|10=184|8", 26},
		{"a header within", "8=FIX.4.4|9=18|35=D|58=8=FIX.4.4|10=000|", 23},
		{"a header within, and a frame behind", "8=FIX.4.4|9=18|35=D|58=8=FIX.4.4|10=000|8=FIX.4.4|9=5|35=D|10=183|", 23},
		{"a frame within", "8=FIX.4.4|9=31|35=D|8=FIX.4.4|9=5|35=D|10=183|10=000|", 20},
		{"a frame within from the body's beginning", "8=FIX.4.4|9=26|8=FIX.4.4|9=5|35=D|10=183|10=000|", 15},
	} {
		checkDecode(t, c.name, bar(c.b), answer{n: c.n, e: api.ErrSum})
	}
}

// TestEachHeaderPlace is P7.1 for a header, and for each part of it, at each place behind bytes that are none.
func TestEachHeaderPlace(t *testing.T) {
	begin := bar("8=FIX.4.4|")
	for _, fill := range []string{"x", "8", "=", "\x01", "8=", "8=FIX.4.4", "4.4\x01", "8=FIX.4.4\x01"} {
		for n := 1; n < 30; n++ {
			front := strings.Repeat(fill, n)[:n]
			for part := range len(begin) + 1 {
				for _, behind := range []string{"", "x", "8", begin} {
					s := front + begin[:part] + behind
					if got, want := answerOf(s), decoded(s); got != want {
						t.Errorf("%q: %v, want %v", s, got, want)
					}
				}
			}
		}
	}
}

// TestManyFaults is P7.1 and rule 1 for so many bytes that only a call that looks at each of them a few times ends within the time that tests have.
func TestManyFaults(t *testing.T) {
	for _, c := range []struct {
		name, b    string
		most, rest int
	}{
		{"headers", strings.Repeat("8=FIX.4.4|", 200000), 199999, 10},
		{"first bytes", strings.Repeat("8", 2000000), 1, 1},
		{"parts of headers", strings.Repeat("8=FIX.4.4", 200000), 1, 9},
		{"wrong sums", strings.Repeat("8=FIX.4.4|9=5|35=D|10=184|", 100000), 100000, 0},
		{"wrong bodies", strings.Repeat("8=FIX.4.4|9=5|36=D|10=184|", 100000), 100000, 0},
		{"frames", strings.Repeat("8=FIX.4.4|9=5|35=D|10=183|", 100000), 100000, 0},
	} {
		b := []byte(bar(c.b))
		n := 0
		for range Frames(b) {
			n++
		}
		if rest := Rest(b); n != c.most || rest != c.rest {
			t.Errorf("%s: %d results, %d bytes left, want %d, %d", c.name, n, rest, c.most, c.rest)
		}
	}
}

package ref

import (
	"math"
	"strings"
	"testing"

	"bulwark/api"
)

const (
	most  = math.MaxInt
	least = math.MinInt
)

// names are texts, each with whether it is a name.
var names = []struct {
	s    string
	want bool
}{
	{"", false},
	{"A", true},
	{"Z", true},
	{"M", true},
	{"IBM", true},
	{"AZ", true},
	{"ZA", true},
	{"AAA", true},
	{"ABCDEFG", true},
	{"ABCDEFGH", true},
	{"STUVWXYZ", true},
	{"ZZZZZZZZ", true},
	{"ABCDEFGHI", false},
	{"AAAAAAAAA", false},
	{"ABCDEFGHABCDEFGH", false},
	{strings.Repeat("A", 256), false},
	{strings.Repeat("A", 257), false},
	{strings.Repeat("A", 1<<16+1), false},
	{"ibm", false},
	{"Ibm", false},
	{"iBM", false},
	{"A1", false},
	{"A B", false},
	{"ABCDEFG ", false},
	{"ABCDEFGH ", false},
	{" ABCDEFGH", false},
	{"ABCDEFGH\x00", false},
	{"ABCDEFGé", false},     // eight letters, nine bytes
	{"ABCDEFé", false},      // seven letters, eight bytes
	{"\u0391\u0392", false}, // capital letters of another alphabet
	{"\uff21", false},       // a wide A
	{"\u0141", false},       // its low byte is that of A
	{"\U00010041", false},   // so are its low two
}

// TestName is P9.1 for Name.
func TestName(t *testing.T) {
	for _, c := range names {
		if Name(c.s) != c.want {
			t.Errorf("Name(%q) is %v", c.s, !c.want)
		}
	}
}

// TestNameLength is that names have 1 to 8 letters, whichever letters those are.
func TestNameLength(t *testing.T) {
	for letter := byte('A'); letter <= 'Z'; letter++ {
		for n := range 20 {
			s := strings.Repeat(string(letter), n)
			if want := n >= 1 && n <= 8; Name(s) != want {
				t.Errorf("Name(%q) is %v", s, !want)
			}
		}
	}
}

// TestNameBytes is that each other byte (those just below A and just above Z, small letters, digits, blanks, the nought and those from 128 on among them) makes a text no name, wherever it stands.
func TestNameBytes(t *testing.T) {
	for n := 1; n <= 9; n++ {
		for place := range n {
			for b := range 256 {
				text := []byte("QABZMAZKL"[:n])
				text[place] = byte(b)
				want := n <= 8 && 65 <= b && b <= 90
				if Name(string(text)) != want {
					t.Errorf("Name(%q) is %v", text, !want)
				}
			}
		}
	}
}

// numbers are those that a currency may be asked about with; to all but 0 the same rules apply.
var numbers = []int{0, 1, 2, 3, 4, 5, -1, -2, 1 << 32, most, least}

// TestCur is P9.1 for Cur.
func TestCur(t *testing.T) {
	for _, c := range []struct {
		rate, hair  int
		base, other bool
	}{
		{1000000, 0, true, true},
		{1000000, 1, true, true},
		{1000000, 1000, true, true},
		{1000000, 9999, true, true},
		{1000000, 10000, true, true},
		{1000000, 10001, false, false},
		{1000000, 20000, false, false},
		{1000000, -1, false, false},
		{1000000, -10000, false, false},
		{1000000, most, false, false},
		{1000000, least, false, false},
		{1000000, 1 << 32, false, false},
		{0, 0, false, false},
		{1, 0, false, true},
		{1, 10000, false, true},
		{1, 10001, false, false},
		{1, -1, false, false},
		{2, 5, false, true},
		{999999, 0, false, true},
		{1000001, 0, false, true},
		{1500000, 1000, false, true},
		{10000, 1000000, false, false},
		{999999999999, 0, false, true},
		{1000000000000, 0, false, true},
		{1000000000000, 10000, false, true},
		{1000000000000, 10001, false, false},
		{1000000000000, -1, false, false},
		{1000000000001, 0, false, false},
		{1000000000001, 10000, false, false},
		{-1, 0, false, false},
		{-1000000, 0, false, false},
		{-1000000000000, 0, false, false},
		{1<<32 + 1000000, 0, false, true},
		{1 << 62, 0, false, false},
		{most, 0, false, false},
		{least, 0, false, false},
		{0, -1, false, false},
		{0, 10001, false, false},
	} {
		for _, n := range numbers {
			want := c.other
			if n == 0 {
				want = c.base
			}
			if Cur(api.Cur{Rate: c.rate, Hair: c.hair}, n) != want {
				t.Errorf("Rate %d, Hair %d, number %d: Cur is %v", c.rate, c.hair, n, !want)
			}
		}
	}
}

// TestUnder is P9.1 for Under.
func TestUnder(t *testing.T) {
	for _, c := range []struct {
		cur, price, vol, curs int
		want                  bool
	}{
		{0, 100, 2000, 1, true},
		{0, 100, 2000, 2, true},
		{1, 100, 2000, 2, true},
		{2, 100, 2000, 2, false},
		{1, 100, 2000, 1, false},
		{3, 100, 2000, 4, true},
		{4, 100, 2000, 4, false},
		{5, 100, 2000, 4, false},
		{4, 100, 2000, 5, true},
		{-1, 100, 2000, 4, false},
		{-1, 100, 2000, 1, false},
		{-4, 100, 2000, 4, false},
		{0, 100, 2000, 0, false},
		{1, 100, 2000, 0, false},
		{-1, 100, 2000, 0, false},
		{0, 100, 2000, -1, false},
		{-1, 100, 2000, -1, false},
		{-2, 100, 2000, -1, false},
		{-1, 100, 2000, -2, false},
		{0, 100, 2000, least, false},
		{least, 100, 2000, least, false},
		{least, 100, 2000, 4, false},
		{most, 100, 2000, 4, false},
		{most, 100, 2000, most, false},
		{most - 1, 100, 2000, most, true},
		{1 << 32, 100, 2000, 4, false},
		{0, 0, 2000, 1, false},
		{0, 1, 2000, 1, true},
		{0, 1000000000000, 2000, 1, true},
		{0, 1000000000001, 2000, 1, false},
		{0, 100000000000000, 2000, 1, false},
		{0, -1, 2000, 1, false},
		{0, -100, 2000, 1, false},
		{0, most, 2000, 1, false},
		{0, least, 2000, 1, false},
		{0, 1<<32 + 1, 2000, 1, true},
		{0, 100, -1, 1, false},
		{0, 100, 0, 1, true},
		{0, 100, 1, 1, true},
		{0, 100, 49999, 1, true},
		{0, 100, 50000, 1, true},
		{0, 100, 50001, 1, false},
		{0, 100, -2000, 1, false},
		{0, 100, 1 << 32, 1, false},
		{0, 100, most, 1, false},
		{0, 100, least, 1, false},
		{0, 1, 0, 1, true},
		{0, 1000000000000, 50000, 1, true},
		{0, 1000000000001, 50001, 1, false},
		{1, 0, -1, 1, false},
	} {
		u := api.Under{Name: "IBM", Cur: c.cur, Price: c.price, Vol: c.vol}
		if Under(u, c.curs) != c.want {
			t.Errorf("Cur %d, Price %d, Vol %d, %d currencies: Under is %v", c.cur, c.price, c.vol, c.curs, !c.want)
		}
	}
}

// TestUnderName is that an underlying is valid only if its name is one.
func TestUnderName(t *testing.T) {
	for _, c := range names {
		u := api.Under{Name: c.s, Cur: 1, Price: 1, Vol: 0}
		if Under(u, 2) != c.want {
			t.Errorf("the name %q: Under is %v", c.s, !c.want)
		}
		u.Price = 0
		if Under(u, 2) {
			t.Errorf("the name %q, no price: Under is true", c.s)
		}
	}
}

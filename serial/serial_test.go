package serial

import (
	"encoding/binary"
	"fmt"
	"math"
	"math/rand"
	"slices"
	"testing"

	"bulwark/disk"
)

// TestName is that every number of up to nine digits has a name, and no other.
func TestName(t *testing.T) {
	for _, c := range []struct {
		letter string
		n      int
		want   string
	}{
		{"j", 0, "j000000000"}, {"j", 1, "j000000001"}, {"s", 10, "s000000010"}, {"s", 123456789, "s123456789"}, {"s", 999999998, "s999999998"}, {"s", 999999999, "s999999999"},
		{"s", -1, ""}, {"s", -999999999, ""}, {"s", -1000000000, ""}, {"s", 1000000000, ""}, {"s", 1000000001, ""}, {"s", 1 << 32, ""}, {"s", math.MaxInt, ""}, {"s", math.MinInt, ""},
	} {
		if got := Name(c.letter, c.n); got != c.want {
			t.Errorf("Name(%q, %d): %q, want %q", c.letter, c.n, got, c.want)
		}
	}
	for n := 0; n <= 999999999; n += 1 + n/5 {
		if got, want := Name("x", n), fmt.Sprintf("x%09d", n); got != want {
			t.Errorf("Name(%d): %q, want %q", n, got, want)
		}
	}
}

// TestNumbers is that the names asked for are found, in ascending order, and no others.
func TestNumbers(t *testing.T) {
	each := func(n int) string { return Name("s", n) }
	later := func(n int) string {
		if n < 5 {
			return ""
		}
		return each(n)
	}
	for _, c := range []struct {
		files       []string
		each, later []int
	}{
		{nil, nil, nil},
		{[]string{"draft", "s", "j000000007", "s00000007", "s0000000007", "s+00000007", "s-00000007", "s00000_007", "s00000000a", "S000000007", "000000007", "x"}, nil, nil},
		{[]string{"s000000000"}, []int{0}, nil},
		{[]string{"s000000007", "s000000005", "s000000004", "j000000009", "s999999999", "s000000010", "s000000000"}, []int{0, 4, 5, 7, 10, 999999999}, []int{5, 7, 10, 999999999}},
	} {
		d := disk.New(0)
		for _, file := range c.files {
			d.Append(file, nil)
		}
		if got := Numbers(d, each); !slices.Equal(got, c.each) {
			t.Errorf("of %q: %d, want %d", c.files, got, c.each)
		}
		if got := Numbers(d, later); !slices.Equal(got, c.later) {
			t.Errorf("from 5 on of %q: %d, want %d", c.files, got, c.later)
		}
		d.Off(0)
		if got := Numbers(d, each); len(got) != 0 {
			t.Errorf("without power: %d", got)
		}
	}
}

// TestPutAndGet is that a number stands in four bytes, least significant first.
func TestPutAndGet(t *testing.T) {
	r := rand.New(rand.NewSource(1))
	all := []uint32{0, 1, 255, 256, 0x01020304, 1 << 31, 1<<32 - 1}
	for range 1000 {
		all = append(all, r.Uint32())
	}
	for _, n := range all {
		b := Put([]byte("ab"), n)
		if want := binary.LittleEndian.AppendUint32([]byte("ab"), n); !slices.Equal(b, want) {
			t.Errorf("Put(%d): %q, want %q", n, b, want)
		}
		if got := Get(append(b[2:], "behind"...)); got != n {
			t.Errorf("Get: %d, want %d", got, n)
		}
	}
}

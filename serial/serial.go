// Package serial has what the files of the journal and of the snapshots share: a number in their names, and numbers in four bytes.
package serial

import (
	"strconv"

	"bulwark/disk"
)

const maxNumber = 999999999 // the greatest number of nine digits

// Name returns the letter followed by the nine decimal digits of n, with leading zeros, the empty string if n does not fit in them.
func Name(letter string, n int) string {
	if n < 0 || n > maxNumber {
		return ""
	}
	// A digit in front, cut off again, makes for the leading zeros.
	return letter + strconv.Itoa(maxNumber + 1 + n)[1:]
}

// Numbers returns, in ascending order, the numbers whose name is that of a file on the disk. The names are those of one letter: as they are equally long, their order is that of the numbers.
func Numbers(d *disk.Disk, name func(n int) string) []int {
	var all []int
	for _, file := range d.Names() {
		n, err := strconv.Atoi(file[1:])
		// Other texts have the same number, such as one with a sign.
		if err == nil && file == name(n) {
			all = append(all, n)
		}
	}
	return all
}

// Put appends n to b in four bytes, least significant first.
func Put(b []byte, n uint32) []byte {
	return append(b, byte(n), byte(n>>8), byte(n>>16), byte(n>>24))
}

// Get returns what the first four bytes of b are, least significant first.
func Get(b []byte) uint32 {
	return uint32(b[0]) | uint32(b[1])<<8 | uint32(b[2])<<16 | uint32(b[3])<<24
}

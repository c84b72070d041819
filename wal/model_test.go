package wal

import (
	"encoding/binary"
	"fmt"
	"hash/crc32"
	"regexp"
	"slices"
	"strconv"

	"bulwark/api"
	"bulwark/disk"
)

// part is a segment of the model's journal: the number of its first record, and how many it has.
type part struct{ first, records int }

// model is a journal as the chapter's words say it, sentence by sentence, without regard to how long that takes. It notes the raw writes that it makes.
type model struct {
	d      *disk.Disk
	per    int
	parts  []part
	next   int
	broken bool
	e      api.Errno
	raw    *[]string
}

// recordsIn are the records of a segment with these bytes.
func recordsIn(b []byte) ([][]byte, int) {
	var records [][]byte
	n := 0
	for len(b)-n >= 8 {
		size := uint64(binary.LittleEndian.Uint32(b[n:]))
		crc := binary.LittleEndian.Uint32(b[n+4:])
		if size > 65536 || uint64(len(b)) < uint64(n)+8+size {
			break
		}
		record := b[n+8 : n+8+int(size)]
		if crc32.ChecksumIEEE(record) != crc {
			break
		}
		records = append(records, slices.Clone(record))
		n += 8 + int(size)
	}
	return records, n
}

// do makes a raw write, and notes it.
func (m *model) do(what string, first int, n int) api.Errno {
	name := fmt.Sprintf("j%09d", first)
	note, e := fmt.Sprintf("%s #%d", what, first), api.OK
	switch what {
	case "Sync":
		e = m.d.Sync(name)
	case "Truncate":
		note += " " + strconv.Itoa(n)
		e = m.d.Truncate(name, n)
	case "Remove":
		e = m.d.Remove(name)
	}
	*m.raw = append(*m.raw, note)
	return e
}

var segmentName = regexp.MustCompile(`^j[0-9]{9}$`)

// segmentsOf are the segments on a disk, in ascending order of their numbers.
func segmentsOf(d *disk.Disk) []int {
	var out []int
	for _, name := range d.Names() {
		n, _ := strconv.Atoi(name[1:])
		if segmentName.MatchString(name) && n > 0 {
			out = append(out, n)
		}
	}
	slices.Sort(out)
	return out
}

// bytesOf are those of a segment on a disk.
func bytesOf(d *disk.Disk, first int) []byte {
	b, e := d.Read(fmt.Sprintf("j%09d", first))
	if e != api.OK {
		panic("a segment that can't be read")
	}
	return b
}

func openModel(d *disk.Disk, per int, raw *[]string) (*model, [][]byte, int, api.Errno) {
	if d == nil {
		return nil, nil, 0, api.ErrNil
	}
	if per < 1 {
		return nil, nil, 0, api.ErrArg
	}
	if d.Down() {
		return nil, nil, 0, api.ErrDown
	}
	m := &model{d: d, per: per, next: 1, raw: raw}
	// Which segments are the journal's hangs on nothing but their bytes, so it is told before the first raw write.
	all := segmentsOf(d)
	first := 1
	var records [][]byte
	if len(all) > 0 {
		first, m.next = all[0], all[0]
	}
	for len(m.parts) < len(all) && all[len(m.parts)] == m.next {
		in, _ := recordsIn(bytesOf(d, m.next))
		m.parts = append(m.parts, part{m.next, len(in)})
		records = append(records, in...)
		m.next += len(in)
	}
	for i, segment := range all {
		if e := m.settle(segment, i < len(m.parts)); e != api.OK {
			return nil, nil, 0, e
		}
	}
	return m, records, first, api.OK
}

// settle makes the raw writes of an opening for a segment.
func (m *model) settle(segment int, mine bool) api.Errno {
	if !mine {
		return m.do("Remove", segment, 0)
	}
	b := bytesOf(m.d, segment)
	if _, n := recordsIn(b); n != len(b) {
		if e := m.do("Truncate", segment, n); e != api.OK {
			return e
		}
	}
	return m.do("Sync", segment, 0)
}

// target is the part of the journal to which the next record goes, and its place.
func (m *model) target() (part, int) {
	if len(m.parts) == 0 {
		return part{1, 0}, 0
	}
	last := len(m.parts) - 1
	if m.parts[last].records >= m.per {
		return part{m.next, 0}, last + 1
	}
	return m.parts[last], last
}

func (m *model) Append(record []byte) (int, api.Errno) {
	if m == nil {
		return 0, api.ErrNil
	}
	if len(record) > 65536 {
		return 0, api.ErrLong
	}
	if m.broken {
		return 0, m.e
	}
	to, at := m.target()
	if to.first > 999999999 {
		return 0, api.ErrFull
	}
	before := m.d.Writes()
	e := m.d.Append(fmt.Sprintf("j%09d", to.first), []byte(framed(string(record))))
	if m.d.Writes() > before {
		*m.raw = append(*m.raw, fmt.Sprintf("Append #%d %d", to.first, 8+len(record)))
	}
	switch e {
	case api.OK:
	case api.ErrFull, api.ErrLong:
		return 0, api.ErrFull
	default:
		return 0, m.fail(e)
	}
	if e := m.do("Sync", to.first, 0); e != api.OK {
		return 0, m.fail(e)
	}
	to.records++
	m.parts = append(m.parts[:at], to)
	m.next++
	return m.next - 1, api.OK
}

func (m *model) fail(e api.Errno) api.Errno {
	m.broken, m.e = true, e
	return e
}

func (m *model) Prune(below int) (int, api.Errno) {
	if m == nil {
		return 0, api.ErrNil
	}
	if m.broken {
		return 0, m.e
	}
	n := 0
	for !m.d.Down() && len(m.parts) >= 2 && m.parts[1].first <= below {
		if e := m.do("Remove", m.parts[0].first, 0); e != api.OK {
			return 0, m.fail(e)
		}
		m.parts = m.parts[1:]
		n++
	}
	return n, api.OK
}

func (m *model) Next() int {
	if m == nil {
		return 0
	}
	return m.next
}

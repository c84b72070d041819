package wal

import (
	"encoding/binary"
	"fmt"
	"hash/crc32"
	"math"
	"slices"
	"strconv"
	"strings"
	"testing"

	"bulwark/api"
	"bulwark/disk"
)

const plenty = 1 << 24

// points are what *n in a script is a part of.
var points = strings.Repeat(".", 1<<17)

// journal has the calls of a journal: a Wal has them, and so has the model that the tests hold against it.
type journal interface {
	Append(record []byte) (int, api.Errno)
	Prune(below int) (int, api.Errno)
	Next() int
}

// side is a disk and the journal on it, of the program or of the model.
type side struct {
	d     *disk.Disk
	j     journal
	words bool     // of the model
	raw   []string // the model's raw writes
}

func programSide(room int) *side {
	return &side{d: disk.New(room), j: (*Wal)(nil)}
}

func modelSide(room int) *side {
	return &side{d: disk.New(room), j: (*model)(nil), words: true}
}

// framed is the frame of a record, as the chapter says it, by the library's means.
func framed(record string) string {
	b := binary.LittleEndian.AppendUint32(nil, uint32(len(record)))
	b = binary.LittleEndian.AppendUint32(b, crc32.ChecksumIEEE([]byte(record)))
	return string(b) + record
}

// text is what a word of a script stands for: - for no bytes, *n for n points, [..] for the frame of what stands between, ^ for its last byte changed, <n for its last n bytes taken away, any other for itself.
func text(word string) string {
	if word == "-" {
		return ""
	}
	out, frame := "", ""
	for len(word) > 0 {
		c := word[0]
		word = word[1:]
		switch c {
		case '[':
			inner, rest, _ := strings.Cut(word, "]")
			frame, word = framed(text(inner)), rest
			out += frame
		case '^':
			out = out[:len(out)-1] + string([]byte{out[len(out)-1] ^ 1})
		case '*', '<':
			end := strings.IndexFunc(word+".", func(r rune) bool { return r < '0' || r > '9' })
			n := number10(word[:end])
			word = word[end:]
			if c == '*' {
				out += points[:n]
			} else {
				out = out[:len(out)-n]
			}
		default:
			out += string([]byte{c})
		}
	}
	return out
}

// fileName is what a word of a script stands for as a name: #n for that of the segment which begins with record n, any other for itself.
func fileName(word string) string {
	if first, ok := strings.CutPrefix(word, "#"); ok {
		return fmt.Sprintf("j%09d", number10(first))
	}
	return word
}

// showName is the word that stands for a name.
func showName(name string) string {
	if len(name) == 10 && name[0] == 'j' {
		if n, err := strconv.Atoi(name[1:]); err == nil && fileName("#"+strconv.Itoa(n)) == name {
			return "#" + strconv.Itoa(n)
		}
	}
	return name
}

// show is the word that stands for the bytes of a record.
func show(b []byte) string {
	s := string(b)
	switch {
	case s == "":
		return "-"
	case len(s) > 20 && strings.Trim(s, ".") == "":
		return "*" + strconv.Itoa(len(s))
	}
	return s
}

// number10 is an int in a script: max and min are the greatest and the least one.
func number10(word string) int {
	switch word {
	case "max":
		return math.MaxInt
	case "min":
		return math.MinInt
	}
	n, err := strconv.Atoi(word)
	if err != nil {
		panic(err)
	}
	return n
}

func errorName(e api.Errno) string {
	switch e {
	case api.OK:
		return "OK"
	case api.ErrArg:
		return "ErrArg"
	case api.ErrNil:
		return "ErrNil"
	case api.ErrLong:
		return "ErrLong"
	case api.ErrDown:
		return "ErrDown"
	case api.ErrFile:
		return "ErrFile"
	case api.ErrFull:
		return "ErrFull"
	}
	return "error " + strconv.Itoa(int(e))
}

// counted is the answer of a call with a number and an error: the number alone, or the error alone if the number is 0 beside it.
func counted(n int, e api.Errno) string {
	switch {
	case e == api.OK:
		return strconv.Itoa(n)
	case n == 0:
		return errorName(e)
	}
	return errorName(e) + " beside " + strconv.Itoa(n)
}

// opened is the answer of Open: the first record's number and the records, or the error alone if there is nothing beside it.
func opened(isNil bool, records [][]byte, first int, e api.Errno) string {
	var out strings.Builder
	if e != api.OK {
		out.WriteString(errorName(e))
		if isNil && len(records) == 0 && first == 0 {
			return out.String()
		}
		out.WriteString(" beside ")
	}
	if isNil {
		out.WriteString("no journal, ")
	}
	out.WriteString(strconv.Itoa(first) + ":")
	for _, r := range records {
		out.WriteString(" " + show(r))
	}
	return out.String()
}

// open opens the journal of the side's disk. Beside an error there is none from then on.
func (s *side) open(per int) string {
	if s.words {
		m, records, first, e := openModel(s.d, per, &s.raw)
		s.j = m
		return opened(m == nil, records, first, e)
	}
	w, records, first, e := Open(s.d, per)
	s.j = w
	return opened(w == nil, records, first, e)
}

// call makes the call of a line, and answers what it answered.
func (s *side) call(line string) string {
	w := strings.Fields(line)
	switch w[0] {
	case "Open":
		return s.open(number10(w[1]))
	case "Append":
		return counted(s.j.Append([]byte(text(w[1]))))
	case "Prune":
		return counted(s.j.Prune(number10(w[1])))
	case "Next":
		return strconv.Itoa(s.j.Next())
	}
	return callDisk(s.d, w)
}

// callDisk makes a call of the disk itself: what it answered, nothing for those without a result.
func callDisk(d *disk.Disk, w []string) string {
	switch w[0] {
	case "disk.Append":
		return errorName(d.Append(fileName(w[1]), []byte(text(w[2]))))
	case "disk.Sync":
		return errorName(d.Sync(fileName(w[1])))
	case "disk.Truncate":
		return errorName(d.Truncate(fileName(w[1]), number10(w[2])))
	case "disk.Remove":
		return errorName(d.Remove(fileName(w[1])))
	case "disk.Names":
		return names(d)
	case "disk.Writes":
		return strconv.Itoa(d.Writes())
	case "disk.Room":
		d.Room(number10(w[1]))
	case "disk.Arm":
		d.Arm(number10(w[1]), number10(w[2]))
	case "disk.Off":
		d.Off(number10(w[1]))
	case "disk.On":
		d.On()
	default:
		panic("no such call: " + strings.Join(w, " "))
	}
	return ""
}

// names are those of a disk's files; a number in parentheses is that of the file's bytes.
func names(d *disk.Disk) string {
	var out []string
	for _, name := range d.Names() {
		b, _ := d.Read(name)
		out = append(out, fmt.Sprintf("%s(%d)", showName(name), len(b)))
	}
	return strings.Join(out, " ")
}

// isDisk reports whether a line is a call of the disk itself.
func isDisk(line string) bool { return strings.HasPrefix(line, "disk.") }

// view is all that can be seen of a disk without changing it.
func view(d *disk.Disk) string {
	var out strings.Builder
	fmt.Fprintf(&out, "down %v, %d raw writes", d.Down(), d.Writes())
	for _, name := range d.Names() {
		b, e := d.Read(name)
		out.WriteString(", " + showName(name) + ": " + errorName(e) + " ")
		if len(b) > 200 {
			fmt.Fprintf(&out, "%d bytes with the CRC %08x", len(b), crc32.ChecksumIEEE(b))
		} else {
			out.WriteString(strconv.Quote(string(b)))
		}
	}
	return out.String()
}

// step is a line of a script: a call, the answer it is to have, and the raw writes it is to make; neither need be told.
type step struct {
	call         string
	answer, raw  string
	told, traced bool
}

// steps are those of a script, which stand between semicolons.
func steps(script string) []step {
	var out []step
	for line := range strings.SplitSeq(script, ";") {
		var s step
		line, raw, traced := strings.Cut(line, " !")
		s.raw, s.traced = strings.TrimSpace(raw), traced
		line, answer, told := strings.Cut(line, " =")
		s.answer, s.told = strings.TrimSpace(answer), told
		if s.call = strings.TrimSpace(line); s.call == "" {
			continue
		}
		if isDisk(s.call) && !told {
			// What a test sets up is to succeed, unless it tells otherwise.
			s.answer, s.told = quiet(s.call), true
		}
		out = append(out, s)
	}
	return out
}

func quiet(call string) string {
	switch strings.Fields(call)[0] {
	case "disk.Room", "disk.Arm", "disk.Off", "disk.On":
		return ""
	}
	return "OK"
}

// both makes a call on both sides, and fails the test unless they answer the same.
func both(t *testing.T, program, words *side, call string, where func() string) string {
	t.Helper()
	got, want := program.call(call), words.call(call)
	if got != want {
		t.Fatalf("%s: %s, want %s\n%s", call, got, want, where())
	}
	return got
}

// same fails the test unless both disks look the same.
func same(t *testing.T, program, words *side, where func() string) {
	t.Helper()
	if got, want := view(program.d), view(words.d); got != want {
		t.Fatalf("the disk has: %s\nwant %s\n%s", got, want, where())
	}
}

// trial is a script on a new disk of so much room.
type trial struct {
	room   int
	script string
	steps  []step
}

// check makes the calls of a script on a new disk of so much room, and holds what they answer, and the raw writes, against the script and against the model. Then it lets the power fail everywhere in them.
func check(t *testing.T, room int, script string) {
	t.Helper()
	c := trial{room, script, steps(script)}
	c.checkAnswers(t)
	c.checkFailures(t)
}

// checkWithout is check without power failures, for what would take long with them.
func checkWithout(t *testing.T, room int, script string) {
	t.Helper()
	trial{room, script, steps(script)}.checkAnswers(t)
}

func (c trial) checkAnswers(t *testing.T) {
	t.Helper()
	program, words := programSide(c.room), modelSide(c.room)
	for i, s := range c.steps {
		where := func() string { return fmt.Sprintf("at call %d, %s, of: %s", i+1, s.call, c.script) }
		words.raw = nil
		got, want := program.call(s.call), words.call(s.call)
		if s.told && got != s.answer {
			t.Errorf("%s, want %s\n%s", got, s.answer, where())
		}
		if got != want {
			t.Fatalf("%s, the model %s\n%s", got, want, where())
		}
		if raw := strings.Join(words.raw, ", "); s.traced && raw != s.raw {
			t.Errorf("the model's raw writes are %q, want %q\n%s", raw, s.raw, where())
		}
		same(t, program, words, where)
		c.checkSafe(t, i+1)
	}
}

// replay makes the first n calls on new disks.
func (c trial) replay(n int) (*side, *side) {
	program, words := programSide(c.room), modelSide(c.room)
	for _, s := range c.steps[:n] {
		program.call(s.call)
		words.call(s.call)
	}
	return program, words
}

// checkSafe holds what is safe after the first n calls against the model.
func (c trial) checkSafe(t *testing.T, n int) {
	t.Helper()
	program, words := c.replay(n)
	for _, s := range []*side{program, words} {
		s.d.Off(0)
		s.d.On()
	}
	same(t, program, words, func() string { return fmt.Sprintf("safe after %d calls of: %s", n, c.script) })
}

// keeps are the numbers of bytes that a power failure is made to keep, where n are pending at most.
func keeps(n int) []int {
	if n > 40 {
		return []int{-1, 0, 1, 4, 7, 8, 9, n - 9, n - 8, n - 1, n, n + 1}
	}
	var out []int
	for keep := -1; keep <= n+1; keep++ {
		out = append(out, keep)
	}
	return out
}

// pending is how many bytes a file may have pending in the n-th call.
func (c trial) pending(n int) int {
	_, words := c.replay(n)
	all := map[string]int{}
	for _, name := range words.d.Names() {
		b, _ := words.d.Read(name)
		all[name] = len(b)
	}
	words.d.Off(0)
	words.d.On()
	most := 0
	for _, name := range words.d.Names() {
		b, _ := words.d.Read(name)
		most = max(most, all[name]-len(b))
	}
	if w := strings.Fields(c.steps[n].call); w[0] == "Append" {
		most += 8 + len(text(w[1]))
	}
	return most
}

// writes is the number of raw writes that the n-th call makes.
func (c trial) writes(n int) int {
	_, words := c.replay(n)
	before := words.d.Writes()
	words.call(c.steps[n].call)
	return words.d.Writes() - before
}

// checkFailures lets the power fail in each raw write of each of the journal's calls, with each number of bytes kept. So each raw write and its place among the others show.
func (c trial) checkFailures(t *testing.T) {
	t.Helper()
	for i, s := range c.steps {
		if isDisk(s.call) {
			continue
		}
		writes, kept := c.writes(i), keeps(c.pending(i))
		for n := range writes {
			for _, keep := range kept {
				failure{c, i, n + 1, keep}.check(t)
			}
		}
	}
}

// failure is the power failing in a raw write of a call of a script.
type failure struct {
	trial
	at   int // the call
	nth  int // its raw write
	keep int
}

// perform makes the calls up to the failure, and that in which the power fails.
func (f failure) perform(t *testing.T) (*side, *side) {
	t.Helper()
	program, words := f.replay(f.at)
	program.d.Arm(f.nth, f.keep)
	words.d.Arm(f.nth, f.keep)
	both(t, program, words, f.steps[f.at].call, f.String)
	return program, words
}

func (f failure) String() string {
	return fmt.Sprintf("power failing in raw write %d of call %d, %s, with %d kept, of: %s", f.nth, f.at+1, f.steps[f.at].call, f.keep, f.script)
}

// check lets the power fail, calls what is left of the journal, and opens it again, also with the power failing in that.
func (f failure) check(t *testing.T) {
	t.Helper()
	program, words := f.perform(t)
	for _, call := range []string{"Append p", "Prune 99", "Next", "disk.On", "Append p", "Prune 99", "Append *65537", "Next", "disk.Names"} {
		both(t, program, words, call, f.String)
	}
	same(t, program, words, f.String)
	before := words.d.Writes()
	both(t, program, words, "Open 2", f.String)
	writes := words.d.Writes() - before
	goOn(t, program, words, f.String)
	for n := range writes {
		for _, keep := range []int{0, plenty} {
			program, words := f.perform(t)
			where := func() string {
				return fmt.Sprintf("%s\nand in raw write %d of the opening, with %d kept", f, n+1, keep)
			}
			for _, call := range []string{"disk.On", fmt.Sprintf("disk.Arm %d %d", n+1, keep), "Open 2", "disk.On", "Open 2"} {
				both(t, program, words, call, where)
			}
			goOn(t, program, words, where)
		}
	}
}

// goOn goes on with a journal that was opened.
func goOn(t *testing.T, program, words *side, where func() string) {
	t.Helper()
	same(t, program, words, where)
	for _, call := range []string{"Open 2", "Append qr", "Append -", "Append s", "Prune 3", "disk.Off 0", "disk.On", "Open 3"} {
		both(t, program, words, call, where)
	}
	same(t, program, words, where)
}

// numbered is a list of what form makes of the numbers from first to last.
func numbered(form string, first, last int) string {
	var out []string
	for n := range last - first + 1 {
		out = append(out, fmt.Sprintf(form, first+n))
	}
	return strings.Join(out, "; ") + "; "
}

// scribble overwrites all bytes of b, with the spare capacity behind them.
func scribble(b []byte) {
	b = b[:cap(b)]
	for i := range b {
		b[i] = '#'
	}
}

func strs(records [][]byte) []string {
	var out []string
	for _, r := range records {
		out = append(out, string(r))
	}
	return out
}

func equal(records [][]byte, want []string) bool { return slices.Equal(strs(records), want) }

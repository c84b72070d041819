package disk

import (
	"fmt"
	"math"
	"strconv"
	"strings"
	"testing"

	"bulwark/api"
)

// device has the calls of a disk: a Disk has them, and so has the model that the tests hold against it.
type device interface {
	Append(name string, b []byte) api.Errno
	Sync(name string) api.Errno
	Truncate(name string, n int) api.Errno
	Rename(from string, to string) api.Errno
	Remove(name string) api.Errno
	Read(name string) ([]byte, api.Errno)
	Names() []string
	Room(n int)
	Arm(n int, keep int)
	Off(keep int)
	On()
	Down() bool
	Writes() int
}

// text is what a word of a script stands for: - for no bytes, *n for n points, any other for itself.
func text(word string) string {
	if word == "-" {
		return ""
	}
	if n, many := strings.CutPrefix(word, "*"); many {
		return strings.Repeat(".", number(n))
	}
	return word
}

// show is the word that stands for s.
func show(s string) string {
	switch {
	case s == "":
		return "-"
	case len(s) > 20 && strings.Trim(s, ".") == "":
		return "*" + strconv.Itoa(len(s))
	case len(s) > 40:
		return fmt.Sprintf("%q.. of %d bytes", s[:40], len(s))
	}
	return s
}

// number is an int in a script: max and min are the greatest and the least one.
func number(word string) int {
	switch word {
	case "max":
		return math.MaxInt
	case "min":
		return math.MinInt
	}
	n, err := strconv.Atoi(word)
	if err != nil {
		panic(err)
	}
	return n
}

func errorName(e api.Errno) string {
	switch e {
	case api.OK:
		return "OK"
	case api.ErrArg:
		return "ErrArg"
	case api.ErrNil:
		return "ErrNil"
	case api.ErrLong:
		return "ErrLong"
	case api.ErrDown:
		return "ErrDown"
	case api.ErrFile:
		return "ErrFile"
	case api.ErrFull:
		return "ErrFull"
	}
	return "error " + strconv.Itoa(int(e))
}

// read is the answer of Read, with bytes beside an error told too, since there may be none.
func read(d device, name string) string {
	b, e := d.Read(name)
	if e != api.OK && len(b) == 0 {
		return errorName(e)
	}
	return errorName(e) + " " + show(string(b))
}

// names is the answer of Names.
func names(d device) string {
	all := d.Names()
	for i, name := range all {
		all[i] = show(name)
	}
	return show(strings.Join(all, " "))
}

// call makes the call of a line, and answers what it answered: nothing for those without a result.
func call(d device, line string) string {
	w := strings.Fields(line)
	switch w[0] {
	case "Append":
		return errorName(d.Append(text(w[1]), []byte(text(w[2]))))
	case "Sync":
		return errorName(d.Sync(text(w[1])))
	case "Truncate":
		return errorName(d.Truncate(text(w[1]), number(w[2])))
	case "Rename":
		return errorName(d.Rename(text(w[1]), text(w[2])))
	case "Remove":
		return errorName(d.Remove(text(w[1])))
	case "Read":
		return read(d, text(w[1]))
	case "Names":
		return names(d)
	case "Room":
		d.Room(number(w[1]))
	case "Arm":
		d.Arm(number(w[1]), number(w[2]))
	case "Off":
		d.Off(number(w[1]))
	case "On":
		d.On()
	case "Down":
		return strconv.FormatBool(d.Down())
	case "Writes":
		return strconv.Itoa(d.Writes())
	default:
		panic("no such call: " + line)
	}
	return ""
}

// wanted splits a line into its call and the answer that it is to have: OK for a raw write whose line tells none.
func wanted(line string) (string, string) {
	made, want, told := strings.Cut(line, " = ")
	if told {
		return made, want
	}
	switch strings.Fields(made)[0] {
	case "Room", "Arm", "Off", "On":
		return made, ""
	}
	return made, "OK"
}

// lines are those of a script, which stand between semicolons.
func lines(script string) []string {
	var out []string
	for line := range strings.SplitSeq(script, ";") {
		if line = strings.TrimSpace(line); line != "" {
			out = append(out, line)
		}
	}
	return out
}

// perform makes the calls of a script, whatever they answer.
func perform(d device, script string) {
	for _, line := range lines(script) {
		call(d, line)
	}
}

// view is all that can be seen of d without changing it.
func view(d device) string {
	var out strings.Builder
	fmt.Fprintf(&out, "down %v, %d writes", d.Down(), d.Writes())
	for _, name := range d.Names() {
		fmt.Fprintf(&out, ", %s: %s", show(name), read(d, name))
	}
	return out.String()
}

// check makes the calls of a script on a new disk of so much room and on the model, and holds both against the answers that the script tells. The model is held against them too, since other tests trust it.
func check(t *testing.T, room int, script string) {
	t.Helper()
	d, m := New(room), newModel(room)
	for i, line := range lines(script) {
		made, want := wanted(line)
		if got := call(d, made); got != want {
			t.Errorf("call %d, %s: %s, want %s\nin: %s", i+1, made, got, want, script)
		}
		if got := call(m, made); got != want {
			t.Fatalf("call %d, %s: the model answers %s, the script %s\nin: %s", i+1, made, got, want, script)
		}
		if got, want := view(d), view(m); got != want {
			t.Fatalf("after call %d, %s: %s\nwant %s\nin: %s", i+1, made, got, want, script)
		}
	}
}

package disk

import (
	"slices"
	"strings"

	"bulwark/api"
)

// content is a file of the model.
type content struct {
	name          string
	safe, pending string
}

// model is a disk as the document's words say it, sentence by sentence, without regard to how long that takes: its files stand in ascending order of their names.
type model struct {
	files []content
	room  int
	off   bool
	raw   int
	armed bool
	left  int // raw writes from now on up to the armed one
	keep  int
}

func newModel(room int) *model { return &model{room: room} }

func (m *model) place(name string) (int, bool) {
	return slices.BinarySearchFunc(m.files, name, func(c content, name string) int { return strings.Compare(c.name, name) })
}

// rejected is the first error of those that the section 'Errors' names, for a call that needs the file names[0].
func (m *model) rejected(names ...string) api.Errno {
	for _, name := range names {
		if len(name) == 0 || len(name) >= 17 {
			return api.ErrArg
		}
	}
	if m.off {
		return api.ErrDown
	}
	if _, there := m.place(names[0]); !there {
		return api.ErrFile
	}
	return api.OK
}

// strikes counts a raw write, and reports whether it is the armed one.
func (m *model) strikes() bool {
	m.raw++
	if !m.armed {
		return false
	}
	m.left--
	return m.left == 0
}

func (m *model) Append(name string, b []byte) api.Errno {
	e := m.rejected(name)
	created := e == api.ErrFile
	if e != api.OK && !created {
		return e
	}
	i, _ := m.place(name)
	files := slices.Clone(m.files)
	if created {
		files = slices.Insert(files, i, content{name: name})
	}
	files[i].pending += string(b)
	total := 0
	for _, c := range files {
		total += len(c.safe) + len(c.pending)
	}
	if len(files[i].safe)+len(files[i].pending) > 1048576 {
		return api.ErrLong
	}
	if len(files) > 16 || total > m.room {
		return api.ErrFull
	}
	m.files = files
	if m.strikes() {
		m.fail(m.keep)
		return api.ErrDown
	}
	return api.OK
}

// change performs a raw write that is not an Append, unless the power fails in it.
func (m *model) change(perform func()) api.Errno {
	if m.strikes() {
		m.fail(m.keep)
		return api.ErrDown
	}
	perform()
	return api.OK
}

func (m *model) Sync(name string) api.Errno {
	if e := m.rejected(name); e != api.OK {
		return e
	}
	return m.change(func() {
		i, _ := m.place(name)
		m.files[i] = content{name, m.files[i].safe + m.files[i].pending, ""}
	})
}

func (m *model) Truncate(name string, n int) api.Errno {
	if e := m.rejected(name); e != api.OK {
		return e
	}
	i, _ := m.place(name)
	safe, pending := m.files[i].safe, m.files[i].pending
	switch {
	case n < 0 || n > len(safe+pending):
		return api.ErrLong
	case n <= len(safe):
		safe, pending = safe[:n], ""
	default:
		pending = pending[:n-len(safe)]
	}
	return m.change(func() { m.files[i] = content{name, safe, pending} })
}

func (m *model) Rename(from string, to string) api.Errno {
	if e := m.rejected(from, to); e != api.OK {
		return e
	}
	return m.change(func() {
		if from == to {
			return
		}
		if i, there := m.place(to); there {
			m.files = slices.Delete(m.files, i, i+1)
		}
		i, _ := m.place(from)
		c := m.files[i]
		m.files = slices.Delete(m.files, i, i+1)
		c.name = to
		i, _ = m.place(to)
		m.files = slices.Insert(m.files, i, c)
	})
}

func (m *model) Remove(name string) api.Errno {
	if e := m.rejected(name); e != api.OK {
		return e
	}
	return m.change(func() {
		i, _ := m.place(name)
		m.files = slices.Delete(m.files, i, i+1)
	})
}

func (m *model) Read(name string) ([]byte, api.Errno) {
	if e := m.rejected(name); e != api.OK {
		return nil, e
	}
	i, _ := m.place(name)
	return []byte(m.files[i].safe + m.files[i].pending), api.OK
}

func (m *model) Names() []string {
	var out []string
	for _, c := range m.files {
		if !m.off {
			out = append(out, c.name)
		}
	}
	return out
}

func (m *model) Room(n int) { m.room = n }

func (m *model) Arm(n int, keep int) { m.armed, m.left, m.keep = n >= 1, n, keep }

func (m *model) Off(keep int) {
	if !m.off {
		m.fail(keep)
	}
}

func (m *model) fail(keep int) {
	for i, c := range m.files {
		kept := c.pending
		switch {
		case keep < 0:
			kept = ""
		case keep < len(kept):
			kept = kept[:keep]
		}
		m.files[i] = content{c.name, c.safe + kept, ""}
	}
	m.armed, m.off = false, true
}

func (m *model) On() { m.off = false }

func (m *model) Down() bool { return m.off }

func (m *model) Writes() int { return m.raw }

package disk

import (
	"math"
	"math/rand"
	"slices"
	"strings"
	"testing"

	"tabularium/api"
)

// cell is a byte of a model's file, and whether it is synced.
type cell struct {
	b      byte
	synced bool
}

type modelFile struct {
	name  string
	cells []cell
}

// model is a disk told otherwise: a list of files, rising, byte by byte, and a fuse that is asked of what a copy would tell.
type model struct {
	room  int
	files []modelFile
	fuse  int
	down  bool
}

func (m *model) copied() *model {
	c := *m
	c.files = nil
	for _, f := range m.files {
		c.files = append(c.files, modelFile{f.name, slices.Clone(f.cells)})
	}
	return &c
}

func (m *model) at(name string) int {
	return slices.IndexFunc(m.files, func(f modelFile) bool { return f.name == name })
}

func (m *model) used() int {
	n := 0
	for _, f := range m.files {
		n += len(f.cells)
	}
	return n
}

// change does what one of the four calls asks, if the power lasts.
func (m *model) change(do func(m *model) api.Errno) api.Errno {
	if m.down {
		return api.ErrLost
	}
	next := m.copied()
	e := do(next)
	if e != api.OK {
		return e
	}
	if m.fuse == 1 {
		m.down = true
		return api.ErrLost
	}
	if m.fuse > 1 {
		next.fuse--
	}
	*m = *next
	return api.OK
}

func (m *model) append(name, data string) api.Errno {
	if n := len(name); n == 0 || n > 30 {
		return api.ErrArg
	}
	i := m.at(name)
	if i < 0 {
		if len(data) > api.MaxFile || len(m.files) == api.MaxFiles {
			return api.ErrLong
		}
		i, _ = slices.BinarySearchFunc(m.files, name, func(f modelFile, name string) int { return strings.Compare(f.name, name) })
		m.files = slices.Insert(m.files, i, modelFile{name: name})
	}
	for k := range len(data) {
		m.files[i].cells = append(m.files[i].cells, cell{b: data[k]})
	}
	if len(m.files[i].cells) > api.MaxFile {
		return api.ErrLong
	}
	if m.used() > max(m.room, 0) {
		return api.ErrFull
	}
	return api.OK
}

func (m *model) sync(name string) api.Errno {
	i := m.at(name)
	if i < 0 {
		return api.ErrNone
	}
	for k := range m.files[i].cells {
		m.files[i].cells[k].synced = true
	}
	return api.OK
}

func (m *model) rename(from, to string) api.Errno {
	if n := len(to); n == 0 || n > 30 {
		return api.ErrArg
	}
	if m.at(from) < 0 {
		return api.ErrNone
	}
	if from == to {
		return api.OK
	}
	if m.at(to) >= 0 {
		m.remove(to)
	}
	m.files[m.at(from)].name = to
	slices.SortFunc(m.files, func(a, b modelFile) int { return strings.Compare(a.name, b.name) })
	return api.OK
}

func (m *model) remove(name string) api.Errno {
	i := m.at(name)
	if i < 0 {
		return api.ErrNone
	}
	m.files = slices.Delete(m.files, i, i+1)
	return api.OK
}

func (m *model) read(name string) (string, api.Errno) {
	if m.down {
		return "", api.ErrLost
	}
	i := m.at(name)
	if i < 0 {
		return "", api.ErrNone
	}
	var b []byte
	for _, c := range m.files[i].cells {
		b = append(b, c.b)
	}
	return string(b), api.OK
}

func (m *model) crash(keeps []int) {
	var left []modelFile
	for i, f := range m.files {
		c := uint64(0)
		if i < len(keeps) {
			c = uint64(keeps[i])
			if keeps[i] < 0 {
				c = ^c // of two's complement: -(c + 1)
			}
		}
		var sure, maybe []cell
		for _, x := range f.cells {
			if x.synced {
				sure = append(sure, x)
			} else {
				maybe = append(maybe, cell{x.b, true})
			}
		}
		f.cells = append(sure, maybe[:c%uint64(len(maybe)+1)]...)
		if len(f.cells) > 0 {
			left = append(left, f)
		}
	}
	m.files, m.fuse, m.down = left, 0, false
}

// sameAll: whether disk and model answer all questions alike.
func sameAll(t *testing.T, d *Disk, m *model) {
	t.Helper()
	var names []string
	used := 0
	if !m.down {
		used = m.used()
		for _, f := range m.files {
			names = append(names, f.name)
		}
	}
	if l := d.List(); !slices.Equal(l, names) {
		t.Fatalf("List() = %q, not %q", l, names)
	}
	if d.Used() != used || d.Down() != m.down {
		t.Fatalf("Used() = %d, not %d; Down() = %v", d.Used(), used, d.Down())
	}
	for _, name := range append(names, modelNames()...) {
		s, e := d.Read(name)
		if s1, e1 := m.read(name); s != s1 || e != e1 {
			t.Fatalf("Read(%q) = %q, %d, not %q, %d", name, s, e, s1, e1)
		}
	}
}

func modelNames() []string {
	return []string{"", "a", "b", "b\x00", "c", longest, tooLong, "\xff"}
}

// play does what the bytes say, with a disk and a model side by side.
func play(t *testing.T, script []byte) {
	next := func() int {
		if len(script) == 0 {
			return 0
		}
		b := script[0]
		script = script[1:]
		return int(b)
	}
	name := func() string {
		n := next()
		if n >= 192 { // so that there are more files than may be
			return "f" + string(rune('a'+n%32))
		}
		return modelNames()[n%len(modelNames())]
	}
	number := func() int {
		n := next()
		switch n {
		case 255:
			return math.MaxInt
		case 254:
			return math.MinInt
		}
		return n%24 - 12
	}
	room := next() - 8
	d, m := New(room), &model{room: room}
	for len(script) > 0 {
		got, e := api.OK, api.OK
		switch next() % 8 {
		case 0, 1, 2:
			a, s := name(), strings.Repeat(string(rune('0'+next()%10)), next()%8)
			got, e = d.Append(a, s), m.change(func(m *model) api.Errno { return m.append(a, s) })
		case 3:
			a := name()
			got, e = d.Sync(a), m.change(func(m *model) api.Errno { return m.sync(a) })
		case 4:
			a, b := name(), name()
			got, e = d.Rename(a, b), m.change(func(m *model) api.Errno { return m.rename(a, b) })
		case 5:
			a := name()
			got, e = d.Delete(a), m.change(func(m *model) api.Errno { return m.remove(a) })
		case 6:
			n := number()
			d.Fuse(n)
			m.fuse = max(n, 0)
		case 7:
			keeps := make([]int, next()%8)
			for i := range keeps {
				keeps[i] = number()
			}
			d.Crash(keeps)
			m.crash(keeps)
		}
		if got != e {
			t.Fatalf("error %d, not %d", got, e)
		}
		sameAll(t, d, m)
	}
}

// P4.1 to P4.3, P2, P4: whatever is done in whatever order, the disk answers as the chapter's words, taken byte by byte.
func TestAgainstModel(t *testing.T) {
	r := rand.New(rand.NewSource(4))
	for range 400 {
		script := make([]byte, 400)
		r.Read(script)
		if r.Intn(2) == 0 {
			script[0] = 255
		}
		play(t, script)
	}
}

func FuzzDisk(f *testing.F) {
	f.Add([]byte{255, 0, 1, 3, 3, 3, 1, 7, 1, 14})
	f.Fuzz(func(t *testing.T, script []byte) {
		if len(script) < 2000 {
			play(t, script)
		}
	})
}

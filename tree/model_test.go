package tree

import (
	"maps"
	"math"
	"math/rand/v2"
	"regexp"
	"slices"
	"strings"
	"testing"

	"tabularium/api"
)

// The model knows no list: a thing holds what stands in it by its name, and knows nothing of its own path.
type thing struct {
	what api.Node // its Path is empty
	in   map[string]*thing
}

var (
	modelForm = regexp.MustCompile(`\A(/|(/[a-z0-9._-]{1,20}){1,6})\z`)
	modelDots = regexp.MustCompile(`/\.{1,2}(/|\z)`)
)

func modelPath(p string) bool {
	return len(p) <= 120 && modelForm.MatchString(p) && !modelDots.MatchString(p)
}

func modelFits(n api.Node) bool {
	if !modelPath(n.Path) {
		return false
	}
	if n.Dir {
		return len(n.Blocks) == 0 && n.Writer == -1 && n.Quota >= -1 && n.Quota < 1<<53
	}
	for _, b := range n.Blocks {
		if min(b.ID, b.Gen) < 1 || max(b.ID, b.Gen) >= 1<<53 || b.Len != min(max(b.Len, 0), 64) {
			return false
		}
	}
	return n.Path != "/" && n.Quota == -1 && len(n.Blocks) < 9 && slices.Contains([]int{-1, 0, 1, 2, 3}, n.Writer)
}

// modelRight takes the nodes out of their order, and at the end asks whether it was that of their paths.
func modelRight(l []api.Node) bool {
	things := map[string]bool{} // whether it is a directory
	for _, n := range l {
		if _, twice := things[n.Path]; twice || !modelFits(n) {
			return false
		}
		things[n.Path] = n.Dir
	}
	for p := range things {
		if p != "/" && !things[p[:max(strings.LastIndexByte(p, '/'), 1)]] {
			return false
		}
	}
	return things["/"] && len(things) <= 60 && slices.Equal(paths(l), slices.Sorted(maps.Keys(things)))
}

// newModel: the model of a tree whose root has nothing of its own.
func newModel(l []api.Node) *thing {
	m := &thing{what: dir(""), in: map[string]*thing{}}
	for _, n := range l[1:] {
		m.add(n)
	}
	return m
}

// at: what stands at p; nil, if nothing does.
func (m *thing) at(p string) *thing {
	for _, name := range strings.FieldsFunc(p, func(r rune) bool { return r == '/' }) {
		if m == nil {
			return nil
		}
		m = m.in[name]
	}
	return m
}

func cutLast(p string) (dir, name string) {
	i := strings.LastIndexByte(p, '/')
	return p[:i], p[i+1:]
}

// tell: the tree that the model is.
func (m *thing) tell() []api.Node {
	all := map[string]api.Node{}
	m.gather("", all)
	var l []api.Node
	for _, p := range slices.Sorted(maps.Keys(all)) {
		l = append(l, all[p])
	}
	return l
}

func (m *thing) gather(p string, all map[string]api.Node) {
	n := m.what
	n.Path = p
	if p == "" {
		n.Path = "/"
	}
	all[n.Path] = n
	for name, x := range m.in {
		x.gather(p+"/"+name, all)
	}
}

func (m *thing) list(p string) ([]string, api.Errno) {
	switch x := m.at(p); {
	case !modelPath(p):
		return nil, api.ErrArg
	case x == nil:
		return nil, api.ErrNone
	case !x.what.Dir:
		return nil, api.ErrDir
	default:
		return slices.Sorted(maps.Keys(x.in)), api.OK
	}
}

func (m *thing) add(n api.Node) api.Errno {
	if !modelFits(n) || n.Path == "/" {
		return api.ErrArg
	}
	up, name := cutLast(n.Path)
	switch in := m.at(up); {
	case m.at(n.Path) != nil:
		return api.ErrExist
	case in == nil:
		return api.ErrNone
	case !in.what.Dir:
		return api.ErrDir
	case len(m.tell()) >= 60:
		return api.ErrLong
	default:
		n.Path = ""
		in.in[name] = &thing{what: n, in: map[string]*thing{}}
	}
	return api.OK
}

func (m *thing) remove(p string) api.Errno {
	if !modelPath(p) || p == "/" {
		return api.ErrArg
	}
	if m.at(p) == nil {
		return api.ErrNone
	}
	up, name := cutLast(p)
	delete(m.at(up).in, name)
	return api.OK
}

func (m *thing) move(from, to string) api.Errno {
	if !modelPath(from) || !modelPath(to) || from == "/" || to == "/" || strings.HasPrefix(to+"/", from+"/") {
		return api.ErrArg
	}
	up, name := cutLast(to)
	what, in, there := m.at(from), m.at(up), m.at(to)
	switch {
	case what == nil || in == nil:
		return api.ErrNone
	case !in.what.Dir:
		return api.ErrDir
	case there != nil && (what.what.Dir || there.what.Dir):
		return api.ErrExist
	}
	moved := map[string]api.Node{}
	what.gather(to, moved)
	for p := range moved {
		if !modelPath(p) {
			return api.ErrLong
		}
	}
	m.remove(from)
	in.in[name] = what
	return api.OK
}

// pick is where deeds take their choices from: bytes, and nothing but 0 behind their end.
type pick struct{ left []byte }

func (c *pick) below(n int) int {
	if len(c.left) == 0 {
		return 0
	}
	x := int(c.left[0])
	c.left = c.left[1:]
	return x % n
}

// path: most often one that is there, or would stand in one; seldom another, or none.
func (c *pick) path(l []api.Node) string {
	if c.below(2) == 0 { // of what would stand in a file there is little to tell
		l = slices.DeleteFunc(slices.Clone(l), func(n api.Node) bool { return !n.Dir })
	}
	p := "/"
	if len(l) > 0 {
		p = l[c.below(len(l))].Path
	}
	in := strings.TrimSuffix(p, "/")
	names := []string{"a", "b", "a-b", "a.", "ab", "0", "_", "..."}
	switch c.below(16) {
	case 0, 1, 2, 3, 4, 5:
		return p
	case 6:
		return in + "/" + names[c.below(8)] + "/" + names[c.below(8)]
	case 7:
		return in + "/" + x(17+c.below(5))
	case 8:
		return p + []string{"/", "/.", "/..", "//a", "/A", "", "/é", "/a/"}[c.below(8)]
	default:
		return in + "/" + names[c.below(8)]
	}
}

// node: most often one that fits.
func (c *pick) node(p string) api.Node {
	numbers := []int{-1, -2, 0, 1, 3, 4, 64, 65, 1<<53 - 1, 1 << 53, math.MinInt, math.MaxInt}
	n := api.Node{Path: p, Dir: c.below(2) == 0, Quota: -1, Writer: -1}
	if n.Dir && c.below(2) == 0 {
		n.Quota = c.below(70)
	}
	if !n.Dir {
		n.Writer = c.below(5) - 1
		n.Blocks = full(c.below(9))
	}
	switch c.below(24) {
	case 0:
		n.Quota = numbers[c.below(len(numbers))]
	case 1:
		n.Writer = numbers[c.below(len(numbers))]
	case 2:
		n.Blocks = append(n.Blocks, api.Block{ID: 1, Gen: numbers[c.below(len(numbers))], Len: 1})
	case 3:
		n.Blocks = append(n.Blocks, api.Block{ID: numbers[c.below(len(numbers))], Gen: 1, Len: 1})
	case 4:
		n.Blocks = append(n.Blocks, api.Block{ID: 1, Gen: 1, Len: numbers[c.below(len(numbers))]})
	case 5:
		n.Dir = !n.Dir
	}
	return n
}

// starts: trees from which deeds go on, in some of which little is left to do until something is too long.
func starts() [][]api.Node {
	thread := append(chain("/a/a/a/a/a/a"), chain("/b/b/b")[1:]...)
	wide := append(chain("/" + strings.Repeat(x(20)+"/", 4) + x(14))[:6], dir("/y"), dir("/y/"+x(18)))
	return [][]api.Node{{dir("/")}, forest(), crowd(57), crowd(60), thread, wide}
}

// follow does deeds with a tree and with a model, and holds what they answer against each other; how often each error was told.
func follow(t *testing.T, l []api.Node, deeds []byte) map[api.Errno]int {
	c, m := &pick{deeds}, newModel(l)
	wantTree(t, "the start", l, api.OK, m.tell(), api.OK)
	told := map[api.Errno]int{}
	for len(c.left) > 0 {
		var got []api.Node
		var e, want api.Errno
		switch c.below(30) {
		case 0:
			p := c.path(l)
			want = m.remove(p)
			got, e = Remove(l, p)
		case 1, 2, 3, 4, 5, 6, 7, 8:
			from, to := c.path(l), c.path(l)
			want = m.move(from, to)
			got, e = Move(l, from, to)
		case 9, 10:
			p := c.path(l)
			names, want := m.list(p)
			wantList(t, l, p, names, want)
			told[want]++
			continue
		default:
			n := c.node(c.path(l))
			wantFits(t, n, modelFits(n))
			want = m.add(n)
			got, e = Add(l, n)
		}
		told[want]++
		if want == api.OK {
			l = m.tell()
		}
		if e != want || want == api.OK && !same(got, l) || want != api.OK && len(got) > 0 {
			t.Fatalf("error %d, not %d: %s, not %s, behind deeds %v", e, want, tell(got), tell(l), deeds[:len(deeds)-len(c.left)])
		}
		wantRight(t, "what came", l, true)
		if t.Failed() {
			t.FailNow()
		}
	}
	return told
}

// P7.1 to P7.4: trees answer what the model does, deed by deed.
func TestAgainstModel(t *testing.T) {
	r := rand.New(rand.NewPCG(7, 7))
	told := map[api.Errno]int{}
	for range 80 {
		deeds := make([]byte, 50+r.IntN(1000))
		for i := range deeds {
			deeds[i] = byte(r.Uint32())
		}
		for _, l := range starts() {
			for e, n := range follow(t, l, deeds) {
				told[e] += n
			}
		}
	}
	for _, e := range []api.Errno{api.OK, api.ErrArg, api.ErrNone, api.ErrExist, api.ErrDir, api.ErrLong} {
		if told[e] < 300 {
			t.Errorf("error %d was told only %d times", e, told[e])
		}
	}
}

// P7.1: lists that are trees, or nearly so, are told as the model tells them.
func TestRightAgainstModel(t *testing.T) {
	r := rand.New(rand.NewPCG(7, 1))
	told := map[bool]int{}
	for range 30000 {
		deeds := make([]byte, 40)
		for i := range deeds {
			deeds[i] = byte(r.Uint32())
		}
		c := &pick{deeds}
		l := forest()
		for range c.below(4) {
			switch i := c.below(len(l)); c.below(5) {
			case 0:
				l = slices.Delete(l, i, i+1)
			case 1:
				k := c.below(len(l))
				l[i], l[k] = l[k], l[i]
			case 2:
				l[i] = c.node(l[i].Path)
			case 3:
				l = slices.Insert(l, i, c.node(c.path(l)))
			case 4:
				l = append(l, c.node(c.path(l)))
				slices.SortFunc(l, func(a, b api.Node) int { return strings.Compare(a.Path, b.Path) })
			}
		}
		want := modelRight(l)
		told[want]++
		wantRight(t, "nearly a tree", l, want)
		if t.Failed() {
			return
		}
	}
	if min(told[true], told[false]) < 1000 {
		t.Errorf("lists that are trees, and not: %v", told)
	}
}

func FuzzTree(f *testing.F) {
	f.Add([]byte{9, 0, 1, 9, 0, 0, 0, 9, 9, 1, 1, 9, 1, 1, 1})
	f.Add([]byte{1, 1, 9, 2, 2, 9, 3, 0, 1, 0})
	f.Fuzz(func(t *testing.T, deeds []byte) {
		for _, l := range starts() {
			follow(t, l, deeds[:min(len(deeds), 600)])
		}
	})
}

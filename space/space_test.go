package space

import (
	"fmt"
	"math"
	"slices"
	"strconv"
	"strings"
	"testing"

	"tabularium/api"
)

const greatest = 1<<53 - 1

func dir(p string) api.Node {
	return api.Node{Path: p, Dir: true, Quota: -1, Writer: -1}
}

func limited(p string, quota int) api.Node {
	return api.Node{Path: p, Dir: true, Quota: quota, Writer: -1}
}

func file(p string, writer int, blocks ...api.Block) api.Node {
	return api.Node{Path: p, Quota: -1, Writer: writer, Blocks: blocks}
}

func block(id, gen, length int) api.Block {
	return api.Block{ID: id, Gen: gen, Len: length}
}

// town: a space in which there is something of each kind. Clients 1 and 2 have leases, 0 and 3 have none.
func town() api.Space {
	return api.Space{
		Txid: 40, NextBlock: 20, NextGen: 30, Now: 7,
		Nodes: []api.Node{
			dir("/"),
			limited("/a", 5), // 4 of them are there
			dir("/a/b"),
			file("/a/b/f", 1, block(5, 9, 64), block(2, 29, 0), block(19, 1, 7)),
			file("/a/g", -1, block(1, 2, 3)),
			limited("/c", 1), // used up
			dir("/d"),
			file("/e", 2),
			file("/h", -1),
			limited("/q", 3), // used up: what stands below it has no quota of its own
			dir("/q/r"),
			dir("/q/r/s"),
		},
		Leases: []api.Lease{{Client: 1, Until: 12}, {Client: 2, Until: 30}},
	}
}

// with: s, in memory of its own, when do was done to it.
func with(s api.Space, do func(s *api.Space)) api.Space {
	s.Nodes, s.Leases = slices.Clone(s.Nodes), slices.Clone(s.Leases)
	for i := range s.Nodes {
		s.Nodes[i].Blocks = slices.Clone(s.Nodes[i].Blocks)
	}
	do(&s)
	return s
}

// at: the node of s at p, which must be there.
func at(s *api.Space, p string) *api.Node {
	for i := range s.Nodes {
		if s.Nodes[i].Path == p {
			return &s.Nodes[i]
		}
	}
	panic("nothing at " + p)
}

// put: n is in s, at its place.
func put(s *api.Space, n api.Node) {
	s.Nodes = append(s.Nodes, n)
	slices.SortFunc(s.Nodes, func(a, b api.Node) int { return strings.Compare(a.Path, b.Path) })
}

// drop: no node at p is in s.
func drop(s *api.Space, p string) {
	s.Nodes = slices.DeleteFunc(s.Nodes, func(n api.Node) bool { return n.Path == p })
}

// crowd: a space with so many nodes, the root, a directory, the file /f and more files.
func crowd(nodes int) api.Space {
	s := api.Space{NextBlock: 1, NextGen: 1, Nodes: []api.Node{dir("/"), dir("/d"), file("/f", -1)}}
	for i := 3; i < nodes; i++ {
		put(&s, file("/n"+strconv.Itoa(i), -1))
	}
	return s
}

func sameNode(a, b api.Node) bool {
	return a.Path == b.Path && a.Dir == b.Dir && a.Quota == b.Quota && a.Writer == b.Writer && slices.Equal(a.Blocks, b.Blocks)
}

// same: nil and empty lists count as one.
func same(a, b api.Space) bool {
	return a.Txid == b.Txid && a.NextBlock == b.NextBlock && a.NextGen == b.NextGen && a.Now == b.Now &&
		slices.EqualFunc(a.Nodes, b.Nodes, sameNode) && slices.Equal(a.Leases, b.Leases)
}

func sameAnswer(a, b api.Answer) bool {
	return a.Err == b.Err && a.Block == b.Block && a.N == b.N && sameNode(a.Node, b.Node) && slices.Equal(a.Names, b.Names)
}

func tell(x any) string {
	return fmt.Sprintf("%+v", x)
}

func wantRight(t *testing.T, what string, s api.Space, want bool) {
	t.Helper()
	if Right(s) != want {
		t.Errorf("%s: Right is %v: %s", what, !want, tell(s))
	}
}

// wantApply: e makes next of s, with this answer, and both are right.
func wantApply(t *testing.T, s api.Space, e api.Edit, next api.Space, a api.Answer) {
	t.Helper()
	wantRight(t, "ahead", s, true)
	gotSpace, got := Apply(s, e)
	if !same(gotSpace, next) {
		t.Errorf("%s makes %s, not %s", tell(e), tell(gotSpace), tell(next))
	}
	if !sameAnswer(got, a) {
		t.Errorf("%s is answered %s, not %s", tell(e), tell(got), tell(a))
	}
	wantRight(t, "behind", gotSpace, true)
}

// wantRefused: e is answered with an error alone, beside an empty space.
func wantRefused(t *testing.T, s api.Space, e api.Edit, want api.Errno) {
	t.Helper()
	next, a := Apply(s, e)
	if !sameAnswer(a, api.Answer{Err: want}) || want == api.OK {
		t.Errorf("%s is answered %s, not error %d alone", tell(e), tell(a), want)
	}
	if !same(next, api.Space{}) {
		t.Errorf("%s: beside error %d stands %s", tell(e), want, tell(next))
	}
}

// wantOK: e can be made; what comes of it.
func wantOK(t *testing.T, s api.Space, e api.Edit) api.Space {
	t.Helper()
	next, a := Apply(s, e)
	if a.Err != api.OK {
		t.Fatalf("%s is refused: error %d", tell(e), a.Err)
	}
	wantRight(t, "behind "+tell(e), next, true)
	return next
}

// noPaths: texts that are none, but not longer than an edit's may be.
func noPaths() []string {
	return []string{"", "a", "//", "/a/", "a/b", "/A", "/.", "/..", "/a/../b", "/a b", "/a\x00", "/ä", "/\xff",
		"/" + strings.Repeat("x", 21), strings.Repeat("/x", 7), strings.Repeat("/x", 60), strings.Repeat("x", 120), "/e/", "/a/b/f/"}
}

// wrongs: spaces that are not right, of many kinds.
func wrongs() map[string]api.Space {
	all := map[string]api.Space{"nothing at all": {}}
	for what, do := range map[string]func(s *api.Space){
		"a Txid below 0":         func(s *api.Space) { s.Txid = -1 },
		"a Txid beyond":          func(s *api.Space) { s.Txid = 301 },
		"the least Txid":         func(s *api.Space) { s.Txid = math.MinInt },
		"the greatest Txid":      func(s *api.Space) { s.Txid = math.MaxInt },
		"a NextBlock of 0":       func(s *api.Space) { s.NextBlock = 0 },
		"a NextBlock beyond":     func(s *api.Space) { s.NextBlock = greatest + 1 },
		"a NextGen of 0":         func(s *api.Space) { s.NextGen = 0 },
		"a NextGen beyond":       func(s *api.Space) { s.NextGen = greatest + 1 },
		"a Now below 0":          func(s *api.Space) { s.Now = -1 },
		"a Now beyond":           func(s *api.Space) { s.Now = greatest - 9 },
		"no nodes":               func(s *api.Space) { s.Nodes = nil },
		"no root":                func(s *api.Space) { s.Nodes = s.Nodes[1:] },
		"a directory Over":       func(s *api.Space) { at(s, "/a").Quota = 3 },
		"two blocks of one ID":   func(s *api.Space) { at(s, "/a/g").Blocks[0].ID = 5 },
		"a block of NextBlock":   func(s *api.Space) { at(s, "/a/g").Blocks[0].ID = 20 },
		"a block of NextGen":     func(s *api.Space) { at(s, "/a/g").Blocks[0].Gen = 30 },
		"leases out of order":    func(s *api.Space) { slices.Reverse(s.Leases) },
		"a lease of nobody":      func(s *api.Space) { s.Leases[0].Client = -1 },
		"a lease that is beyond": func(s *api.Space) { s.Leases[0].Until = greatest + 1 },
		"a writer without one":   func(s *api.Space) { s.Leases = s.Leases[:1] },
	} {
		all[what] = with(town(), do)
	}
	return all
}

// P11.1: New, thing by thing.
func TestNew(t *testing.T) {
	s := New()
	if s.Txid != 0 || s.NextBlock != 1 || s.NextGen != 1 || s.Now != 0 {
		t.Errorf("its numbers are others: %s", tell(s))
	}
	if len(s.Nodes) != 1 || !sameNode(s.Nodes[0], api.Node{Path: "/", Dir: true, Quota: -1, Writer: -1}) {
		t.Errorf("its nodes are %s", tell(s.Nodes))
	}
	if len(s.Leases) != 0 {
		t.Errorf("its leases are %s", tell(s.Leases))
	}
	wantRight(t, "New", s, true)
	if b := Blocks(s); len(b) != 0 {
		t.Errorf("it has the blocks %v", b)
	}
}

// P11.1: the edges of each number of a space.
func TestRightNumbers(t *testing.T) {
	for what, c := range map[string]struct {
		set         func(s *api.Space, n int)
		least, most int
	}{
		"Txid":      {func(s *api.Space, n int) { s.Txid = n }, 0, 300},
		"NextBlock": {func(s *api.Space, n int) { s.NextBlock = n }, 1, greatest},
		"NextGen":   {func(s *api.Space, n int) { s.NextGen = n }, 1, greatest},
		"Now":       {func(s *api.Space, n int) { s.Now = n }, 0, greatest - 10},
	} {
		for _, n := range []int{math.MinInt, -1 << 53, -2, -1, 0, 1, 2, 299, 300, 301, greatest - 10, greatest - 9, greatest, greatest + 1, math.MaxInt} {
			s := New()
			c.set(&s, n)
			wantRight(t, fmt.Sprint(what, " ", n), s, c.least <= n && n <= c.most)
		}
	}
}

// P11.1: nodes that are no tree, or in which something is Over, make no space.
func TestRightNodes(t *testing.T) {
	wantRight(t, "the town", town(), true)
	wantRight(t, "60 nodes", crowd(60), true)
	wantRight(t, "61 nodes", crowd(61), false)
	for what, do := range map[string]func(s *api.Space){
		"none":                  func(s *api.Space) { s.Nodes = nil },
		"an empty list":         func(s *api.Space) { s.Nodes = []api.Node{} },
		"no root":               func(s *api.Space) { s.Nodes = s.Nodes[1:] },
		"a root that is a file": func(s *api.Space) { s.Nodes = []api.Node{file("/", -1)} },
		"no order":              func(s *api.Space) { s.Nodes[2], s.Nodes[4] = s.Nodes[4], s.Nodes[2] },
		"one twice":             func(s *api.Space) { put(s, dir("/d")) },
		"no parent":             func(s *api.Space) { put(s, dir("/x/y")) },
		"a file as a parent":    func(s *api.Space) { put(s, dir("/h/y")) },
		"no path":               func(s *api.Space) { put(s, dir("/z/")) },
		"a block too long":      func(s *api.Space) { at(s, "/a/g").Blocks[0].Len = 65 },
		"a block of ID 0":       func(s *api.Space) { at(s, "/a/g").Blocks[0].ID = 0 },
		"a block of Gen 0":      func(s *api.Space) { at(s, "/a/g").Blocks[0].Gen = 0 },
		"a writer beyond":       func(s *api.Space) { at(s, "/h").Writer = 4 },
		"a writer below":        func(s *api.Space) { at(s, "/h").Writer = -2 },
		"a quota below":         func(s *api.Space) { at(s, "/d").Quota = -2 },
		"/ Over":                func(s *api.Space) { at(s, "/").Quota = 11 },
		"/ Over with a 0":       func(s *api.Space) { at(s, "/").Quota = 0 },
		"/a Over":               func(s *api.Space) { at(s, "/a").Quota = 3 },
		"/d Over":               func(s *api.Space) { at(s, "/d").Quota = 0 },
		"/q/r Over":             func(s *api.Space) { at(s, "/q/r").Quota = 1 },
	} {
		wantRight(t, what, with(town(), do), false)
	}
	for what, do := range map[string]func(s *api.Space){
		"/ just full":     func(s *api.Space) { at(s, "/").Quota = 12 },
		"/a just full":    func(s *api.Space) { at(s, "/a").Quota = 4 },
		"/d just full":    func(s *api.Space) { at(s, "/d").Quota = 1 },
		"the root alone":  func(s *api.Space) { s.Nodes = s.Nodes[:1] },
		"a greater quota": func(s *api.Space) { at(s, "/a").Quota = greatest },
	} {
		wantRight(t, what, with(town(), do), true)
	}
}

// P11.1: no two blocks are of one ID, and all are less than what comes next.
func TestRightBlocks(t *testing.T) {
	for _, c := range []struct {
		what string
		do   func(s *api.Space)
		want bool
	}{
		{"two of one ID in one file", func(s *api.Space) { at(s, "/a/b/f").Blocks[2].ID = 5 }, false},
		{"neighbours of one ID in one file", func(s *api.Space) { at(s, "/a/b/f").Blocks[1].ID = 5 }, false},
		{"two of one ID in two files", func(s *api.Space) { at(s, "/a/g").Blocks[0].ID = 2 }, false},
		{"two that are the same in two files", func(s *api.Space) { at(s, "/h").Blocks = []api.Block{block(1, 2, 3)} }, false},
		{"three of one ID", func(s *api.Space) { at(s, "/a/g").Blocks = []api.Block{block(5, 1, 1), block(5, 2, 2)} }, false},
		{"two of one Gen", func(s *api.Space) { at(s, "/a/g").Blocks[0].Gen = 29 }, true},
		{"an ID of NextBlock less 1", func(s *api.Space) { at(s, "/a/g").Blocks[0].ID = 18 }, true},
		{"the last ID, one less", func(s *api.Space) { s.NextBlock = 19 }, false},
		{"an ID of NextBlock", func(s *api.Space) { at(s, "/a/g").Blocks[0].ID = 20 }, false},
		{"an ID of one more", func(s *api.Space) { at(s, "/a/g").Blocks[0].ID = 21 }, false},
		{"a Gen of NextGen less 1", func(s *api.Space) { at(s, "/a/g").Blocks[0].Gen = 29 }, true},
		{"a Gen of NextGen", func(s *api.Space) { at(s, "/a/g").Blocks[0].Gen = 30 }, false},
		{"a Gen of one more", func(s *api.Space) { at(s, "/a/g").Blocks[0].Gen = 31 }, false},
		{"an ID and a Gen of MaxNumber less 1", func(s *api.Space) {
			s.NextBlock, s.NextGen = greatest, greatest
			at(s, "/a/g").Blocks[0] = block(greatest-1, greatest-1, 64)
		}, true},
		{"an ID of MaxNumber", func(s *api.Space) {
			s.NextBlock, s.NextGen = greatest, greatest
			at(s, "/a/g").Blocks[0].ID = greatest
		}, false},
		{"a Gen of MaxNumber", func(s *api.Space) {
			s.NextBlock, s.NextGen = greatest, greatest
			at(s, "/a/g").Blocks[0].Gen = greatest
		}, false},
		{"a block of an ID beyond NextBlock, whose Gen is less", func(s *api.Space) { s.NextBlock = 3 }, false},
		{"no blocks, a NextBlock and a NextGen of 1", func(s *api.Space) {
			s.NextBlock, s.NextGen = 1, 1
			at(s, "/a/b/f").Blocks, at(s, "/a/g").Blocks = nil, nil
		}, true},
	} {
		wantRight(t, c.what, with(town(), c.do), c.want)
	}
}

// P11.1: leases are right, and who writes has one.
func TestRightLeases(t *testing.T) {
	for _, c := range []struct {
		what string
		do   func(s *api.Space)
		want bool
	}{
		{"out of order", func(s *api.Space) { slices.Reverse(s.Leases) }, false},
		{"one twice", func(s *api.Space) { s.Leases[1].Client = 1 }, false},
		{"of a client below", func(s *api.Space) { s.Leases = slices.Insert(s.Leases, 0, api.Lease{Client: -1}) }, false},
		{"of a client beyond", func(s *api.Space) { s.Leases = append(s.Leases, api.Lease{Client: 4}) }, false},
		{"until below 0", func(s *api.Space) { s.Leases[0].Until = -1 }, false},
		{"until beyond", func(s *api.Space) { s.Leases[0].Until = greatest + 1 }, false},
		{"until 0", func(s *api.Space) { s.Leases[0].Until = 0 }, true},
		{"until the greatest", func(s *api.Space) { s.Leases[0].Until = greatest }, true},
		{"none, and two write", func(s *api.Space) { s.Leases = nil }, false},
		{"one, and two write", func(s *api.Space) { s.Leases = s.Leases[:1] }, false},
		{"the other one", func(s *api.Space) { s.Leases = s.Leases[1:] }, false},
		{"none, and nobody writes", func(s *api.Space) {
			s.Leases = nil
			at(s, "/a/b/f").Writer, at(s, "/e").Writer = -1, -1
		}, true},
		{"two, and nobody writes", func(s *api.Space) { at(s, "/a/b/f").Writer, at(s, "/e").Writer = -1, -1 }, true},
		{"client 0 writes, and has none", func(s *api.Space) { at(s, "/e").Writer = 0 }, false},
		{"client 3 writes, and has none", func(s *api.Space) { at(s, "/e").Writer = 3 }, false},
		{"client 1 writes both", func(s *api.Space) { at(s, "/e").Writer = 1 }, true},
		{"all four", func(s *api.Space) {
			s.Leases = []api.Lease{{Client: 0}, {Client: 1}, {Client: 2}, {Client: 3}}
			at(s, "/h").Writer, at(s, "/a/g").Writer = 0, 3
		}, true},
	} {
		wantRight(t, c.what, with(town(), c.do), c.want)
	}
	for what, s := range wrongs() {
		wantRight(t, what, s, false)
	}
}

// P11.1: leases that are not right make no space, also where nobody writes.
func TestRightIdleLeases(t *testing.T) {
	for _, c := range []struct {
		l    []api.Lease
		want bool
	}{
		{[]api.Lease{{Client: 0, Until: 0}}, true},
		{[]api.Lease{{Client: 3, Until: greatest}}, true},
		{[]api.Lease{{Client: 0}, {Client: 3}}, true},
		{[]api.Lease{{Client: 3}, {Client: 0}}, false},
		{[]api.Lease{{Client: 3}, {Client: 3}}, false},
		{[]api.Lease{{Client: -1}}, false},
		{[]api.Lease{{Client: 4}}, false},
		{[]api.Lease{{Client: 0, Until: -1}}, false},
		{[]api.Lease{{Client: 0, Until: greatest + 1}}, false},
	} {
		wantRight(t, tell(c.l), with(New(), func(s *api.Space) { s.Leases = c.l }), c.want)
	}
}

// The chapter's examples.
func TestExamples(t *testing.T) {
	s := wantOK(t, New(), api.Edit{Kind: api.Create, Path: "/f", Client: 1})
	s, a := Apply(s, api.Edit{Kind: api.AddBlock, Path: "/f", Client: 1})
	if a.Err != api.OK || a.Block.ID != 1 || a.Block.Gen != 1 {
		t.Errorf("AddBlock: %s", tell(a))
	}
	wantRefused(t, s, api.Edit{Kind: api.AddBlock, Path: "/f", Client: 2}, api.ErrLease)
	s = wantOK(t, s, api.Edit{Kind: api.Complete, Path: "/f", Client: 1, Lengths: []int{5}})
	s = wantOK(t, s, api.Edit{Kind: api.Reopen, Path: "/f", Client: 2})
	a = Stat(s, "/f")
	if want := (api.Answer{Node: file("/f", 2, block(1, 1, 5))}); !sameAnswer(a, want) {
		t.Errorf("Stat: %s, not %s", tell(a), tell(want))
	}
}

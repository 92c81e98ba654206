package image

import (
	"encoding/binary"
	"fmt"
	"hash/crc32"
	"math"
	"slices"
	"strconv"
	"strings"
	"testing"

	"tabularium/api"
	"tabularium/space"
)

const greatest = 1<<53 - 1 // MaxNumber

func dir(p string) api.Node {
	return api.Node{Path: p, Dir: true, Quota: -1, Writer: -1}
}

func limited(p string, quota int) api.Node {
	return api.Node{Path: p, Dir: true, Quota: quota, Writer: -1}
}

func file(p string, writer int, blocks ...api.Block) api.Node {
	return api.Node{Path: p, Quota: -1, Writer: writer, Blocks: blocks}
}

func block(id, gen, length int) api.Block {
	return api.Block{ID: id, Gen: gen, Len: length}
}

// town: a space in which there is something of each kind.
func town() api.Space {
	return api.Space{
		Txid: 40, NextBlock: 200, NextGen: 30, Now: 7,
		Nodes: []api.Node{
			dir("/"),
			limited("/a", 5),
			dir("/a/b"),
			file("/a/b/f", 1, block(5, 9, 64), block(2, 29, 0), block(199, 1, 7)),
			file("/a/g", -1, block(1, 2, 3)),
			file("/e", 2),
			file("/h", -1),
		},
		Leases: []api.Lease{{Client: 1, Until: 12}, {Client: 2, Until: 300}},
	}
}

// village: the least space with a part of each kind, for whatever is tried at each place of it.
func village() api.Space {
	return api.Space{
		Txid: 3, NextBlock: 2, NextGen: 2, Now: 1,
		Nodes:  []api.Node{limited("/", 64), file("/f", 3, block(1, 1, 5))},
		Leases: []api.Lease{{Client: 3, Until: 11}},
	}
}

// deep: a path of as many bytes as there may be, and all directories above it.
func deep(last api.Node) []api.Node {
	l := []api.Node{dir("/")}
	p := ""
	for i := range 5 {
		p += "/" + strings.Repeat(string(rune('a'+i)), 19)
		l = append(l, dir(p))
	}
	last.Path = p + "/" + strings.Repeat("z", 19)
	return append(l, last)
}

// city: as many nodes, blocks of each file, and leases as there may be, all numbers the greatest.
func city() api.Space {
	s := api.Space{Txid: 300, NextBlock: greatest, NextGen: greatest, Now: greatest - 10}
	id := greatest
	eight := func() []api.Block {
		var l []api.Block
		for range 8 {
			id--
			l = append(l, block(id, greatest-1, 64))
		}
		return l
	}
	s.Nodes = deep(file("", 3, eight()...))
	s.Nodes[0].Quota = greatest
	for i := len(s.Nodes); i < 60; i++ {
		s.Nodes = append(s.Nodes, file("/n"+strconv.Itoa(100+i), i%5-1, eight()...))
	}
	for client := range 4 {
		s.Leases = append(s.Leases, api.Lease{Client: client, Until: greatest})
	}
	return s
}

// with: s, in memory of its own, when do was done to it.
func with(s api.Space, do func(s *api.Space)) api.Space {
	s.Nodes, s.Leases = slices.Clone(s.Nodes), slices.Clone(s.Leases)
	for i := range s.Nodes {
		s.Nodes[i].Blocks = slices.Clone(s.Nodes[i].Blocks)
	}
	do(&s)
	return s
}

// rights: spaces that are right, by what they are at an edge of.
func rights() map[string]api.Space {
	all := map[string]api.Space{
		"no edit":           space.New(),
		"a village":         village(),
		"a town":            town(),
		"a city":            city(),
		"the longest path":  {NextBlock: 1, NextGen: 1, Nodes: deep(dir(""))},
		"lists of nothing":  {NextBlock: 1, NextGen: 1, Nodes: []api.Node{{Path: "/", Dir: true, Quota: -1, Writer: -1, Blocks: []api.Block{}}}, Leases: []api.Lease{}},
		"leases of idlers":  {NextBlock: 1, NextGen: 1, Nodes: []api.Node{dir("/")}, Leases: []api.Lease{{Client: 0, Until: 0}, {Client: 3, Until: greatest}}},
		"all four write":    {NextBlock: 1, NextGen: 1, Nodes: []api.Node{dir("/"), file("/0", 0), file("/1", 1), file("/2", 2), file("/3", 3)}, Leases: []api.Lease{{Client: 0}, {Client: 1}, {Client: 2}, {Client: 3}}},
		"one writes all":    {NextBlock: 1, NextGen: 1, Nodes: []api.Node{dir("/"), file("/0", 0), file("/1", 0)}, Leases: []api.Lease{{Client: 0, Until: 1}}},
		"the oldest block":  {NextBlock: 2, NextGen: 2, Nodes: []api.Node{dir("/"), file("/0", -1, block(1, 1, 0))}},
		"blocks of one Gen": {NextBlock: 9, NextGen: 9, Nodes: []api.Node{dir("/"), file("/0", -1, block(8, 3, 64), block(7, 3, 63))}},
	}
	for _, n := range []int{1, 63, 64, 299, 300} {
		all["Txid "+strconv.Itoa(n)] = with(space.New(), func(s *api.Space) { s.Txid = n })
	}
	for _, n := range []int{1, 2, 63, 64, 8191, 8192, greatest - 1, greatest} {
		all["NextBlock "+strconv.Itoa(n)] = with(space.New(), func(s *api.Space) { s.NextBlock = n })
		all["NextGen "+strconv.Itoa(n)] = with(space.New(), func(s *api.Space) { s.NextGen = n })
		all["quota "+strconv.Itoa(n)] = with(space.New(), func(s *api.Space) { s.Nodes[0].Quota = n })
		all["until "+strconv.Itoa(n)] = with(space.New(), func(s *api.Space) { s.Leases = []api.Lease{{Client: 2, Until: n}} })
	}
	for _, n := range []int{1, 63, 64, greatest - 11, greatest - 10} {
		all["Now "+strconv.Itoa(n)] = with(space.New(), func(s *api.Space) { s.Now = n })
	}
	return all
}

// wrongs: spaces that are not; beyond each edge there is one at least that would be right but for that.
func wrongs() map[string]api.Space {
	all := map[string]api.Space{"nothing at all": {}}
	for what, do := range map[string]func(s *api.Space){
		"a Txid below 0":          func(s *api.Space) { s.Txid = -1 },
		"a Txid beyond":           func(s *api.Space) { s.Txid = 301 },
		"the least Txid":          func(s *api.Space) { s.Txid = math.MinInt },
		"the greatest Txid":       func(s *api.Space) { s.Txid = math.MaxInt },
		"a NextBlock of 0":        func(s *api.Space) { s.NextBlock = 0 },
		"a NextBlock beyond":      func(s *api.Space) { s.NextBlock = greatest + 1 },
		"a NextBlock that is":     func(s *api.Space) { s.NextBlock = 199 },
		"a NextGen of 0":          func(s *api.Space) { s.NextGen = 0 },
		"a NextGen beyond":        func(s *api.Space) { s.NextGen = greatest + 1 },
		"a NextGen that is":       func(s *api.Space) { s.NextGen = 29 },
		"a Now below 0":           func(s *api.Space) { s.Now = -1 },
		"a Now beyond":            func(s *api.Space) { s.Now = greatest - 9 },
		"no nodes":                func(s *api.Space) { s.Nodes = nil },
		"no root":                 func(s *api.Space) { s.Nodes = s.Nodes[1:] },
		"a root that is a file":   func(s *api.Space) { s.Nodes[0].Dir = false },
		"a root with a writer":    func(s *api.Space) { s.Nodes[0].Writer = 1 },
		"a root with a block":     func(s *api.Space) { s.Nodes[0].Blocks = []api.Block{block(10, 1, 1)} },
		"nodes out of order":      func(s *api.Space) { s.Nodes[5], s.Nodes[6] = s.Nodes[6], s.Nodes[5] },
		"a node twice":            func(s *api.Space) { s.Nodes = slices.Insert(s.Nodes, 6, s.Nodes[5]) },
		"a parent that is none":   func(s *api.Space) { s.Nodes = append(s.Nodes, dir("/x/y")) },
		"a parent that is a file": func(s *api.Space) { s.Nodes = append(s.Nodes, dir("/h/y")) },
		"an empty path":           func(s *api.Space) { s.Nodes[6].Path = "" },
		"a path that is none":     func(s *api.Space) { s.Nodes[6].Path = "/h/" },
		"a path with other bytes": func(s *api.Space) { s.Nodes[6].Path = "/h\x00\xff" },
		"a name too long":         func(s *api.Space) { s.Nodes[6].Path = "/h" + strings.Repeat("h", 20) },
		"a path too long":         func(s *api.Space) { s.Nodes[6].Path = strings.Repeat("/h", 61) },
		"a path of 3000 bytes":    func(s *api.Space) { s.Nodes[6].Path = strings.Repeat("/h", 1500) },
		"a file with a quota":     func(s *api.Space) { s.Nodes[6].Quota = 1 },
		"a quota below":           func(s *api.Space) { s.Nodes[2].Quota = -2 },
		"a quota beyond":          func(s *api.Space) { s.Nodes[2].Quota = greatest + 1 },
		"a directory Over":        func(s *api.Space) { s.Nodes[1].Quota = 3 },
		"a quota of 0":            func(s *api.Space) { s.Nodes[0].Quota = 0 },
		"a writer below":          func(s *api.Space) { s.Nodes[6].Writer = -2 },
		"a writer beyond":         func(s *api.Space) { s.Nodes[6].Writer = 4 },
		"a writer without one":    func(s *api.Space) { s.Nodes[6].Writer = 3 },
		"nine blocks": func(s *api.Space) {
			for i := range 9 {
				s.Nodes[6].Blocks = append(s.Nodes[6].Blocks, block(100+i, 1, 1))
			}
		},
		"a block of ID 0":        func(s *api.Space) { s.Nodes[4].Blocks[0].ID = 0 },
		"a block of Gen 0":       func(s *api.Space) { s.Nodes[4].Blocks[0].Gen = 0 },
		"a block too long":       func(s *api.Space) { s.Nodes[4].Blocks[0].Len = 65 },
		"a block below":          func(s *api.Space) { s.Nodes[4].Blocks[0].Len = -1 },
		"two blocks of one ID":   func(s *api.Space) { s.Nodes[4].Blocks[0].ID = 5 },
		"a block of NextBlock":   func(s *api.Space) { s.Nodes[4].Blocks[0].ID = 200 },
		"a block of NextGen":     func(s *api.Space) { s.Nodes[4].Blocks[0].Gen = 30 },
		"leases out of order":    func(s *api.Space) { slices.Reverse(s.Leases) },
		"a lease twice":          func(s *api.Space) { s.Leases = append(s.Leases, s.Leases[1]) },
		"a lease of nobody":      func(s *api.Space) { s.Leases = slices.Insert(s.Leases, 0, api.Lease{Client: -1}) },
		"a lease of one beyond":  func(s *api.Space) { s.Leases = append(s.Leases, api.Lease{Client: 4}) },
		"a lease below 0":        func(s *api.Space) { s.Leases[0].Until = -1 },
		"a lease that is beyond": func(s *api.Space) { s.Leases[0].Until = greatest + 1 },
		"no lease":               func(s *api.Space) { s.Leases = nil },
		"one lease fewer":        func(s *api.Space) { s.Leases = s.Leases[:1] },
	} {
		all[what] = with(town(), do)
	}
	all["one node more than there may be"] = with(city(), func(s *api.Space) { s.Nodes = append(s.Nodes, dir("/z")) })
	all["very many nodes"] = with(city(), func(s *api.Space) {
		for i := range 1000 {
			s.Nodes = append(s.Nodes, dir("/z"+strconv.Itoa(1000+i)))
		}
	})
	all["very many leases"] = with(city(), func(s *api.Space) { s.Leases = slices.Repeat(s.Leases, 1000) })
	return all
}

// numbered: the bytes of each; the library writes them as chapter 1 does.
func numbered(l ...int) string {
	var out []byte
	for _, n := range l {
		out = binary.AppendVarint(out, int64(n))
	}
	return string(out)
}

// partsOf: what the parts of s hold, be it right or not, by the words of P12.1.
func partsOf(s api.Space) []string {
	l := []string{"T" + numbered(s.Txid, s.NextBlock, s.NextGen, s.Now, len(s.Nodes), len(s.Leases))}
	for _, n := range s.Nodes {
		what := 0
		if n.Dir {
			what = 1
		}
		part := numbered(len(n.Path)) + n.Path + numbered(what, n.Quota, n.Writer, len(n.Blocks))
		for _, b := range n.Blocks {
			part += numbered(b.ID, b.Gen, b.Len)
		}
		l = append(l, part)
	}
	for _, x := range s.Leases {
		l = append(l, numbered(x.Client, x.Until))
	}
	return l
}

// sealing: the part as chapter 2 seals it.
func sealing(part string) string {
	return string(binary.BigEndian.AppendUint32([]byte(numbered(len(part))+part), crc32.ChecksumIEEE([]byte(part))))
}

// laid: these parts, each sealed, one behind the other.
func laid(parts []string) string {
	var out strings.Builder
	for _, p := range parts {
		out.WriteString(sealing(p))
	}
	return out.String()
}

// replaced: the parts with another one at place i.
func replaced(parts []string, i int, part string) []string {
	l := slices.Clone(parts)
	l[i] = part
	return l
}

func sameNode(a, b api.Node) bool {
	return a.Path == b.Path && a.Dir == b.Dir && a.Quota == b.Quota && a.Writer == b.Writer && slices.Equal(a.Blocks, b.Blocks)
}

// same: nil and empty lists count as one.
func same(a, b api.Space) bool {
	return a.Txid == b.Txid && a.NextBlock == b.NextBlock && a.NextGen == b.NextGen && a.Now == b.Now &&
		slices.EqualFunc(a.Nodes, b.Nodes, sameNode) && slices.Equal(a.Leases, b.Leases)
}

func tell(x any) string {
	s := fmt.Sprintf("%+v", x)
	return s[:min(len(s), 1000)]
}

// wantBoth: s is written as b, and b is read as s.
func wantBoth(t *testing.T, what string, s api.Space, b string) {
	t.Helper()
	if got, e := Encode(s); got != b || e != api.OK {
		t.Errorf("%s: Encode tells %d bytes, % .200x, error %d, not %d bytes, % .200x", what, len(got), got, e, len(b), b)
	}
	if got, e := Decode(b); !same(got, s) || e != api.OK {
		t.Errorf("%s: Decode tells %s, error %d, not %s", what, tell(got), e, tell(s))
	}
}

// refused: Decode tells this error, and an empty space.
func refused(t *testing.T, what, b string, want api.Errno) {
	t.Helper()
	if s, e := Decode(b); e != want || !same(s, api.Space{}) {
		t.Errorf("%s: Decode of %d bytes, % .200x, tells %s, error %d, not error %d alone", what, len(b), b, tell(s), e, want)
	}
}

// P12.1, P12.2: the space that no edit has made, byte by byte.
func TestNew(t *testing.T) {
	wantBoth(t, "no edit", space.New(), ""+
		"\x0e"+"T\x00\x02\x02\x00\x02\x00"+"\xa8\x09\xeb\xb3"+
		"\x0c"+"\x02/\x02\x01\x01\x00"+"\x0d\x4b\x2b\x80")
}

// P12.1, P12.2: a space with something of each kind, part by part.
func TestTown(t *testing.T) {
	wantBoth(t, "the town", town(), laid([]string{
		"T\x50\x90\x03\x3c\x0e\x0e\x04",
		"\x02/\x02\x01\x01\x00",
		"\x04/a\x02\x0a\x01\x00",
		"\x08/a/b\x02\x01\x01\x00",
		"\x0c/a/b/f\x00\x01\x02\x06\x0a\x12\x80\x01\x04\x3a\x00\x8e\x03\x02\x0e",
		"\x08/a/g\x00\x01\x01\x02\x02\x04\x06",
		"\x04/e\x00\x01\x04\x00",
		"\x04/h\x00\x01\x01\x00",
		"\x02\x18",
		"\x04\xd8\x04",
	}))
}

// P12.1, P12.2, P12.3: each number at its edges, as many of each kind as there may be; who reads has the same space.
func TestRights(t *testing.T) {
	for what, s := range rights() {
		if !space.Right(s) {
			t.Errorf("%s is not right: %s", what, tell(s))
		}
		wantBoth(t, what, s, laid(partsOf(s)))
	}
}

// P12.1, P12.2: as long as a part may be, of a file with the longest path and the greatest blocks, beside a quota of the greatest number.
func TestLongestPart(t *testing.T) {
	s := city()
	n := s.Nodes[6]
	if len(n.Path) != 120 || len(n.Blocks) != 8 || len(s.Nodes) != 60 || len(s.Leases) != 4 {
		t.Fatalf("the city is not as great as it may be: %s", tell(n))
	}
	wantBoth(t, "the city", s, laid(partsOf(s)))
}

// P12.1: a space that is not right has no bytes.
func TestEncodeNotRight(t *testing.T) {
	for what, s := range wrongs() {
		if b, e := Encode(s); b != "" || e != api.ErrArg {
			t.Errorf("%s: Encode tells %d bytes, error %d", what, len(b), e)
		}
	}
}

// P12.1: no two spaces have the same bytes, nor are one's the beginning of another's.
func TestBytesUnlike(t *testing.T) {
	seen := map[string]api.Space{}
	for _, s := range rights() {
		seen[laid(partsOf(s))] = s
	}
	for b, s := range seen {
		for c, other := range seen {
			x, _ := Encode(s)
			y, _ := Encode(other)
			if b != c && strings.HasPrefix(x, y) {
				t.Errorf("the bytes of %s begin with those of %s", tell(s), tell(other))
			}
		}
	}
}

// The chapter's example.
func TestExample(t *testing.T) {
	refused(t, "nothing", "", api.ErrForm)
}

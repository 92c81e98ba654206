package space

import (
	"fmt"
	"math/rand/v2"
	"slices"
	"strings"
	"testing"

	"tabularium/api"
)

// story: edits that can be made, one behind the other, from New on.
func story() []api.Edit {
	return []api.Edit{
		{Kind: api.MkDir, Path: "/a"},
		{Kind: api.Renew, Client: 3, N: 4},
		{Kind: api.Create, Path: "/a/f", Client: 1},
		{Kind: api.AddBlock, Path: "/a/f", Client: 1},
		{Kind: api.AddBlock, Path: "/a/f", Client: 1, Lengths: []int{64}},
		{Kind: api.Bump, Path: "/a/f", Client: 1, N: 0},
		{Kind: api.SetQuota, Path: "/a", N: 2},
		{Kind: api.Complete, Path: "/a/f", Client: 1, Lengths: []int{64, 9}},
		{Kind: api.Rename, Path: "/a/f", To: "/g"},
		{Kind: api.Create, Path: "/a/h", Client: 2},
		{Kind: api.Reopen, Path: "/g", Client: 0},
		{Kind: api.AddBlock, Path: "/a/h", Client: 2},
		{Kind: api.Renew, Client: 1, N: 9},
		{Kind: api.MkDir, Path: "/c"},
		{Kind: api.Delete, Path: "/c"},
	}
}

// storyEnd: what the story makes.
func storyEnd() api.Space {
	return api.Space{
		Txid: 15, NextBlock: 4, NextGen: 5, Now: 9,
		Nodes: []api.Node{
			dir("/"),
			limited("/a", 2),
			file("/a/h", 2, block(3, 4, 0)),
			file("/g", 0, block(1, 3, 64), block(2, 2, 9)),
		},
		Leases: []api.Lease{{Client: 0, Until: 14}, {Client: 1, Until: 19}, {Client: 2, Until: 14}, {Client: 3, Until: 14}},
	}
}

func wantFold(t *testing.T, s api.Space, l []api.Edit, want api.Space, e api.Errno) {
	t.Helper()
	if got, bad := Fold(s, l); bad != e || !same(got, want) {
		t.Errorf("Fold of %s tells %s, error %d, not %s, error %d", tell(l), tell(got), bad, tell(want), e)
	}
}

// P11.3: no edits make what was there.
func TestFoldNothing(t *testing.T) {
	for _, s := range []api.Space{New(), town(), spent(), storyEnd(), with(town(), func(s *api.Space) { s.Txid = 300 })} {
		wantFold(t, s, nil, s, api.OK)
		wantFold(t, s, []api.Edit{}, s, api.OK)
	}
	for _, s := range wrongs() { // nothing is applied to it, so that nothing is refused
		wantFold(t, s, nil, s, api.OK)
	}
}

// P11.3: edits make what Apply of each makes, in one part and in two.
func TestFold(t *testing.T) {
	wantRight(t, "the end", storyEnd(), true)
	l := story()
	wantFold(t, New(), l, storyEnd(), api.OK)
	s := New()
	for i, e := range l {
		first, bad := Fold(New(), l[:i])
		if bad != api.OK || !same(first, s) {
			t.Fatalf("the first %d make %s, error %d, not %s", i, tell(first), bad, tell(s))
		}
		wantFold(t, first, l[i:], storyEnd(), api.OK)
		s = wantOK(t, s, e)
	}
	for _, s := range wrongs() {
		wantFold(t, s, l, api.Space{}, api.ErrArg)
	}
}

// P11.3: with one that can't be made, wherever it stands, there is its error and an empty space; the first one's counts.
func TestFoldRefuses(t *testing.T) {
	l := story()
	bad := map[api.Errno]api.Edit{
		api.ErrArg:   {Kind: api.MkDir, Path: "/"},
		api.ErrNone:  {Kind: api.Delete, Path: "/x"},
		api.ErrExist: {Kind: api.MkDir, Path: "/a"},
		api.ErrDir:   {Kind: api.SetQuota, Path: "/g"},
		api.ErrFull:  {Kind: api.SetQuota, Path: "/"},
		api.ErrLease: {Kind: api.Complete, Path: "/g", Client: 3},
	}
	for at := range len(l) + 1 {
		s, _ := Fold(New(), l[:at])
		for _, x := range bad {
			_, a := Apply(s, x)
			if a.Err == api.OK {
				continue // only further behind it can't be made
			}
			wantFold(t, New(), slices.Insert(slices.Clone(l), at, x), api.Space{}, a.Err)
			wantFold(t, s, slices.Concat([]api.Edit{x}, l[at:]), api.Space{}, a.Err)
			for _, y := range bad {
				wantFold(t, New(), slices.Concat(l[:at], []api.Edit{x, y}, l[at:]), api.Space{}, a.Err)
			}
		}
	}
	for want, x := range bad {
		wantFold(t, New(), append(story(), x), api.Space{}, want)
	}
}

// P11.3: 300 edits can be folded, and no more.
func TestFoldLength(t *testing.T) {
	var l []api.Edit
	for range 301 {
		l = append(l, api.Edit{Kind: api.Renew})
	}
	want := with(New(), func(s *api.Space) {
		s.Txid, s.Leases = 300, []api.Lease{{Client: 0, Until: 10}}
	})
	wantFold(t, New(), l[:300], want, api.OK)
	wantFold(t, New(), l, api.Space{}, api.ErrLong)
	wantFold(t, want, l[:1], api.Space{}, api.ErrLong)
}

func wantStat(t *testing.T, s api.Space, p string, want api.Answer) {
	t.Helper()
	if a := Stat(s, p); !sameAnswer(a, want) {
		t.Errorf("Stat at %q tells %s, not %s", p, tell(a), tell(want))
	}
}

func wantList(t *testing.T, s api.Space, p string, want api.Answer) {
	t.Helper()
	if a := List(s, p); !sameAnswer(a, want) {
		t.Errorf("List at %q tells %s, not %s", p, tell(a), tell(want))
	}
}

func errorAlone(e api.Errno) api.Answer {
	return api.Answer{Err: e}
}

// P11.3: Stat tells the node that is there, file or directory.
func TestStat(t *testing.T) {
	for _, n := range town().Nodes {
		wantStat(t, town(), n.Path, api.Answer{Node: n})
		for what, s := range wrongs() {
			if a := Stat(s, n.Path); !sameAnswer(a, errorAlone(api.ErrArg)) {
				t.Errorf("%s: %s", what, tell(a))
			}
		}
	}
	for _, p := range append(noPaths(), strings.Repeat("/x", 61), "/"+strings.Repeat("x", 100000)) {
		wantStat(t, town(), p, errorAlone(api.ErrArg))
	}
	for _, p := range []string{"/x", "/a/x", "/x/y", "/e/x", "/a/b/f/x", "/aa"} {
		wantStat(t, town(), p, errorAlone(api.ErrNone))
	}
	wantStat(t, with(town(), func(s *api.Space) { s.Txid = 300 }), "/a", api.Answer{Node: limited("/a", 5)})
}

// P11.3: List tells the names that stand in a directory.
func TestList(t *testing.T) {
	for p, names := range map[string][]string{
		"/":      {"a", "c", "d", "e", "h", "q"},
		"/a":     {"b", "g"},
		"/a/b":   {"f"},
		"/c":     nil,
		"/d":     {},
		"/q":     {"r"},
		"/q/r":   {"s"},
		"/q/r/s": nil,
	} {
		wantList(t, town(), p, api.Answer{Names: names})
		for _, s := range wrongs() {
			wantList(t, s, p, errorAlone(api.ErrArg))
		}
	}
	for _, p := range append(noPaths(), strings.Repeat("/x", 61), "/"+strings.Repeat("x", 100000)) {
		wantList(t, town(), p, errorAlone(api.ErrArg))
	}
	for _, p := range []string{"/x", "/a/x", "/x/y", "/e/x", "/a/b/f/x", "/aa"} {
		wantList(t, town(), p, errorAlone(api.ErrNone))
	}
	for _, p := range []string{"/e", "/h", "/a/g", "/a/b/f"} {
		wantList(t, town(), p, errorAlone(api.ErrDir))
	}
}

func wantBlocks(t *testing.T, s api.Space, want ...api.Block) {
	t.Helper()
	if l := Blocks(s); !slices.Equal(l, want) {
		t.Errorf("the blocks are %v, not %v", l, want)
	}
}

// P11.3: all blocks of all files, by their IDs.
func TestBlocks(t *testing.T) {
	wantBlocks(t, New())
	wantBlocks(t, crowd(60))
	wantBlocks(t, town(), block(1, 2, 3), block(2, 29, 0), block(5, 9, 64), block(19, 1, 7))
	wantBlocks(t, storyEnd(), block(1, 3, 64), block(2, 2, 9), block(3, 4, 0))
	wantBlocks(t, with(town(), func(s *api.Space) { at(s, "/a/b/f").Blocks = nil }), block(1, 2, 3))
	for _, s := range wrongs() {
		wantBlocks(t, s)
	}
}

// P11.3: as many as there may be, out of order, 8 in each of 59 files.
func TestManyBlocks(t *testing.T) {
	r := rand.New(rand.NewPCG(11, 3))
	ids := r.Perm(59 * 8)
	s := api.Space{NextBlock: 1000, NextGen: 1000, Nodes: []api.Node{dir("/")}}
	var want []api.Block
	for i := range 59 {
		n := file(fmt.Sprintf("/%02d", i), -1)
		for k := range 8 {
			n.Blocks = append(n.Blocks, block(2*ids[8*i+k]+1, 1+r.IntN(999), r.IntN(65)))
		}
		s.Nodes = append(s.Nodes, n)
		want = append(want, n.Blocks...)
	}
	wantRight(t, "many blocks", s, true)
	slices.SortFunc(want, func(a, b api.Block) int { return a.ID - b.ID })
	wantBlocks(t, s, want...)
}

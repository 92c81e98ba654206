package space

import (
	"fmt"
	"math"
	"slices"
	"strings"
	"testing"

	"tabularium/api"
)

// roomy: the town in arrays with more behind it: nodes, blocks of each, leases.
func roomy() api.Space {
	s := town()
	for i := range s.Nodes {
		n := &s.Nodes[i]
		n.Blocks = append(n.Blocks, block(77, 78, 79), block(87, 88, 89))
		n.Blocks = n.Blocks[:len(n.Blocks)-2]
	}
	s.Nodes = append(s.Nodes, dir("/zz"), api.Node{Path: "behind", Quota: 7})
	s.Nodes = s.Nodes[:len(s.Nodes)-2]
	s.Leases = append(s.Leases, api.Lease{Client: 3, Until: 99}, api.Lease{Client: 7, Until: 77})
	s.Leases = s.Leases[:len(s.Leases)-2]
	return s
}

// roomyEdits: the sound ones, whose lengths have more behind them.
func roomyEdits() []api.Edit {
	l := append(sound(), story()...)
	l = append(l, refusals()...)
	for i := range l {
		l[i].Lengths = append(l[i].Lengths, 77, 88)
		l[i].Lengths = l[i].Lengths[:len(l[i].Lengths)-2]
	}
	return l
}

// refusals: edits that are refused in the town, late ones too.
func refusals() []api.Edit {
	return []api.Edit{
		{Kind: 11},
		{Kind: api.MkDir, Path: "/c/x"},
		{Kind: api.Create, Path: "/q/r/x", Client: 1},
		{Kind: api.Delete, Path: "/x"},
		{Kind: api.Rename, Path: "/a", To: "/c/x"},
		{Kind: api.AddBlock, Path: "/a/b/f", Client: 1, Lengths: []int{1, 2, 65}},
		{Kind: api.Complete, Path: "/a/b/f", Client: 1, Lengths: []int{1, 2, 65}},
		{Kind: api.Bump, Path: "/a/b/f", Client: 1, N: 3},
		{Kind: api.Reopen, Path: "/e", Client: 1},
		{Kind: api.SetQuota, Path: "/a", N: 3},
		{Kind: api.Renew, Client: 1, N: 6},
	}
}

func shownNodes(l []api.Node) string {
	var out strings.Builder
	for _, n := range l[:cap(l)] {
		fmt.Fprint(&out, n, len(n.Blocks), n.Blocks[:cap(n.Blocks)])
	}
	return fmt.Sprint(len(l), cap(l), out.String())
}

// shown: all that can be seen of s, spare room too.
func shown(s api.Space) string {
	return fmt.Sprint(s.Txid, s.NextBlock, s.NextGen, s.Now, shownNodes(s.Nodes), len(s.Leases), s.Leases[:cap(s.Leases)])
}

func shownEdits(l []api.Edit) string {
	var out strings.Builder
	for _, e := range l[:cap(l)] {
		fmt.Fprint(&out, e, len(e.Lengths), e.Lengths[:cap(e.Lengths)])
	}
	return out.String()
}

func shownAnswer(a api.Answer) string {
	return fmt.Sprint(a.Err, a.Block, a.N, a.Names[:cap(a.Names)], shownNodes([]api.Node{a.Node}))
}

// askAll asks every call of s.
func askAll(s api.Space, l []api.Edit) {
	Right(s)
	Blocks(s)
	for _, n := range s.Nodes {
		Stat(s, n.Path)
		List(s, n.Path)
	}
	for i, e := range l {
		Apply(s, e)
		Fold(s, l[:i])
		Fold(s, l[i:])
	}
	Fold(s, nil)
}

// P3: nothing that is handed in is written into, nor what stands behind it.
func TestWritesNothing(t *testing.T) {
	s, l := roomy(), roomyEdits()
	wantRight(t, "ahead", s, true)
	was, wasEdits := shown(s), shownEdits(l)
	askAll(s, l)
	if shown(s) != was {
		t.Errorf("the space was written into: %s, not %s", shown(s), was)
	}
	if shownEdits(l) != wasEdits {
		t.Errorf("the edits were written into: %s, not %s", shownEdits(l), wasEdits)
	}
	for what, bad := range wrongs() {
		was := shown(bad)
		askAll(bad, l)
		if shown(bad) != was {
			t.Errorf("%s: it was written into: %s, not %s", what, shown(bad), was)
		}
	}
}

func spoilNodes(l []api.Node) {
	for i := range l[:cap(l)] {
		n := &l[:cap(l)][i]
		for k := range n.Blocks[:cap(n.Blocks)] {
			n.Blocks[:cap(n.Blocks)][k] = block(-1, -2, -3)
		}
		*n = api.Node{Path: "spoilt"}
	}
}

// spoil writes into all of s, its spare room, its blocks, and theirs.
func spoil(s api.Space) {
	spoilNodes(s.Nodes)
	for i := range s.Leases[:cap(s.Leases)] {
		s.Leases[:cap(s.Leases)][i] = api.Lease{Client: -1, Until: -2}
	}
}

func spoilAnswer(a api.Answer) {
	spoilNodes([]api.Node{a.Node})
	for i := range a.Names[:cap(a.Names)] {
		a.Names[:cap(a.Names)][i] = "spoilt"
	}
}

// told: what a call tells.
type told struct {
	s api.Space
	a api.Answer
}

// answers: what all calls tell of s.
func answers(s api.Space) []told {
	var l []told
	for _, e := range sound() {
		next, a := Apply(s, e)
		l = append(l, told{next, a})
		next, _ = Fold(s, []api.Edit{e})
		l = append(l, told{s: next})
	}
	same, _ := Fold(s, nil)
	l = append(l, told{s: same}, told{s: New()}, told{a: api.Answer{Node: api.Node{Blocks: Blocks(s)}}})
	for _, n := range s.Nodes {
		l = append(l, told{a: Stat(s, n.Path)}, told{a: List(s, n.Path)})
	}
	return l
}

func shownAll(l []told) []string {
	var out []string
	for _, x := range l {
		out = append(out, shown(x.s)+shownAnswer(x.a))
	}
	return out
}

// P3: what comes is its owner's: whoever writes into one answer writes into nothing else, nor does who writes into what was handed in.
func TestAnswersShareNothing(t *testing.T) {
	s := roomy()
	first, second := answers(s), answers(s)
	was, want := shown(s), shownAll(second)
	for _, x := range first {
		spoil(x.s)
		spoilAnswer(x.a)
	}
	if shown(s) != was {
		t.Errorf("an answer shares with what was handed in: %s, not %s", shown(s), was)
	}
	if got := shownAll(second); !slices.Equal(got, want) {
		t.Errorf("an answer shares with another one: %s, not %s", got, want)
	}
	if got := shownAll(answers(s)); !slices.Equal(got, want) {
		t.Errorf("what was told was kept: %s, not %s", got, want)
	}
	spoil(s)
	if got := shownAll(second); !slices.Equal(got, want) {
		t.Errorf("an answer changed with what was handed in: %s, not %s", got, want)
	}
}

// P3: the node that Apply tells shares nothing with the space beside it.
func TestNodeSharesNothing(t *testing.T) {
	for _, e := range sound() {
		next, a := Apply(roomy(), e)
		was := shown(next)
		spoilAnswer(a)
		if shown(next) != was {
			t.Errorf("%s: who writes into the node writes into the space", tell(e))
		}
		next, a = Apply(roomy(), e)
		was = shownAnswer(a)
		spoil(next)
		if shownAnswer(a) != was {
			t.Errorf("%s: who writes into the space writes into the node", tell(e))
		}
	}
}

// P3: no two lists of one answer share memory, even where those that were handed in do.
func TestBlocksShareNothing(t *testing.T) {
	for _, e := range append(sound(), api.Edit{}) {
		one := make([]api.Block, 0, 20)
		s := with(town(), func(s *api.Space) {
			for i := range s.Nodes {
				one = append(one, s.Nodes[i].Blocks...)
				s.Nodes[i].Blocks = one[len(one)-len(s.Nodes[i].Blocks):]
			}
		})
		next, bad := Fold(s, nil)
		if e.Kind != 0 {
			next, bad = Fold(s, []api.Edit{e})
		}
		if bad != api.OK {
			t.Fatalf("%s: error %d", tell(e), bad)
		}
		for i, n := range next.Nodes {
			for k := range n.Blocks[:cap(n.Blocks)] {
				n.Blocks[:cap(n.Blocks)][k].ID = 100 + i
			}
		}
		for i, n := range next.Nodes {
			for _, b := range n.Blocks[:cap(n.Blocks)] {
				if b.ID != 100+i {
					t.Errorf("%s: the blocks of %q are those of another", tell(e), n.Path)
				}
			}
		}
	}
}

// P3: an edit's lengths are not kept.
func TestLengthsAreNotKept(t *testing.T) {
	l := []int{1, 2, 3}
	next, a := Apply(town(), api.Edit{Kind: api.Complete, Path: "/a/b/f", Client: 1, Lengths: l})
	was := shown(next) + shownAnswer(a)
	l[0], l[1], l[2] = 9, 9, 9
	if got := shown(next) + shownAnswer(a); got != was {
		t.Errorf("what was told changed with the lengths: %s, not %s", got, was)
	}
}

// P4, P11.4: the same is answered to the same, whatever was asked and refused between.
func TestKeepsNothing(t *testing.T) {
	s := town()
	want := shownAll(answers(s))
	for _, bad := range wrongs() {
		askAll(bad, sound())
		askAll(s, refusals())
		askAll(s, story())
		if got := shownAll(answers(s)); !slices.Equal(got, want) {
			t.Fatalf("it tells %s, and before %s", got, want)
		}
	}
}

// P1: no panic leaves a call, and each one ends, whatever it is handed.
func TestNoPanic(t *testing.T) {
	numbers := []int{math.MinInt, -greatest, -1, 0, 1, 8, 300, greatest - 10, greatest, math.MaxInt}
	texts := append(noPaths(), "/", "/a", "/a/b/f", "/f", "/x/y", strings.Repeat("/x", 100), strings.Repeat("x", 100000))
	spaces := []api.Space{{}, New(), town(), spent(), crowd(300)}
	for _, n := range numbers {
		spaces = append(spaces,
			api.Space{Txid: n, NextBlock: n, NextGen: n, Now: n, Nodes: []api.Node{{Path: "/", Dir: true, Quota: n, Writer: n}}, Leases: []api.Lease{{Client: n, Until: n}}},
			with(town(), func(s *api.Space) { at(s, "/e").Writer = n }),
			with(town(), func(s *api.Space) { s.Leases[1].Client = n }),
			with(town(), func(s *api.Space) { at(s, "/a/g").Blocks[0] = block(n, n, n) }),
			with(town(), func(s *api.Space) { at(s, "/a").Quota = n }))
	}
	for _, s := range spaces {
		for _, p := range texts {
			Stat(s, p)
			List(s, p)
		}
		for kind := -1; kind <= 12; kind++ {
			for i, n := range numbers {
				p := texts[(i+kind+1)%len(texts)]
				e := api.Edit{Kind: kind, Path: p, To: p, Client: n, Call: n, N: n, Lengths: []int{n, n}}
				Apply(s, e)
				Fold(s, []api.Edit{e, e})
				Apply(s, api.Edit{Kind: kind, Path: "/a/b/f", Client: 1, N: n})
				Apply(s, api.Edit{Kind: kind, Path: "/f", Client: 1, N: n})
			}
		}
		Blocks(s)
		Right(s)
	}
}

// P1: an edit leaves by its error; anything else that a panic told would be an error, too.
func TestReason(t *testing.T) {
	for e := api.ErrArg; e <= api.ErrState; e++ {
		if got := reason(e); got != e {
			t.Errorf("error %d counts as %d", e, got)
		}
	}
	for _, why := range []any{"a text", 7, fmt.Errorf("an error"), api.Block{}} {
		if got := reason(why); got != api.ErrArg {
			t.Errorf("%v counts as %d", why, got)
		}
	}
}

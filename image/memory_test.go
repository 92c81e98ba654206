package image

import (
	"fmt"
	"math"
	"strings"
	"testing"

	"tabularium/api"
	"tabularium/space"
)

// roomy: the town in arrays with more behind it: nodes, blocks of each, leases.
func roomy() api.Space {
	s := town()
	for i := range s.Nodes {
		n := &s.Nodes[i]
		n.Blocks = append(n.Blocks, block(77, 78, 79), block(87, 88, 89))
		n.Blocks = n.Blocks[:len(n.Blocks)-2]
	}
	s.Nodes = append(s.Nodes, dir("/zz"), api.Node{Path: "behind", Quota: 7})
	s.Nodes = s.Nodes[:len(s.Nodes)-2]
	s.Leases = append(s.Leases, api.Lease{Client: 3, Until: 99}, api.Lease{Client: 7, Until: 77})
	s.Leases = s.Leases[:len(s.Leases)-2]
	return s
}

// shown: all that can be seen of s, spare room too.
func shown(s api.Space) string {
	var out strings.Builder
	for _, n := range s.Nodes[:cap(s.Nodes)] {
		fmt.Fprint(&out, n, len(n.Blocks), n.Blocks[:cap(n.Blocks)])
	}
	return fmt.Sprint(s.Txid, s.NextBlock, s.NextGen, s.Now, len(s.Nodes), cap(s.Nodes), out.String(), len(s.Leases), s.Leases[:cap(s.Leases)])
}

// spoil writes into all of s, its spare room, its blocks, and theirs.
func spoil(s api.Space) {
	for i := range s.Nodes[:cap(s.Nodes)] {
		n := &s.Nodes[:cap(s.Nodes)][i]
		for k := range n.Blocks[:cap(n.Blocks)] {
			n.Blocks[:cap(n.Blocks)][k] = block(-1, -2, -3)
		}
		*n = api.Node{Path: "spoilt"}
	}
	for i := range s.Leases[:cap(s.Leases)] {
		s.Leases[:cap(s.Leases)][i] = api.Lease{Client: -1, Until: -2}
	}
}

// P3: nothing that is handed in is written into, nor what stands behind it in its array.
func TestWritesNothing(t *testing.T) {
	s := roomy()
	was := shown(s)
	b, e := Encode(s)
	if shown(s) != was {
		t.Errorf("the space was written into: %s, not %s", shown(s), was)
	}
	if want := laid(partsOf(town())); b != want || e != api.OK {
		t.Errorf("what stands behind is written, too: % x, not % x, error %d", b, want, e)
	}
	for what, s := range wrongs() {
		was := shown(s)
		Encode(s)
		if shown(s) != was {
			t.Errorf("%s: it was written into: %s, not %s", what, shown(s), was)
		}
	}
}

// P3: what was told stays as it was, whatever becomes of what was handed in.
func TestKeepsNothingHandedIn(t *testing.T) {
	s := roomy()
	b, _ := Encode(s)
	was := strings.Clone(b)
	spoil(s)
	if b != was {
		t.Errorf("the bytes changed with the space: % x, not % x", b, was)
	}
}

// P3: what Decode tells is its owner's: who writes there writes into no other answer.
func TestAnswersShareNothing(t *testing.T) {
	for what, s := range rights() {
		b := laid(partsOf(s))
		first, _ := Decode(b)
		second, _ := Decode(b)
		was := shown(second)
		spoil(first)
		if shown(second) != was {
			t.Errorf("%s: an answer was changed by another one: %s, not %s", what, shown(second), was)
		}
		wantBoth(t, what, s, b)
	}
}

// P3: no two lists of one answer share memory, spare room too.
func TestListsShareNothing(t *testing.T) {
	for what, s := range rights() {
		got, _ := Decode(laid(partsOf(s)))
		for i, n := range got.Nodes {
			for k := range n.Blocks[:cap(n.Blocks)] {
				n.Blocks[:cap(n.Blocks)][k].ID = 100 + i
			}
		}
		for i, n := range got.Nodes {
			for _, b := range n.Blocks[:cap(n.Blocks)] {
				if b.ID != 100+i {
					t.Errorf("%s: the blocks of %q are those of another", what, n.Path)
				}
			}
		}
	}
}

// P4: the same is answered to the same, whatever was asked and refused between.
func TestKeepsNothing(t *testing.T) {
	ask := func() {
		t.Helper()
		for what, s := range some() {
			wantBoth(t, what, s, laid(partsOf(s)))
		}
		refused(t, "nothing", "", api.ErrForm)
	}
	ask()
	for _, s := range wrongs() {
		b := laid(partsOf(s))
		Encode(s)
		Decode(b)
		Decode(b[:len(b)/2])
		Decode(b[1:])
		ask()
	}
}

// P1: no panic leaves a call, and each one ends, whatever it is handed.
func TestNoPanic(t *testing.T) {
	numbers := []int{math.MinInt, -greatest, -1, 0, 1, 8, 300, greatest - 10, greatest, math.MaxInt}
	texts := []string{"", "/", "//", "/a/", "\x00", "\xff", strings.Repeat("/x", 2000), strings.Repeat("x", 100000)}
	for _, n := range numbers {
		for _, p := range texts {
			for _, what := range []bool{false, true} {
				s := api.Space{Txid: n, NextBlock: n, NextGen: n, Now: n, Nodes: []api.Node{{Path: p, Dir: what, Quota: n, Writer: n, Blocks: []api.Block{block(n, n, n)}}}, Leases: []api.Lease{{Client: n, Until: n}}}
				Encode(s)
				Decode(laid(partsOf(s)))
				Encode(with(town(), func(s *api.Space) { s.Nodes[6] = api.Node{Path: p, Dir: what, Quota: n, Writer: n} }))
			}
		}
		for _, m := range numbers {
			head := "T" + numbered(0, 1, 1, 0, n, m)
			refused(t, "a head alone", sealing(head), api.ErrForm)
			refused(t, "heads", strings.Repeat(sealing(head), 3), api.ErrForm)
		}
	}
	Decode(laid(append(partsOf(space.New()), make([]string, 300000)...)))
	Decode(strings.Repeat("\xff", 1<<20))
	Decode(strings.Repeat("\x00", 1<<20))
}

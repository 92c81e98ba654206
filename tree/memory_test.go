package tree

import (
	"fmt"
	"slices"
	"testing"

	"tabularium/api"
)

// roomy: the forest in an array with more nodes behind it, whose blocks stand in arrays with more blocks behind them.
func roomy() (l, all []api.Node) {
	for _, n := range append(forest(), dir("/zz"), file("/zzz", full(1)...), api.Node{Path: "behind", Quota: 7}) {
		n.Blocks = append(n.Blocks, api.Block{ID: 77, Gen: 78, Len: 79}, api.Block{ID: 87, Gen: 88, Len: 89})
		n.Blocks = n.Blocks[:len(n.Blocks)-2]
		all = append(all, n)
	}
	return all[:len(forest())], all
}

// shown: all that can be seen of l, spare room too.
func shown(l []api.Node) string {
	var s []string
	for _, n := range l[:cap(l)] {
		s = append(s, fmt.Sprint(n, n.Blocks[:cap(n.Blocks)]))
	}
	return fmt.Sprint(len(l), cap(l), s)
}

// changes: one of each kind, and one of each kind that is refused late.
func changes(l []api.Node, n api.Node) [][]api.Node {
	var out [][]api.Node
	for _, change := range []func() ([]api.Node, api.Errno){
		func() ([]api.Node, api.Errno) { return Add(l, n) },
		func() ([]api.Node, api.Errno) { return Remove(l, "/ab/g") },
		func() ([]api.Node, api.Errno) { return Remove(l, "/a") },
		func() ([]api.Node, api.Errno) { return Move(l, "/a", "/c") },
		func() ([]api.Node, api.Errno) { return Move(l, "/a", "/0") },
		func() ([]api.Node, api.Errno) { return Move(l, "/a/f", "/z") },
		func() ([]api.Node, api.Errno) { return Move(l, "/z", "/y") },
	} {
		got, e := change()
		if e != api.OK {
			panic(fmt.Sprint("error ", e))
		}
		out = append(out, got)
	}
	return out
}

// P3: nothing that is handed in is written into, nor what stands behind it.
func TestWritesNothing(t *testing.T) {
	l, all := roomy()
	n := file("/n", append(full(3), full(5)...)...)
	n.Blocks = n.Blocks[:3]
	was, wasNode := shown(all), shown([]api.Node{n})
	changes(l, n)
	for _, p := range append(append(paths(all), noPaths()...), "/n", "/n/m", "/q/r", "/z/q") {
		Fits(at(n, p))
		Find(l, p)
		List(l, p)
		Add(l, at(n, p))
		Remove(l, p)
		for _, to := range append(paths(all), "/a/q", "/q", "/q/r", "/ab/q", deep(6)) {
			Move(l, p, to)
		}
	}
	Right(l)
	Right(all)
	Add(all, n)
	Move(all, "/a", "/c")
	Remove(all, "/a")
	List(all, "/")
	if shown(all) != was {
		t.Errorf("the list was written into: %s, not %s", shown(all), was)
	}
	if shown([]api.Node{n}) != wasNode {
		t.Errorf("the node was written into: %s, not %s", shown([]api.Node{n}), wasNode)
	}
}

// spoil writes into all of l, its spare room, its blocks, and theirs.
func spoil(l []api.Node) {
	for i := range l[:cap(l)] {
		n := &l[:cap(l)][i]
		for k := range n.Blocks[:cap(n.Blocks)] {
			n.Blocks[:cap(n.Blocks)][k] = api.Block{ID: -1, Gen: -2, Len: -3}
		}
		*n = api.Node{Path: "spoilt"}
	}
}

// P3, P7.3: what is told is new memory: whoever writes into one answer writes into nothing else.
func TestAnswersShareNothing(t *testing.T) {
	l, all := roomy()
	n := file("/n", full(3)...)
	first, second := changes(l, n), changes(l, n)
	was := shown(all)
	var told []string
	for _, got := range second {
		told = append(told, shown(got))
	}
	for _, got := range first {
		spoil(got)
	}
	if shown(all) != was || !slices.Equal(n.Blocks, full(3)) {
		t.Errorf("an answer shares with what was handed in: %s", shown(all))
	}
	for i, got := range second {
		if shown(got) != told[i] {
			t.Errorf("answer %d shares with another one: %s, not %s", i, shown(got), told[i])
		}
	}
	spoil(all)
	spoil([]api.Node{n})
	for i, got := range second {
		if shown(got) != told[i] {
			t.Errorf("answer %d changed with what was handed in: %s, not %s", i, shown(got), told[i])
		}
	}
}

// P3: no two lists of one answer share memory, even where those that were handed in do.
func TestBlocksShareNothing(t *testing.T) {
	one := full(8)
	l := []api.Node{dir("/"), dir("/a"), file("/a/f", one[:2]...), file("/a/g", one[1:3]...), file("/h", one...), file("/i", one[:2]...)}
	for i := range l {
		l[i].Blocks = l[i].Blocks[:len(l[i].Blocks):cap(l[i].Blocks)]
	}
	wantRight(t, "l", l, true)
	for what, change := range map[string]func() ([]api.Node, api.Errno){
		"Add":    func() ([]api.Node, api.Errno) { return Add(l, file("/j", one[:2]...)) },
		"Remove": func() ([]api.Node, api.Errno) { return Remove(l, "/i") },
		"Move":   func() ([]api.Node, api.Errno) { return Move(l, "/a", "/z") },
	} {
		got, e := change()
		if e != api.OK {
			t.Fatalf("%s: error %d", what, e)
		}
		for i, n := range got {
			for k := range n.Blocks[:cap(n.Blocks)] {
				n.Blocks[:cap(n.Blocks)][k].ID = 100 + i
			}
		}
		for i, n := range got {
			for _, b := range n.Blocks[:cap(n.Blocks)] {
				if b.ID != 100+i {
					t.Errorf("%s: the blocks of %q are those of another", what, n.Path)
				}
			}
		}
	}
	if !slices.Equal(one, full(8)) {
		t.Errorf("what was handed in was written into: %v", one)
	}
}

// P3: the names that List tells are a new list at each call.
func TestNamesShareNothing(t *testing.T) {
	l := forest()
	first, _ := List(l, "/")
	second, _ := List(l, "/")
	for i := range first[:cap(first)] {
		first[:cap(first)][i] = "spoilt"
	}
	if want := []string{"a", "a-b", "ab", "z"}; !slices.Equal(second, want) {
		t.Errorf("%q, not %q", second, want)
	}
	wantList(t, l, "/", second, api.OK)
	l[1].Path = "/0"
	if second[0] != "a" {
		t.Errorf("names changed with the tree: %q", second)
	}
}

// P4: the same is answered to the same, whatever was asked and refused between.
func TestKeepsNothing(t *testing.T) {
	l := forest()
	n := file("/n", full(3)...)
	want := changes(l, n)
	for _, bad := range noTrees() {
		Add(bad, n)
		Remove(bad, "/a")
		Move(bad, "/a", "/c")
		List(bad, "/")
		for i, got := range changes(l, n) {
			if !same(got, want[i]) {
				t.Fatalf("change %d told %s, and before %s", i, tell(got), tell(want[i]))
			}
		}
	}
}

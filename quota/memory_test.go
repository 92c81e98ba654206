package quota

import (
	"fmt"
	"slices"
	"testing"

	"tabularium/api"
)

// roomy: a tree some of whose directories are Over, in an array with more nodes behind it, whose blocks stand in arrays with more behind them.
func roomy() (l, all []api.Node) {
	plain, _ := forest()
	quoted := with(plain, map[string]int{"/": 20, "/a": 3, "/a/b": 9, "/ab": 0, "/c": 1})
	for _, n := range append(quoted, dir("/zz", 0), file("/zzz"), api.Node{Path: "behind", Quota: 7}) {
		blocks := []api.Block{{ID: 1, Gen: 2, Len: 3}, {ID: 4, Gen: 5, Len: 6}, {ID: 77, Gen: 78, Len: 79}}
		n.Blocks = blocks[:0]
		if !n.Dir {
			n.Blocks = blocks[:2]
		}
		all = append(all, n)
	}
	return all[:len(quoted)], all
}

// shown: all that can be seen of l, spare room too.
func shown(l []api.Node) string {
	var s []string
	for _, n := range l[:cap(l)] {
		s = append(s, fmt.Sprint(n, n.Blocks[:cap(n.Blocks)]))
	}
	return fmt.Sprint(len(l), cap(l), s)
}

// P3: nothing that is handed in is written into, nor what stands behind it.
func TestWritesNothing(t *testing.T) {
	l, all := roomy()
	wantTree(t, l)
	was := shown(all)
	for _, p := range append(paths(all), noPaths()...) {
		for _, list := range [][]api.Node{l, all} {
			Count(list, p)
			Room(list, p)
			Over(list)
		}
	}
	if shown(all) != was {
		t.Errorf("the list was written into: %s, not %s", shown(all), was)
	}
}

// P3: what Over tells is a new list at each call.
func TestOverSharesNothing(t *testing.T) {
	l, _ := roomy()
	first, second := Over(l), Over(l)
	for i := range first[:cap(first)] {
		first[:cap(first)][i] = "spoilt"
	}
	for i := range l {
		l[i] = api.Node{Path: "spoilt"}
	}
	if want := []string{"/a", "/ab"}; !slices.Equal(second, want) {
		t.Errorf("%q, not %q", second, want)
	}
}

// P4: the same is answered to the same, whatever was asked between.
func TestKeepsNothing(t *testing.T) {
	l, counts := forest()
	quoted := with(l, map[string]int{"/a": 10, "/ab": 0})
	for _, bad := range noTrees() {
		for _, list := range [][]api.Node{bad, l, crowd(60)} {
			Count(list, "/a")
			Room(list, "/a")
			Over(list)
			wantCount(t, quoted, "/a", counts["/a"])
			wantRoom(t, quoted, "/a", 2)
			wantOver(t, quoted, "/ab")
		}
	}
}

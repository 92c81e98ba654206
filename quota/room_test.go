package quota

import (
	"fmt"
	"slices"
	"testing"

	"tabularium/api"
	"tabularium/tree"
)

// P8.1: where there is no quota at all, there is room for MaxNodes less all, at each directory.
func TestRoomWithoutQuota(t *testing.T) {
	l, _ := forest()
	for _, n := range l {
		if n.Dir {
			wantRoom(t, l, n.Path, 60-17)
		}
	}
	wantRoom(t, []api.Node{dir("/", -1)}, "/", 59)
	for _, n := range []int{3, 58, 59, 60} {
		for _, p := range []string{"/", "/d", "/d/e"} {
			wantRoom(t, crowd(n), p, 60-n)
		}
	}
}

// P8.1: the quota of the directory itself, and of each that it is under, at their edges.
func TestRoomOfOneQuota(t *testing.T) {
	l, counts := forest()
	for _, limit := range []string{"/", "/a", "/a/b", "/a/b/c"} {
		for left := -counts[limit]; left <= 60; left++ {
			quoted := with(l, map[string]int{limit: counts[limit] + left})
			for _, p := range []string{"/a/b/c", limit} {
				wantRoom(t, quoted, p, max(0, min(left, 43)))
			}
		}
		wantRoom(t, with(l, map[string]int{limit: api.MaxNumber}), "/a/b/c", 43)
		wantRoom(t, with(l, map[string]int{limit: -1}), "/a/b/c", 43)
	}
}

// P8.1: of several the least of what is left counts, not the least quota, and not the nearest.
func TestRoomIsTheLeast(t *testing.T) {
	l, _ := forest()
	for _, c := range []struct {
		quotas map[string]int
		room   int
	}{
		{map[string]int{"/a": 10, "/a/b": 9}, 2},
		{map[string]int{"/a": 12, "/a/b": 7}, 2},
		{map[string]int{"/a": 10, "/a/b": 7}, 2},
		{map[string]int{"/": 20, "/a": 13, "/a/b": 9}, 3},
		{map[string]int{"/": 18, "/a/b": 9}, 1},
		{map[string]int{"/": 30, "/a": 9, "/a/b": 30}, 1},
		{map[string]int{"/": 60, "/a": 60, "/a/b": 60}, 43},
		{map[string]int{"/": 59, "/a": 60, "/a/b": 60}, 42},
		{map[string]int{"/": api.MaxNumber, "/a": api.MaxNumber, "/a/b": api.MaxNumber}, 43},
		{map[string]int{"/": 17, "/a": 60, "/a/b": 60}, 0},
		{map[string]int{"/": 60, "/a": 8, "/a/b": 60}, 0},
		{map[string]int{"/": 60, "/a": 60, "/a/b": 5}, 0},
		{map[string]int{"/": 0, "/a": 60, "/a/b": 60}, 0},
		{map[string]int{"/": 60, "/a": 0, "/a/b": 60}, 0},
		{map[string]int{"/": 60, "/a": 60, "/a/b": 0}, 0},
		{map[string]int{"/": 0, "/a": 0, "/a/b": 0}, 0},
	} {
		wantRoom(t, with(l, c.quotas), "/a/b", c.room)
	}
}

// P8.1: what stands in the directory, beside it, or begins like it, takes nothing of its room, even where it is Over.
func TestRoomAsksNoOther(t *testing.T) {
	l, _ := forest()
	for _, quota := range []int{0, 1, 20} {
		wantRoom(t, with(l, map[string]int{"/a/b/c": quota, "/a/bc": quota, "/a-b": quota, "/ab": quota, "/ab/a": quota, "/c": quota}), "/a/b", 43)
		wantRoom(t, with(l, map[string]int{"/a": quota, "/a/b": quota, "/a/b/c": quota, "/a/bc": quota, "/a-b": quota, "/ab": quota, "/c": quota}), "/", 43)
		wantRoom(t, with(l, map[string]int{"/a": quota, "/a/b": quota, "/c": quota}), "/ab", 43)
		wantRoom(t, with(l, map[string]int{"/ab": quota, "/a-b": quota}), "/a", 43)
	}
}

// P8.1: at MaxNodes there is no room, whatever the quotas say; ahead of that their least still counts.
func TestRoomAtMaxNodes(t *testing.T) {
	for _, quota := range []int{-1, 0, 60, 61, api.MaxNumber} {
		l := with(crowd(60), map[string]int{"/": quota, "/d": quota, "/d/e": quota})
		wantTree(t, l)
		for _, p := range []string{"/", "/d", "/d/e"} {
			wantRoom(t, l, p, 0)
		}
	}
	for nodes, room := range map[int]int{59: 1, 58: 2, 57: 3, 56: 3, 3: 3} {
		wantRoom(t, with(crowd(nodes), map[string]int{"/d": 5}), "/d", room)
		wantRoom(t, with(crowd(nodes), map[string]int{"/d": 5}), "/d/e", room)
		wantRoom(t, with(crowd(nodes), map[string]int{"/d": 5}), "/", 60-nodes)
	}
}

// P8.1: what is no directory there has no room.
func TestRoomOfNoDirectory(t *testing.T) {
	l, _ := forest()
	for _, quotas := range []map[string]int{nil, {"/": 40, "/a": 30}, {"/": 0}} {
		l := with(l, quotas)
		for _, p := range append(noPaths(), "/b", "/a.b", "/a/x", "/a/b/c/x", "/ab/a/x", "/d", "/a/a", "/b/b", "/a/b/c/x/y", deep(6), long(120)) {
			wantRoom(t, l, p, 0)
		}
	}
}

// P8.1: Room asks the quotas alone, not whether a path in the directory could be one.
func TestRoomDeep(t *testing.T) {
	for _, p := range []string{deep(6), long(120)} {
		l := chain(p)
		wantRoom(t, l, p, 53)
		wantRoom(t, with(l, map[string]int{p: 5}), p, 4)
		wantRoom(t, with(l, map[string]int{"/": 9, p: 5}), p, 2)
	}
}

// grow: the tree with one node more in p; what Add tells.
func grow(l []api.Node, p string, more api.Node) ([]api.Node, api.Errno) {
	for i := range 100 {
		more.Path = fmt.Sprintf("%s/new%d", p, i)
		if p == "/" {
			more.Path = more.Path[1:]
		}
		if tree.Find(l, more.Path) < 0 {
			return tree.Add(l, more)
		}
	}
	panic("no name is left")
}

// holdGrowth fills p by files and directories: with Room one more makes nothing Over, without it makes something of p's line Over, or too many.
func holdGrowth(t *testing.T, l []api.Node, p string) {
	t.Helper()
	over, first := Over(l), Room(l, p)
	for done := 0; ; done++ {
		more := file("")
		if done%2 == 1 {
			more = dir("", -1)
		}
		next, e := grow(l, p, more)
		if room := Room(l, p); room != first-done {
			t.Fatalf("%d more at %q: room for %d, not %d:%s", done, p, room, first-done, tell(l))
		}
		if done == first {
			if e != api.ErrLong && !overAround(Over(next), p) {
				t.Errorf("without room at %q one more makes nothing Over, and error %d:%s", p, e, tell(next))
			}
			return
		}
		if e != api.OK || !slices.Equal(Over(next), over) {
			t.Fatalf("with room at %q: error %d, Over %q, and before %q:%s", p, e, Over(next), over, tell(next))
		}
		l = next
	}
}

// overAround: is p, or something that it is under, among over?
func overAround(over []string, p string) bool {
	return slices.ContainsFunc(over, func(a string) bool { return modelUnder(a, p) })
}

// P8.2: at each directory of a tree, with all kinds of quotas.
func TestGrowth(t *testing.T) {
	l, counts := forest()
	for _, limit := range []string{"/", "/a", "/a/b", "/a/b/c", "/ab", "/c"} {
		for _, quota := range []int{-1, 0, counts[limit] - 1, counts[limit], counts[limit] + 1, counts[limit] + 7, 60, api.MaxNumber} {
			quoted := with(l, map[string]int{limit: quota})
			for _, n := range quoted {
				if n.Dir {
					holdGrowth(t, quoted, n.Path)
				}
			}
		}
	}
}

// P8.2: at MaxNodes one node more is too many.
func TestGrowthAtMaxNodes(t *testing.T) {
	for nodes := 57; nodes <= 60; nodes++ {
		for _, p := range []string{"/", "/d", "/d/e"} {
			holdGrowth(t, crowd(nodes), p)
			holdGrowth(t, with(crowd(nodes), map[string]int{"/": 60, "/d": 4}), p)
		}
	}
	if _, e := grow(crowd(60), "/d", file("")); e != api.ErrLong {
		t.Errorf("one more than MaxNodes: error %d", e)
	}
}

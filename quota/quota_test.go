package quota

import (
	"fmt"
	"math"
	"slices"
	"strings"
	"testing"

	"tabularium/api"
	"tabularium/tree"
)

// dir: a directory with a quota; with none, where that is -1.
func dir(p string, quota int) api.Node {
	return api.Node{Path: p, Dir: true, Quota: quota, Writer: -1}
}

func file(p string) api.Node {
	return api.Node{Path: p, Quota: -1, Writer: -1}
}

// forest: a tree without quotas, in which names begin alike, and how many nodes are under each path of it.
func forest() ([]api.Node, map[string]int) {
	l := []api.Node{
		dir("/", -1),
		dir("/a", -1),
		dir("/a-b", -1),
		file("/a-b/x"),
		file("/a.b"),
		dir("/a/b", -1),
		dir("/a/b/c", -1),
		file("/a/b/c/x"),
		file("/a/b/c/y"),
		file("/a/b/x"),
		dir("/a/bc", -1),
		file("/a/x"),
		dir("/ab", -1),
		dir("/ab/a", -1),
		file("/ab/a/x"),
		file("/b"),
		dir("/c", -1),
	}
	return l, map[string]int{
		"/": 17, "/a": 8, "/a-b": 2, "/a-b/x": 1, "/a.b": 1, "/a/b": 5, "/a/b/c": 3, "/a/b/c/x": 1, "/a/b/c/y": 1,
		"/a/b/x": 1, "/a/bc": 1, "/a/x": 1, "/ab": 3, "/ab/a": 2, "/ab/a/x": 1, "/b": 1, "/c": 1,
	}
}

// with: the list l, but that the directories p have these quotas.
func with(l []api.Node, quotas map[string]int) []api.Node {
	l = slices.Clone(l)
	for p, quota := range quotas {
		l[tree.Find(l, p)].Quota = quota
	}
	return l
}

// crowd: a tree of so many nodes, the root counted: directories /d and /d/e, and files beside them, that are called by their numbers.
func crowd(nodes int) []api.Node {
	l := []api.Node{dir("/", -1)}
	for i := range nodes - 3 {
		l = append(l, file(fmt.Sprintf("/%02d", i)))
	}
	return append(l, dir("/d", -1), dir("/d/e", -1))
}

// chain: the tree of a directory p, and of all that it stands in.
func chain(p string) []api.Node {
	l := []api.Node{dir("/", -1)}
	for i := range len(p) {
		if i > 0 && p[i] == '/' {
			l = append(l, dir(p[:i], -1))
		}
	}
	return append(l, dir(p, -1))
}

// x: a name of n bytes.
func x(n int) string {
	return strings.Repeat("x", n)
}

// deep: a path of so many names.
func deep(names int) string {
	return strings.Repeat("/d", names)
}

// long: a path of six names, and so many bytes, 102 to 126 of them.
func long(bytes int) string {
	return "/" + x(20) + "/" + x(20) + "/" + x(20) + "/" + x(20) + "/" + x(15) + "/" + x(bytes-101)
}

// noPaths: texts that are none.
func noPaths() []string {
	return []string{"", "a", "a/b", "/a/", "/a/b/", "//", "//a", "/a//b", "/.", "/..", "/a/.", "/a/..", "/a/../b", "/A", "/a b", "/a\x00", "/\xff", " /a", "/a\n", "/" + x(21), deep(7), long(121), deep(100000)}
}

// noTrees: lists that are none, in which there would be something to count, something Over, and Room, were they taken for trees.
func noTrees() map[string][]api.Node {
	writer, quota, blocks := dir("/a", 0), file("/a/x"), dir("/a", 0)
	writer.Writer, quota.Quota, blocks.Blocks = 0, 0, []api.Block{{ID: 1, Gen: 1}}
	return map[string][]api.Node{
		"nil":                         nil,
		"empty":                       {},
		"nothing but zero":            {{}},
		"no root":                     {dir("/a", 0), file("/a/x")},
		"a file for a root":           {file("/"), dir("/a", 0)},
		"a root with too low a quota": {dir("/", -2), dir("/a", 0)},
		"too low a quota":             {dir("/", 0), dir("/a", -2)},
		"least quota":                 {dir("/", 0), dir("/a", math.MinInt)},
		"too great a quota":           {dir("/", 0), dir("/a", 1<<53)},
		"greatest quota":              {dir("/", 0), dir("/a", math.MaxInt)},
		"the root twice":              {dir("/", 0), dir("/", 0)},
		"twice":                       {dir("/", 0), dir("/a", 0), dir("/a", 0)},
		"falling":                     {dir("/", 0), dir("/b", 0), dir("/a", 0)},
		"by names, not by bytes":      {dir("/", 0), dir("/a", 0), file("/a/x"), dir("/a-b", 0)},
		"child ahead of its parent":   {dir("/", 0), file("/a/x"), dir("/a", 0)},
		"no parent":                   {dir("/", 0), file("/a/x")},
		"no parent, but one like it":  {dir("/", 0), dir("/a", 0), dir("/ab/x", 0)},
		"parent is a file":            {dir("/", 0), file("/a"), file("/a/x")},
		"a directory with a writer":   {dir("/", 0), writer},
		"a directory with a block":    {dir("/", 0), blocks},
		"a file with a quota":         {dir("/", 0), dir("/a", 0), quota},
		"a path that is none":         {dir("/", 0), dir("/a/", 0)},
		"a path that is none, text":   {dir("/", 0), dir("a", 0)},
		"an empty path":               {dir("/", 0), dir("", 0)},
		"a path that is too long":     append(with(chain(long(120)), map[string]int{"/": 0}), dir(long(121), 0)),
		"a path that is too deep":     append(with(chain(deep(6)), map[string]int{"/": 0}), dir(deep(7), 0)),
		"one too many":                with(crowd(61), map[string]int{"/": 0, "/d": 0}),
		"far too many":                slices.Repeat([]api.Node{dir("/", 0)}, 100000),
	}
}

func paths(l []api.Node) []string {
	var out []string
	for _, n := range l {
		out = append(out, n.Path)
	}
	return out
}

// tell: the paths and quotas of l, as a text, or where it is a long one its beginning.
func tell(l []api.Node) string {
	var s strings.Builder
	for _, n := range l[:min(len(l), 70)] {
		fmt.Fprintf(&s, " %.40q:%d", n.Path, n.Quota)
	}
	return s.String()
}

func wantTree(t *testing.T, l []api.Node) {
	t.Helper()
	if !tree.Right(l) {
		t.Fatalf("the test's own list is no tree:%s", tell(l))
	}
}

func wantCount(t *testing.T, l []api.Node, p string, n int) {
	t.Helper()
	if got := Count(l, p); got != n {
		t.Errorf("Count(%s, %.140q) = %d, not %d", tell(l), p, got, n)
	}
}

func wantOver(t *testing.T, l []api.Node, over ...string) {
	t.Helper()
	if got := Over(l); !slices.Equal(got, over) {
		t.Errorf("Over(%s) = %q, not %q", tell(l), got, over)
	}
}

func wantRoom(t *testing.T, l []api.Node, p string, n int) {
	t.Helper()
	if got := Room(l, p); got != n {
		t.Errorf("Room(%s, %.140q) = %d, not %d", tell(l), p, got, n)
	}
}

// The chapter's examples.
func TestExamples(t *testing.T) {
	l := []api.Node{dir("/", -1), dir("/a", 3), file("/a/x")}
	wantCount(t, l, "/a", 2)
	wantRoom(t, l, "/a", 1)
	wantOver(t, l)
}

// The line ahead of P8.1: a list that is no tree counts as nothing.
func TestNoTree(t *testing.T) {
	for _, l := range noTrees() {
		if tree.Right(l) {
			t.Fatalf("the test's own list is a tree:%s", tell(l))
		}
		wantOver(t, l)
		for _, p := range append([]string{"/", "/a", "/a/x", "/d", "/q", "a", ""}, paths(l[:min(len(l), 70)])...) {
			wantCount(t, l, p, 0)
			wantRoom(t, l, p, 0)
		}
	}
}

// P8.1: all nodes under a path count, itself too, at any depth, and nothing that only begins like it.
func TestCount(t *testing.T) {
	l, counts := forest()
	wantTree(t, l)
	for _, n := range l {
		wantCount(t, l, n.Path, counts[n.Path])
	}
	wantCount(t, []api.Node{dir("/", -1)}, "/", 1)
	wantCount(t, []api.Node{dir("/", -1), dir("/a", -1), dir("/ab", -1)}, "/a", 1)
	for _, n := range []int{3, 4, 59, 60} {
		wantCount(t, crowd(n), "/", n)
		wantCount(t, crowd(n), "/d", 2)
		wantCount(t, crowd(n), "/d/e", 1)
	}
}

// P8.1: of what is not there, and of what is no path, nothing counts.
func TestCountNone(t *testing.T) {
	l, _ := forest()
	for _, p := range append(noPaths(), "/d", "/a/a", "/a/b/c/x/y", "/b/b", "/x", "/c/a", "/a/b/c/d/e/f", deep(6), long(120)) {
		wantCount(t, l, p, 0)
	}
}

// P8.1: at the deepest and the longest path that there may be.
func TestCountDeep(t *testing.T) {
	for _, p := range []string{deep(6), long(120)} {
		l := chain(p)
		wantTree(t, l)
		for i, n := range l {
			wantCount(t, l, n.Path, 7-i)
		}
	}
}

// P8.1: quotas do not change what counts.
func TestCountAsksNoQuota(t *testing.T) {
	l, counts := forest()
	for _, quota := range []int{-1, 0, 1, 60, api.MaxNumber} {
		for i := range l {
			if l[i].Dir {
				l[i].Quota = quota
			}
		}
		for _, n := range l {
			wantCount(t, l, n.Path, counts[n.Path])
		}
	}
}

// P8.1: a directory is Over, if its quota is from 0 on, and less than its Count.
func TestOverEdges(t *testing.T) {
	l, counts := forest()
	wantOver(t, l)
	for _, n := range l {
		if !n.Dir {
			continue
		}
		count := counts[n.Path]
		for _, quota := range []int{0, count - 1} {
			wantOver(t, with(l, map[string]int{n.Path: quota}), n.Path)
		}
		for _, quota := range []int{-1, count, count + 1, api.MaxNodes, api.MaxNumber} {
			wantOver(t, with(l, map[string]int{n.Path: quota}))
		}
	}
	wantOver(t, []api.Node{dir("/", 0)}, "/")
	wantOver(t, []api.Node{dir("/", 1)})
	wantOver(t, with(crowd(60), map[string]int{"/": 59}), "/")
	wantOver(t, with(crowd(60), map[string]int{"/": 60}))
}

// P8.1: of several all are told, rising byte by byte, wherever they stand to each other.
func TestOverSeveral(t *testing.T) {
	l, _ := forest()
	wantOver(t, with(l, map[string]int{"/": 0, "/a": 0, "/a-b": 0, "/a/b": 0, "/a/b/c": 0, "/a/bc": 0, "/ab": 0, "/ab/a": 0, "/c": 0}),
		"/", "/a", "/a-b", "/a/b", "/a/b/c", "/a/bc", "/ab", "/ab/a", "/c")
	wantOver(t, with(l, map[string]int{"/": 17, "/a": 7, "/a-b": 1, "/a/b": 5, "/a/b/c": 2, "/ab": api.MaxNumber, "/ab/a": 1}), "/a", "/a-b", "/a/b/c", "/ab/a")
	wantOver(t, with(l, map[string]int{"/c": 0, "/a": 0}), "/a", "/c")
	wantOver(t, with(l, map[string]int{"/a": 8, "/a/b": 4}), "/a/b") // one in another one, and that one is not
	wantOver(t, with(l, map[string]int{"/a": 7, "/a/b": 5}), "/a")
	wantOver(t, with(l, map[string]int{"/a": 7, "/a/b": 4}), "/a", "/a/b")
	wantOver(t, with(l, map[string]int{"/": 16, "/ab/a": 1}), "/", "/ab/a")
}

// P8.1: with MaxNodes directories, each of which is Over.
func TestOverAll(t *testing.T) {
	l := crowd(60)
	for i := range l {
		l[i] = dir(l[i].Path, 0)
	}
	wantTree(t, l)
	wantOver(t, l, paths(l)...)
}

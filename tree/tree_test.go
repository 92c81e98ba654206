package tree

import (
	"fmt"
	"math"
	"slices"
	"strings"
	"testing"

	"tabularium/api"
)

func dir(p string) api.Node {
	return api.Node{Path: p, Dir: true, Quota: -1, Writer: -1}
}

func file(p string, blocks ...api.Block) api.Node {
	return api.Node{Path: p, Quota: -1, Writer: -1, Blocks: blocks}
}

// full: n blocks that are all unlike.
func full(n int) []api.Block {
	var l []api.Block
	for i := range n {
		l = append(l, api.Block{ID: i + 1, Gen: 2*i + 1, Len: i % 65})
	}
	return l
}

// sample is the tree of the chapter's examples.
func sample() []api.Node {
	return []api.Node{dir("/"), dir("/a"), file("/a/x", api.Block{ID: 1, Gen: 1, Len: 64}), dir("/b")}
}

// crowd: a tree of so many nodes, the root counted: a directory, a file, and files that are called by their numbers.
func crowd(nodes int) []api.Node {
	l := []api.Node{dir("/")}
	for i := range nodes - 3 {
		l = append(l, file(fmt.Sprintf("/%02d", i)))
	}
	return append(l, dir("/d"), file("/f"))
}

// x: a name of n bytes.
func x(n int) string {
	return strings.Repeat("x", n)
}

// deep: a path of so many names.
func deep(names int) string {
	return strings.Repeat("/d", names)
}

// long: a path of six names, and so many bytes, 102 to 126 of them.
func long(bytes int) string {
	return "/" + x(20) + "/" + x(20) + "/" + x(20) + "/" + x(20) + "/" + x(15) + "/" + x(bytes-101)
}

// noPaths: texts that are none.
func noPaths() []string {
	return []string{"", "a", "a/b", "/a/", "//", "//a", "/a//x", "/.", "/..", "/a/..", "/a/../b", "/A", "/a b", "/a\x00", "/\xff", " /a", "/a\n", "/" + x(21), deep(7), long(121), long(122), deep(100000)}
}

// noTrees: lists that are none.
func noTrees() map[string][]api.Node {
	writer, quota := dir("/a"), file("/a/x")
	writer.Writer, quota.Quota = 0, 0
	return map[string][]api.Node{
		"nil":                        nil,
		"empty":                      {},
		"no root":                    {dir("/a")},
		"no root, but the rest":      sample()[1:],
		"a file for a root":          {file("/")},
		"a file for a root, with it": {file("/"), dir("/a")},
		"a root that does not fit":   {{Path: "/", Dir: true, Quota: -2, Writer: -1}, dir("/a")},
		"a root with blocks":         {{Path: "/", Dir: true, Quota: -1, Writer: -1, Blocks: full(1)}, dir("/a")},
		"nothing but zero":           {{}},
		"the root twice":             {dir("/"), dir("/")},
		"twice":                      {dir("/"), dir("/a"), dir("/a")},
		"twice, a file and not":      {dir("/"), dir("/a"), file("/a")},
		"twice, far off":             {dir("/"), dir("/a"), dir("/b"), dir("/a")},
		"falling":                    {dir("/"), dir("/b"), dir("/a")},
		"root at the end":            {dir("/a"), dir("/b"), dir("/")},
		"root in the middle":         {dir("/a"), dir("/"), dir("/b")},
		"child ahead of its parent":  {dir("/"), file("/a/x"), dir("/a")},
		"by names, not by bytes":     {dir("/"), dir("/a"), file("/a/x"), dir("/a-b")},
		"by names, dots":             {dir("/"), dir("/a"), file("/a/x"), dir("/a.b")},
		"by length":                  {dir("/"), dir("/b"), dir("/aa")},
		"by number":                  {dir("/"), dir("/9"), dir("/10")},
		"no parent":                  {dir("/"), file("/a/x")},
		"no parent, but its parent":  {dir("/"), dir("/a"), dir("/a/b/c")},
		"no parent, but one like it": {dir("/"), dir("/a"), dir("/ab/x")},
		"parent is a file":           {dir("/"), file("/a"), file("/a/x")},
		"parent is a file, deeper":   {dir("/"), dir("/a"), file("/a/b"), dir("/a/b/c")},
		"a directory with a writer":  {dir("/"), writer},
		"a file with a quota":        {dir("/"), dir("/a"), quota},
		"a path that is none":        {dir("/"), dir("/a/")},
		"a path that is none, text":  {dir("/"), dir("a")},
		"an empty path":              {dir("/"), dir("")},
		"a path that is too long":    append(chain(long(120)), dir(long(121))),
		"a path that is too deep":    append(chain(deep(6)), dir(deep(7))),
		"one too many":               crowd(61),
		"far too many":               slices.Repeat([]api.Node{dir("/")}, 100000),
	}
}

// chain: the tree of a directory p, and of all that it stands in.
func chain(p string) []api.Node {
	l := []api.Node{dir("/")}
	for i := range len(p) {
		if i > 0 && p[i] == '/' {
			l = append(l, dir(p[:i]))
		}
	}
	return append(l, dir(p))
}

func paths(l []api.Node) []string {
	var out []string
	for _, n := range l {
		out = append(out, n.Path)
	}
	return out
}

func sameNode(a, b api.Node) bool {
	return a.Path == b.Path && a.Dir == b.Dir && a.Quota == b.Quota && a.Writer == b.Writer && slices.Equal(a.Blocks, b.Blocks)
}

func same(a, b []api.Node) bool {
	return slices.EqualFunc(a, b, sameNode)
}

// tell: v as a text, or where it is a long one its beginning.
func tell(v any) string {
	return fmt.Sprintf("%.900s", fmt.Sprintf("%+v", v))
}

func wantFits(t *testing.T, n api.Node, ok bool) {
	t.Helper()
	if Fits(n) != ok {
		t.Errorf("Fits(%s) = %v", tell(n), !ok)
	}
}

func wantRight(t *testing.T, what string, l []api.Node, ok bool) {
	t.Helper()
	if Right(l) != ok {
		t.Errorf("%s: Right(%s) = %v", what, tell(l), !ok)
	}
}

func wantFind(t *testing.T, l []api.Node, p string, place int) {
	t.Helper()
	if got := Find(l, p); got != place {
		t.Errorf("Find(%s, %.140q) = %d, not %d", tell(paths(l)), p, got, place)
	}
}

func wantList(t *testing.T, l []api.Node, p string, names []string, e api.Errno) {
	t.Helper()
	if got, err := List(l, p); !slices.Equal(got, names) || err != e {
		t.Errorf("List(%s, %.140q) = %q, %d, not %q, %d", tell(paths(l)), p, got, err, names, e)
	}
}

// wantTree holds what a change told; what comes without an error is a tree (P7.4).
func wantTree(t *testing.T, what string, got []api.Node, err api.Errno, l []api.Node, e api.Errno) {
	t.Helper()
	if !same(got, l) || err != e {
		t.Errorf("%s = %s, %d, not %s, %d", what, tell(got), err, tell(l), e)
	}
	if Right(got) != (err == api.OK) {
		t.Errorf("%s with error %d: is it a tree? %v", what, err, Right(got))
	}
}

func wantAdd(t *testing.T, l []api.Node, n api.Node, want []api.Node, e api.Errno) {
	t.Helper()
	got, err := Add(l, n)
	wantTree(t, fmt.Sprintf("Add(%s, %s)", tell(paths(l)), tell(n)), got, err, want, e)
}

func wantRemove(t *testing.T, l []api.Node, p string, want []api.Node, e api.Errno) {
	t.Helper()
	got, err := Remove(l, p)
	wantTree(t, fmt.Sprintf("Remove(%s, %.140q)", tell(paths(l)), p), got, err, want, e)
}

func wantMove(t *testing.T, l []api.Node, from, to string, want []api.Node, e api.Errno) {
	t.Helper()
	got, err := Move(l, from, to)
	wantTree(t, fmt.Sprintf("Move(%s, %.140q, %.140q)", tell(paths(l)), from, to), got, err, want, e)
}

// The chapter's examples.
func TestExamples(t *testing.T) {
	l := sample()
	wantList(t, l, "/", []string{"a", "b"}, api.OK)
	wantAdd(t, l, dir("/a/x/y"), nil, api.ErrDir)
	wantMove(t, l, "/a", "/a/b", nil, api.ErrArg)
	x := l[2]
	x.Path = "/b/c/x"
	wantMove(t, l, "/a", "/b/c", []api.Node{dir("/"), dir("/b"), dir("/b/c"), x}, api.OK)
}

// P7.1: a directory has no blocks, nobody who writes it, and a quota in its bounds.
func TestFitsDir(t *testing.T) {
	for _, p := range []string{"/", "/a", "/a/b", deep(6), long(120)} {
		wantFits(t, dir(p), true)
		for quota, ok := range map[int]bool{math.MinInt: false, -2: false, -1: true, 0: true, 1: true, 60: true, 61: true, 1<<53 - 2: true, 1<<53 - 1: true, 1 << 53: false, math.MaxInt: false} {
			n := dir(p)
			n.Quota = quota
			wantFits(t, n, ok)
		}
		for _, writer := range []int{math.MinInt, -2, 0, 1, 3, 4, math.MaxInt} {
			n := dir(p)
			n.Writer = writer
			wantFits(t, n, false)
		}
		n := dir(p)
		n.Blocks = []api.Block{}
		wantFits(t, n, true)
		n.Blocks = full(8)[:0]
		wantFits(t, n, true)
		n.Blocks = full(1)
		wantFits(t, n, false)
		n.Blocks = full(8)
		wantFits(t, n, false)
		n.Blocks = []api.Block{{}}
		wantFits(t, n, false)
	}
}

// P7.1: a file is not the root, has no quota, and who writes it is a client or nobody.
func TestFitsFile(t *testing.T) {
	wantFits(t, file("/"), false)
	wantFits(t, file("/", full(1)...), false)
	for _, p := range []string{"/a", "/a/b", deep(6), long(120)} {
		wantFits(t, file(p), true)
		for _, quota := range []int{math.MinInt, -2, 0, 1, 1<<53 - 1, 1 << 53, math.MaxInt} {
			n := file(p)
			n.Quota = quota
			wantFits(t, n, false)
		}
		for writer, ok := range map[int]bool{math.MinInt: false, -2: false, -1: true, 0: true, 1: true, 2: true, 3: true, 4: false, 5: false, math.MaxInt: false} {
			n := file(p)
			n.Writer = writer
			wantFits(t, n, ok)
		}
	}
}

// P7.1: a file has up to MaxBlocks blocks, each of which is in its bounds, wherever it stands.
func TestFitsBlocks(t *testing.T) {
	for n := range 12 {
		wantFits(t, file("/a", full(n)...), n <= 8)
	}
	wantFits(t, file("/a", full(100000)...), false)
	wantFits(t, file("/a", []api.Block{}...), true)
	good := []api.Block{{ID: 1, Gen: 1, Len: 0}, {ID: 1<<53 - 1, Gen: 1, Len: 1}, {ID: 1, Gen: 1<<53 - 1, Len: 63}, {ID: 7, Gen: 8, Len: 64}}
	bad := []api.Block{
		{}, {ID: 0, Gen: 1}, {ID: -1, Gen: 1}, {ID: 1 << 53, Gen: 1}, {ID: math.MinInt, Gen: 1}, {ID: math.MaxInt, Gen: 1},
		{ID: 1, Gen: 0}, {ID: 1, Gen: -1}, {ID: 1, Gen: 1 << 53}, {ID: 1, Gen: math.MinInt}, {ID: 1, Gen: math.MaxInt},
		{ID: 1, Gen: 1, Len: -1}, {ID: 1, Gen: 1, Len: 65}, {ID: 1, Gen: 1, Len: math.MinInt}, {ID: 1, Gen: 1, Len: math.MaxInt},
	}
	for _, b := range good {
		wantFits(t, file("/a", b), true)
		wantFits(t, file("/a", b, b), true) // that no two are alike is asked by nobody here
	}
	wantFits(t, file("/a", good...), true)
	for _, b := range bad {
		wantFits(t, file("/a", b), false)
		for at := range 8 {
			l := full(8)
			l[at] = b
			wantFits(t, file("/a", l...), false)
		}
	}
}

// P7.1: what stands at no path does not fit.
func TestFitsPath(t *testing.T) {
	wantFits(t, api.Node{}, false)
	for _, p := range noPaths() {
		wantFits(t, dir(p), false)
		wantFits(t, file(p), false)
		wantFits(t, file(p, full(2)...), false)
	}
}

// P7.1: trees.
func TestRight(t *testing.T) {
	for what, l := range map[string][]api.Node{
		"root":            {dir("/")},
		"root with quota": {{Path: "/", Dir: true, Quota: 0, Writer: -1}}, // that it is over its quota is chapter 8's
		"sample":          sample(),
		"files":           {dir("/"), file("/a"), file("/b", full(8)...)},
		"byte by byte":    {dir("/"), dir("/a"), dir("/a-b"), dir("/a.b"), file("/a.b/x"), file("/a/x"), dir("/a0"), dir("/a_"), dir("/aa")},
		"a file between":  {dir("/"), dir("/a"), file("/a-b"), file("/a/x")},
		"deep":            chain(deep(6)),
		"long":            chain(long(120)),
		"same names":      {dir("/"), dir("/a"), dir("/a/a"), file("/a/a/a")},
		"same blocks":     {dir("/"), file("/a", full(1)...), file("/b", full(1)...)},
		"59":              crowd(59),
		"60":              crowd(60),
	} {
		wantRight(t, what, l, true)
	}
}

// P7.1: lists that are no trees.
func TestNotRight(t *testing.T) {
	for what, l := range noTrees() {
		wantRight(t, what, l, false)
	}
}

// P7.1: a node that does not fit makes a list no tree, wherever it stands.
func TestRightAsksEachNode(t *testing.T) {
	for at := range crowd(60) {
		l := crowd(60)
		l[at].Quota = -2
		wantRight(t, fmt.Sprint("quota at ", at), l, false)
		l = crowd(60)
		l[at].Writer = 4
		wantRight(t, fmt.Sprint("writer at ", at), l, false)
		l = crowd(60)
		l[at].Path = "x"
		wantRight(t, fmt.Sprint("path at ", at), l, false)
		l = crowd(60)
		l[at].Blocks = full(9)
		wantRight(t, fmt.Sprint("blocks at ", at), l, false)
		if at > 0 {
			l = crowd(60)
			l[at-1], l[at] = l[at], l[at-1]
			wantRight(t, fmt.Sprint("swapped at ", at), l, false)
			l[at-1] = l[at]
			wantRight(t, fmt.Sprint("twice at ", at), l, false)
		}
	}
}

// P7.1: Find tells the first of any list, tree or not, and of any text.
func TestFind(t *testing.T) {
	l := sample()
	for place, p := range paths(l) {
		wantFind(t, l, p, place)
	}
	for _, p := range []string{"/c", "/a/y", "/x", "/ab", "a", "x", "/a/", "/a/x/", "//", "/A", "/a/b/c", ""} {
		wantFind(t, l, p, -1)
	}
	wantFind(t, nil, "/", -1)
	wantFind(t, nil, "", -1)
	wantFind(t, []api.Node{}, "/", -1)
	wantFind(t, []api.Node{{}}, "", 0)
	odd := []api.Node{dir("/b"), {Path: "no path", Quota: -9}, file("/a"), dir("/b"), {}, dir("/a"), {}, dir("/")}
	for p, place := range map[string]int{"/b": 0, "no path": 1, "/a": 2, "": 4, "/": 7, "/c": -1} {
		wantFind(t, odd, p, place)
	}
	for _, l := range noTrees() {
		for _, n := range l[:min(len(l), 70)] {
			wantFind(t, l, n.Path, slices.Index(paths(l), n.Path))
		}
	}
	for _, p := range noPaths() {
		wantFind(t, l, p, -1)
	}
	for place, p := range paths(crowd(60)) {
		wantFind(t, crowd(60), p, place)
	}
}

// P7.1: List tells the last names of what stands in a directory, and not of what stands deeper, or beside it.
func TestList(t *testing.T) {
	l := []api.Node{dir("/"), dir("/a"), dir("/a-b"), file("/a-b/z"), dir("/a.b"), dir("/a/-"), dir("/a/b"), file("/a/b/x"), dir("/a/b/y"), file("/a/b/y/w"), file("/a/c"), dir("/ab"), file("/ab/q"), dir("/b")}
	wantRight(t, "l", l, true)
	for p, names := range map[string][]string{
		"/":      {"a", "a-b", "a.b", "ab", "b"},
		"/a":     {"-", "b", "c"},
		"/a-b":   {"z"},
		"/a.b":   nil,
		"/a/-":   nil,
		"/a/b":   {"x", "y"},
		"/a/b/y": {"w"},
		"/ab":    {"q"},
		"/b":     nil,
	} {
		wantList(t, l, p, names, api.OK)
	}
	wantList(t, []api.Node{dir("/")}, "/", nil, api.OK)
	wantList(t, chain(deep(6)), deep(5), []string{"d"}, api.OK)
	wantList(t, chain(deep(6)), deep(6), nil, api.OK)
	wantList(t, chain(deep(6)), "/", []string{"d"}, api.OK)
	var names []string
	for _, p := range paths(crowd(60))[1:] {
		names = append(names, p[1:])
	}
	wantList(t, crowd(60), "/", names, api.OK)
}

// P7.1: the errors of List, in their order.
func TestListErrors(t *testing.T) {
	l := sample()
	for what, bad := range noTrees() {
		for _, p := range []string{"/", "/a", "/a/x", "/q", "x", ""} {
			if _, e := List(bad, p); e != api.ErrArg {
				t.Errorf("List of %s at %q: error %d", what, p, e)
			}
		}
	}
	for _, p := range noPaths() {
		wantList(t, l, p, nil, api.ErrArg)
	}
	for _, p := range []string{"/c", "/ab", "/a/y", "/a/x/y", "/a/x/y/z", "/q/r", "/x", deep(6), long(120)} {
		wantList(t, l, p, nil, api.ErrNone)
	}
	wantList(t, l, "/a/x", nil, api.ErrDir)
	wantList(t, crowd(60), "/f", nil, api.ErrDir)
	wantList(t, crowd(60), "/00", nil, api.ErrDir)
}

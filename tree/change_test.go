package tree

import (
	"slices"
	"testing"

	"tabularium/api"
)

// P7.2: a node that is added stands at its place in the order of bytes, with all that it has.
func TestAdd(t *testing.T) {
	quota := dir("/a-b")
	quota.Quota = 5
	written := file("/b/f", full(8)...)
	written.Writer = 3
	s := sample()
	wantAdd(t, s, quota, []api.Node{s[0], s[1], quota, s[2], s[3]}, api.OK)
	wantAdd(t, s, written, []api.Node{s[0], s[1], s[2], s[3], written}, api.OK)
	wantAdd(t, s, dir("/0"), []api.Node{s[0], dir("/0"), s[1], s[2], s[3]}, api.OK)
	wantAdd(t, s, file("/a/w"), []api.Node{s[0], s[1], file("/a/w"), s[2], s[3]}, api.OK)
	wantAdd(t, s, file("/a/y"), []api.Node{s[0], s[1], s[2], file("/a/y"), s[3]}, api.OK)
	wantAdd(t, s, dir("/a0"), []api.Node{s[0], s[1], s[2], dir("/a0"), s[3]}, api.OK)
	wantAdd(t, s, file("/z"), []api.Node{s[0], s[1], s[2], s[3], file("/z")}, api.OK)
	wantAdd(t, []api.Node{dir("/")}, file("/z"), []api.Node{dir("/"), file("/z")}, api.OK)
	wantAdd(t, chain(deep(5)), file(deep(6)), append(chain(deep(5)), file(deep(6))), api.OK)
	wantAdd(t, chain(long(120)[:100]), file(long(120)), append(chain(long(120)[:100]), file(long(120))), api.OK)
}

// P7.2: a tree that is made node by node, in any order in which parents come first.
func TestAddOneByOne(t *testing.T) {
	want := []api.Node{dir("/"), dir("/a"), file("/a-b", full(2)...), dir("/a/b"), file("/a/b/x", full(1)...), dir("/a0"), dir("/b")}
	for _, order := range [][]int{{1, 2, 3, 4, 5, 6}, {6, 5, 2, 1, 3, 4}, {1, 3, 4, 2, 6, 5}, {5, 1, 6, 3, 2, 4}} {
		l := want[:1]
		for _, i := range order {
			var e api.Errno
			if l, e = Add(l, want[i]); e != api.OK {
				t.Fatalf("Add of %q: error %d", want[i].Path, e)
			}
		}
		if !same(l, want) {
			t.Errorf("order %v: %q", order, paths(l))
		}
	}
}

// P7.2: the errors of Add.
func TestAddErrors(t *testing.T) {
	l := sample()
	for what, bad := range noTrees() {
		for _, n := range []api.Node{dir("/c"), dir("/a"), dir("/q/r"), dir("/a/x/y"), {}} {
			if _, e := Add(bad, n); e != api.ErrArg {
				t.Errorf("Add of %q to %s: error %d", n.Path, what, e)
			}
		}
	}
	for _, p := range noPaths() {
		wantAdd(t, l, dir(p), nil, api.ErrArg)
		wantAdd(t, l, file(p), nil, api.ErrArg)
	}
	wantAdd(t, l, dir("/"), nil, api.ErrArg)
	wantAdd(t, l, file("/"), nil, api.ErrArg)
	wantAdd(t, l, api.Node{}, nil, api.ErrArg)
	wantAdd(t, l, file("/c", full(9)...), nil, api.ErrArg)
	for _, p := range []string{"/a", "/a/x", "/b"} {
		wantAdd(t, l, dir(p), nil, api.ErrExist)
		wantAdd(t, l, file(p), nil, api.ErrExist)
	}
	for _, p := range []string{"/c/d", "/a/y/z", "/ab/x", "/a/x/y/z", "/b/c/d/e/f/g", long(120)} {
		wantAdd(t, l, dir(p), nil, api.ErrNone)
		wantAdd(t, l, file(p), nil, api.ErrNone)
	}
	wantAdd(t, l, dir("/a/x/y"), nil, api.ErrDir)
	wantAdd(t, l, file("/a/x/y"), nil, api.ErrDir)
}

// P7.2: a node that does not fit is told ahead of all that is amiss with its path.
func TestAddErrorsInOrder(t *testing.T) {
	for _, l := range [][]api.Node{sample(), append(crowd(60)[:58], dir("/a"), file("/f"))} {
		wantRight(t, "l", l, true)
		for _, p := range []string{"/c", "/a", "/c/d", "/f/x", "/a/x/y"} {
			odd := dir(p)
			odd.Quota = -2
			if _, e := Add(l, odd); e != api.ErrArg {
				t.Errorf("Add of what does not fit at %q: error %d", p, e)
			}
		}
	}
}

// P7.2: at MaxNodes there is no more room; all other errors are told ahead of that.
func TestAddFull(t *testing.T) {
	l, e := Add(crowd(59), file("/d/z", full(3)...))
	if want := slices.Insert(crowd(59), 58, file("/d/z", full(3)...)); e != api.OK || !same(l, want) {
		t.Fatalf("the last one: %q, error %d", paths(l), e)
	}
	for _, l := range [][]api.Node{l, crowd(60)} {
		wantAdd(t, l, dir("/g"), nil, api.ErrLong)
		wantAdd(t, l, file("/g"), nil, api.ErrLong)
		wantAdd(t, l, file("/d/a"), nil, api.ErrLong)
		wantAdd(t, l, dir("/d"), nil, api.ErrExist)
		wantAdd(t, l, file("/00"), nil, api.ErrExist)
		wantAdd(t, l, dir("/q/r"), nil, api.ErrNone)
		wantAdd(t, l, dir("/f/r"), nil, api.ErrDir)
		wantAdd(t, l, dir("/"), nil, api.ErrArg)
		wantAdd(t, l, dir("g"), nil, api.ErrArg)
	}
	wantAdd(t, crowd(61), file("/g"), nil, api.ErrArg)
}

// P7.2: with a directory all that is under it goes, and nothing that is only called nearly so.
func TestRemove(t *testing.T) {
	l := []api.Node{dir("/"), dir("/a"), dir("/a-b"), file("/a-b/x", full(1)...), dir("/a/b"), file("/a/b/c", full(2)...), dir("/a/b/d"), file("/a/bc"), dir("/ab"), file("/ab/x", full(3)...), dir("/b"), dir("/b/a"), file("/b/a/x")}
	wantRight(t, "l", l, true)
	for p, left := range map[string][]int{
		"/a":     {0, 2, 3, 8, 9, 10, 11, 12},
		"/a-b":   {0, 1, 4, 5, 6, 7, 8, 9, 10, 11, 12},
		"/a-b/x": {0, 1, 2, 4, 5, 6, 7, 8, 9, 10, 11, 12},
		"/a/b":   {0, 1, 2, 3, 7, 8, 9, 10, 11, 12},
		"/a/b/c": {0, 1, 2, 3, 4, 6, 7, 8, 9, 10, 11, 12},
		"/a/b/d": {0, 1, 2, 3, 4, 5, 7, 8, 9, 10, 11, 12},
		"/ab":    {0, 1, 2, 3, 4, 5, 6, 7, 10, 11, 12},
		"/b":     {0, 1, 2, 3, 4, 5, 6, 7, 8, 9},
		"/b/a":   {0, 1, 2, 3, 4, 5, 6, 7, 8, 9, 10},
	} {
		var want []api.Node
		for _, i := range left {
			want = append(want, l[i])
		}
		wantRemove(t, l, p, want, api.OK)
	}
	wantRemove(t, chain(deep(6)), "/d", []api.Node{dir("/")}, api.OK)
	wantRemove(t, chain(long(120)), long(120), chain(long(120))[:6], api.OK)
	wantRemove(t, crowd(60), "/f", crowd(60)[:59], api.OK)
}

// P7.2: the errors of Remove.
func TestRemoveErrors(t *testing.T) {
	l := sample()
	for what, bad := range noTrees() {
		for _, p := range []string{"/", "/a", "/a/x", "/q", "x", ""} {
			if _, e := Remove(bad, p); e != api.ErrArg {
				t.Errorf("Remove of %q from %s: error %d", p, what, e)
			}
		}
	}
	for _, p := range noPaths() {
		wantRemove(t, l, p, nil, api.ErrArg)
	}
	wantRemove(t, l, "/", nil, api.ErrArg)
	wantRemove(t, []api.Node{dir("/")}, "/", nil, api.ErrArg)
	for _, p := range []string{"/c", "/ab", "/a/y", "/a/x/y", "/q/r", "/x", deep(6), long(120)} {
		wantRemove(t, l, p, nil, api.ErrNone)
	}
}

// P7.4: Remove of what was added is what was there.
func TestRemoveOfAdded(t *testing.T) {
	for _, l := range [][]api.Node{{dir("/")}, sample(), crowd(59), chain(deep(6)), chain(long(120))} {
		for _, p := range []string{"/0", "/a", "/a-b", "/a/y", "/d/d/z", "/zz", "/" + x(20) + "/a"} {
			for _, n := range []api.Node{dir(p), file(p, full(4)...)} {
				more, e := Add(l, n)
				if e == api.OK {
					wantRemove(t, more, p, l, api.OK)
				}
			}
		}
	}
}

package tree

import (
	"testing"

	"tabularium/api"
)

// forest: a tree with files and directories that are called nearly alike.
func forest() []api.Node {
	quota := dir("/a")
	quota.Quota = 9
	written := file("/a/b/c", full(8)...)
	written.Writer = 2
	return []api.Node{dir("/"), quota, dir("/a-b"), file("/a-b/x", full(1)...), dir("/a/b"), written, file("/a/f", full(2)...), dir("/ab"), file("/ab/g", full(3)...), file("/z")}
}

// at: n, but at another path.
func at(n api.Node, p string) api.Node {
	n.Path = p
	return n
}

// P7.3: what is moved stands elsewhere, with all that is under it and all that it has, and the order is a tree's again.
func TestMove(t *testing.T) {
	l := forest()
	wantRight(t, "forest", l, true)
	wantMove(t, l, "/a", "/c", []api.Node{l[0], l[2], l[3], l[7], l[8], at(l[1], "/c"), at(l[4], "/c/b"), at(l[5], "/c/b/c"), at(l[6], "/c/f"), l[9]}, api.OK)
	wantMove(t, l, "/a", "/ab/a", []api.Node{l[0], l[2], l[3], l[7], at(l[1], "/ab/a"), at(l[4], "/ab/a/b"), at(l[5], "/ab/a/b/c"), at(l[6], "/ab/a/f"), l[8], l[9]}, api.OK)
	wantMove(t, l, "/a", "/a-", []api.Node{l[0], at(l[1], "/a-"), at(l[4], "/a-/b"), at(l[5], "/a-/b/c"), at(l[6], "/a-/f"), l[2], l[3], l[7], l[8], l[9]}, api.OK)
	wantMove(t, l, "/a/b", "/b", []api.Node{l[0], l[1], l[2], l[3], l[6], l[7], l[8], at(l[4], "/b"), at(l[5], "/b/c"), l[9]}, api.OK)
	wantMove(t, l, "/ab", "/a/b/d", []api.Node{l[0], l[1], l[2], l[3], l[4], l[5], at(l[7], "/a/b/d"), at(l[8], "/a/b/d/g"), l[6], l[9]}, api.OK)
	wantMove(t, l, "/a/b/c", "/a.c", []api.Node{l[0], l[1], l[2], l[3], at(l[5], "/a.c"), l[4], l[6], l[7], l[8], l[9]}, api.OK)
	wantMove(t, l, "/z", "/0", []api.Node{l[0], at(l[9], "/0"), l[1], l[2], l[3], l[4], l[5], l[6], l[7], l[8]}, api.OK)
	wantMove(t, l, "/a/b", "/a/bb", []api.Node{l[0], l[1], l[2], l[3], at(l[4], "/a/bb"), at(l[5], "/a/bb/c"), l[6], l[7], l[8], l[9]}, api.OK)
}

// P7.3: what comes with a directory may come to stand behind a node that stands behind the directory itself.
func TestMoveAmongOthers(t *testing.T) {
	l := []api.Node{dir("/"), dir("/a"), file("/a-b"), dir("/a/x"), file("/a/x-y"), file("/a/x/z"), dir("/b"), file("/p-q")}
	wantRight(t, "l", l, true)
	wantMove(t, l, "/a/x", "/p", []api.Node{l[0], l[1], l[2], l[4], l[6], at(l[3], "/p"), l[7], at(l[5], "/p/z")}, api.OK)
	wantMove(t, l, "/a", "/p", []api.Node{l[0], l[2], l[6], at(l[1], "/p"), l[7], at(l[3], "/p/x"), at(l[4], "/p/x-y"), at(l[5], "/p/x/z")}, api.OK)
	wantMove(t, l, "/b", "/a.", []api.Node{l[0], l[1], l[2], at(l[6], "/a."), l[3], l[4], l[5], l[7]}, api.OK)
	wantMove(t, l, "/a/x/z", "/a/-", []api.Node{l[0], l[1], l[2], at(l[5], "/a/-"), l[3], l[4], l[6], l[7]}, api.OK)
}

// P7.3: a file may come to a place where a file is, which is gone then; nothing else may.
func TestMoveOnto(t *testing.T) {
	l := forest()
	wantMove(t, l, "/a/b/c", "/z", []api.Node{l[0], l[1], l[2], l[3], l[4], l[6], l[7], l[8], at(l[5], "/z")}, api.OK)
	wantMove(t, l, "/z", "/a/b/c", []api.Node{l[0], l[1], l[2], l[3], l[4], at(l[9], "/a/b/c"), l[6], l[7], l[8]}, api.OK)
	wantMove(t, l, "/ab/g", "/a-b/x", []api.Node{l[0], l[1], l[2], at(l[8], "/a-b/x"), l[4], l[5], l[6], l[7], l[9]}, api.OK)
	for _, c := range [][2]string{
		{"/a", "/z"}, // a directory onto a file
		{"/a/b", "/a/f"},
		{"/ab", "/a-b/x"},
		{"/a-b", "/ab/g"},
		{"/z", "/a"}, // a file onto a directory
		{"/a/f", "/a/b"},
		{"/a/b/c", "/a/b"},
		{"/a/b/c", "/a"},
		{"/ab/g", "/a-b"},
		{"/ab", "/a"}, // a directory onto a directory
		{"/a-b", "/a/b"},
		{"/a/b", "/a"},
		{"/a", "/ab"},
	} {
		wantMove(t, l, c[0], c[1], nil, api.ErrExist)
	}
}

// P7.3: ErrArg, whatever else is amiss.
func TestMoveArg(t *testing.T) {
	l := forest()
	for what, bad := range noTrees() {
		for _, c := range [][2]string{{"/a", "/c"}, {"/a/x", "/c"}, {"/q", "/c"}, {"/a", "/q/r"}, {"/a", "/a"}, {"/", "/a"}, {"", ""}} {
			if _, e := Move(bad, c[0], c[1]); e != api.ErrArg {
				t.Errorf("Move of %q to %q in %s: error %d", c[0], c[1], what, e)
			}
		}
	}
	for _, p := range noPaths() {
		for _, other := range []string{"/a", "/z", "/q", "/q/r", "/z/q", "/", "", p} {
			wantMove(t, l, p, other, nil, api.ErrArg)
			wantMove(t, l, other, p, nil, api.ErrArg)
		}
	}
	for _, p := range []string{"/", "/a", "/z", "/q", "/q/r", "/z/q"} {
		wantMove(t, l, p, "/", nil, api.ErrArg)
		wantMove(t, l, "/", p, nil, api.ErrArg)
		wantMove(t, l, p, p, nil, api.ErrArg)
		wantMove(t, l, p, p+"/c", nil, api.ErrArg)
		wantMove(t, l, p, p+"/c/d", nil, api.ErrArg)
	}
	wantMove(t, l, "/a", "/a/b", nil, api.ErrArg)
	wantMove(t, l, "/a", "/a/b/c", nil, api.ErrArg)
	wantMove(t, l, "/a", "/a/b/c/d", nil, api.ErrArg)
	wantMove(t, l, "/a", "/a"+deep(5), nil, api.ErrArg)
	wantMove(t, l, "/z", "/z/x", nil, api.ErrArg)
	wantMove(t, chain(deep(6)), deep(5), deep(6), nil, api.ErrArg)
}

// P7.3: ErrNone of from and of to's Parent, then ErrDir of that.
func TestMoveNoneAndDir(t *testing.T) {
	l := forest()
	for _, from := range []string{"/c", "/a/c", "/a/b/x", "/z/x", "/a/f/g", "/q/r", "/g", "/b"} {
		for _, to := range []string{"/d", "/a", "/z", "/z/y", "/a/b/c/y", "/q/s", "/a/q/s", "/a/b/c"} {
			wantMove(t, l, from, to, nil, api.ErrNone)
		}
	}
	for _, from := range []string{"/a", "/a/b", "/z", "/a/b/c"} {
		for _, to := range []string{"/q/r", "/b/c", "/ab/q/r", "/a-b/y/z", "/abc/x", "/0" + deep(5)} {
			wantMove(t, l, from, to, nil, api.ErrNone)
		}
	}
	for _, from := range []string{"/a", "/a/b", "/a/b/c"} {
		for _, to := range []string{"/z/a", "/ab/g/a", "/a-b/x/x"} {
			wantMove(t, l, from, to, nil, api.ErrDir)
		}
		wantMove(t, l, from, "/z/a/b", nil, api.ErrNone) // the Parent itself is not there, though what it would stand in is a file
	}
	wantMove(t, l, "/z", "/a/f/z", nil, api.ErrDir)
	wantMove(t, l, "/a/f", "/a/b/c/f", nil, api.ErrDir)
}

// P7.3: a path that would be too deep or too long is told last; one just at the edge is none of that.
func TestMoveLong(t *testing.T) {
	l := []api.Node{dir("/"), dir("/a"), dir("/a/b"), file("/a/b/c", full(1)...), dir("/d"), dir("/d/d"), dir("/d/d/d"), dir("/d/d/d/d"), file("/d/d/d/d/f"), dir("/d/d/d/d/g"), file("/z")}
	wantRight(t, "l", l, true)
	wantMove(t, l, "/a", "/d/d/d/e", []api.Node{l[0], l[4], l[5], l[6], l[7], l[8], l[9], at(l[1], "/d/d/d/e"), at(l[2], "/d/d/d/e/b"), at(l[3], "/d/d/d/e/b/c"), l[10]}, api.OK)
	wantMove(t, l, "/a", "/d/d/d/d/e", nil, api.ErrLong)
	wantMove(t, l, "/a", "/d/d/d/d/g/e", nil, api.ErrLong)
	wantMove(t, l, "/a/b", "/d/d/d/d/e", []api.Node{l[0], l[1], l[4], l[5], l[6], l[7], at(l[2], "/d/d/d/d/e"), at(l[3], "/d/d/d/d/e/c"), l[8], l[9], l[10]}, api.OK)
	wantMove(t, l, "/a/b", "/d/d/d/d/g/e", nil, api.ErrLong)
	wantMove(t, l, "/a/b/c", "/d/d/d/d/g/e", []api.Node{l[0], l[1], l[2], l[4], l[5], l[6], l[7], l[8], l[9], at(l[3], "/d/d/d/d/g/e"), l[10]}, api.OK)
	wantMove(t, l, "/d", "/a/d", []api.Node{l[0], l[1], l[2], l[3], at(l[4], "/a/d"), at(l[5], "/a/d/d"), at(l[6], "/a/d/d/d"), at(l[7], "/a/d/d/d/d"), at(l[8], "/a/d/d/d/d/f"), at(l[9], "/a/d/d/d/d/g"), l[10]}, api.OK)
	wantMove(t, l, "/d", "/a/b/d", nil, api.ErrLong)
	wantMove(t, l, "/a", "/d/d/d/d/f", nil, api.ErrExist)
	wantMove(t, l, "/a", "/d/d/d/d/g", nil, api.ErrExist)
	wantMove(t, l, "/a", "/d/d/d/d/f/e", nil, api.ErrDir)
	wantMove(t, l, "/a", "/d/d/d/d/h/e", nil, api.ErrNone)
	wantMove(t, l, "/q", "/d/d/d/d/g/e", nil, api.ErrNone)
	wantMove(t, l, "/a", "/d/d/d/d/g/e/e", nil, api.ErrArg)
}

// P7.3: the same, by bytes.
func TestMoveLongBytes(t *testing.T) {
	behind := "/" + x(20) + "/" + x(20) + "/" + x(20) + "/" + x(20) + "/" + x(20) // 105 bytes
	l := chain("/c" + behind)
	l[6] = file("/c"+behind, full(2)...)
	wantRight(t, "l", l, true)
	for n := 1; n <= 20; n++ {
		to := "/" + x(n)
		if n > 14 {
			wantMove(t, l, "/c", to, nil, api.ErrLong)
			continue
		}
		want := []api.Node{l[0]}
		for _, moved := range l[1:] {
			want = append(want, at(moved, to+moved.Path[2:]))
		}
		wantMove(t, l, "/c", to, want, api.OK)
	}
}

// P7.3: a full tree can be moved in.
func TestMoveFull(t *testing.T) {
	l := crowd(60)
	wantMove(t, l, "/f", "/d/f", append(crowd(60)[:59], file("/d/f")), api.OK)
	wantMove(t, l, "/d", "/e", append(crowd(60)[:58], dir("/e"), file("/f")), api.OK)
	wantMove(t, l, "/d", "/f", nil, api.ErrExist)
	wantMove(t, l, "/00", "/f", append([]api.Node{l[0]}, l[2:]...), api.OK)
}

// P7.4: there and back again, if nothing was there.
func TestMoveThereAndBack(t *testing.T) {
	moved := 0
	for _, l := range [][]api.Node{sample(), forest(), crowd(60), chain(deep(5)), chain(long(120))} {
		for _, from := range paths(l) {
			for _, in := range paths(l) {
				for _, name := range []string{"0", "a-", "a.", "b", "zz", x(20)} {
					to := in + "/" + name
					if in == "/" {
						to = in + name
					}
					there, e := Move(l, from, to)
					if e != api.OK || Find(l, to) >= 0 {
						continue
					}
					moved++
					if same(there, l) {
						t.Errorf("Move of %q to %q moved nothing", from, to)
					}
					wantMove(t, there, to, from, l, api.OK)
				}
			}
		}
	}
	if moved < 500 {
		t.Errorf("only %d moves were tried", moved)
	}
}

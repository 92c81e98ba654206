package disk

import (
	"math"
	"slices"
	"testing"

	"tabularium/api"
)

// open: a disk with the file a: xyz, which is synced, and uvw, which is not.
func open(t *testing.T) *Disk {
	t.Helper()
	d := New(100)
	put(t, d, "a", "xyz")
	want(t, "Append", d.Append("a", "uvw"), api.OK)
	return d
}

// P4.3: the chapter's examples.
func TestCrashExamples(t *testing.T) {
	d := open(t)
	d.Crash([]int{2})
	wantRead(t, d, "a", "xyzuv")
	d = New(100)
	want(t, "Append", d.Append("a", "xyz"), api.OK)
	d.Crash(nil)
	wantList(t, d)
	wantUsed(t, d, 0)
}

// P4.3: how many stay: modulo how many there are and one more; a number below 0, c, counts as -(c + 1).
func TestCrashKeeps(t *testing.T) {
	for _, x := range []struct{ keep, stay int }{
		{0, 0}, {1, 1}, {2, 2}, {3, 3}, {4, 0}, {5, 1}, {7, 3}, {8, 0}, {4001, 1},
		{-1, 0}, {-2, 1}, {-3, 2}, {-4, 3}, {-5, 0}, {-6, 1}, {-8, 3}, {-9, 0},
		{math.MaxInt, 3}, {math.MaxInt - 1, 2}, {math.MinInt, 3}, {math.MinInt + 1, 2},
	} {
		d := open(t)
		d.Crash([]int{x.keep})
		wantRead(t, d, "a", "xyzuvw"[:3+x.stay])
		wantUsed(t, d, 3+x.stay)
		wantDown(t, d, false)
	}
}

// P4.3: the same of a file none of whose bytes are synced: without any it is gone.
func TestCrashWithoutSynced(t *testing.T) {
	for _, x := range []struct {
		keep int
		data string
	}{{0, ""}, {1, "u"}, {2, "uv"}, {3, ""}, {4, "u"}, {-1, ""}, {-2, "u"}, {-3, "uv"}, {-4, ""}} {
		d := New(100)
		want(t, "Append", d.Append("a", "uv"), api.OK)
		d.Crash([]int{x.keep})
		if x.data == "" {
			wantList(t, d)
			wantNoRead(t, d, "a", api.ErrNone)
			continue
		}
		wantList(t, d, "a")
		wantRead(t, d, "a", x.data)
	}
}

// P4.3: a file without bytes is gone, also if it was synced: none of its bytes were.
func TestCrashOfEmpty(t *testing.T) {
	d := New(100)
	want(t, "Append", d.Append("a", ""), api.OK)
	put(t, d, "b", "")
	put(t, d, "c", "x")
	d.Crash([]int{1, 1, 1})
	wantList(t, d, "c")
}

// P4.3: what stays is synced: another crash leaves it.
func TestCrashSyncs(t *testing.T) {
	d := open(t)
	want(t, "Append", d.Append("b", "123"), api.OK)
	d.Crash([]int{1, 2})
	wantRead(t, d, "a", "xyzu")
	wantRead(t, d, "b", "12")
	d.Crash(nil)
	wantRead(t, d, "a", "xyzu")
	wantRead(t, d, "b", "12")
	want(t, "Append", d.Append("a", "1"), api.OK)
	d.Crash([]int{3, 1})
	wantRead(t, d, "a", "xyzu1")
}

// P4.3: keeps go by the names, rising, not by the order of making; a file all of whose bytes are synced has its place, too.
func TestCrashByNames(t *testing.T) {
	d := New(100)
	want(t, "d", d.Append("d", "1234"), api.OK)
	want(t, "b", d.Append("b", "1234"), api.OK)
	put(t, d, "c", "1234")
	want(t, "aa", d.Append("aa", "1234"), api.OK)
	want(t, "a", d.Append("a", "1234"), api.OK)
	d.Crash([]int{4, 1, 2, 9, 3})
	wantRead(t, d, "a", "1234")
	wantRead(t, d, "aa", "1")
	wantRead(t, d, "b", "12")
	wantRead(t, d, "c", "1234")
	wantRead(t, d, "d", "123")
}

// P4.3: a file that goes does not move the others' places.
func TestCrashPlaces(t *testing.T) {
	d := New(100)
	for _, name := range []string{"a", "b", "c", "d"} {
		want(t, "Append", d.Append(name, "1234"), api.OK)
	}
	d.Crash([]int{0, 2, 0, 3})
	wantList(t, d, "b", "d")
	wantRead(t, d, "b", "12")
	wantRead(t, d, "d", "123")
}

// P4.3: where keeps ends nothing more stays; what it has behind the last file counts for none.
func TestCrashShortAndLong(t *testing.T) {
	for _, x := range []struct {
		keeps []int
		used  int
	}{
		{nil, 2}, {[]int{}, 2}, {[]int{2}, 4}, {[]int{2, 1}, 5}, {[]int{2, 1, 3}, 5}, {[]int{2, 1, 3, -1, math.MinInt}, 5},
	} {
		d := New(100)
		for _, name := range []string{"b", "a"} {
			put(t, d, name, "x")
			want(t, "Append", d.Append(name, "123"), api.OK)
		}
		d.Crash(x.keeps)
		wantUsed(t, d, x.used)
		wantList(t, d, "a", "b")
	}
}

// P4.3: a crash of nothing is one.
func TestCrashOfNothing(t *testing.T) {
	d := New(100)
	d.Crash([]int{1, 2})
	wantList(t, d)
	wantDown(t, d, false)
}

// P4.3: a crash does the same with power and without it; behind it the power is there, and the fuse is out.
func TestCrashAndPower(t *testing.T) {
	for _, fuse := range []int{0, 1, 2} {
		d := open(t)
		d.Fuse(fuse)
		if fuse == 1 {
			want(t, "Sync", d.Sync("a"), api.ErrLost)
		}
		wantDown(t, d, fuse == 1)
		d.Crash([]int{1})
		wantDown(t, d, false)
		wantRead(t, d, "a", "xyzu")
		for range 4 {
			want(t, "Sync", d.Sync("a"), api.OK)
		}
		want(t, "Append", d.Append("a", "1"), api.OK)
		want(t, "Rename", d.Rename("a", "b"), api.OK)
		want(t, "Delete", d.Delete("b"), api.OK)
	}
}

// P4.1, P4.3: names and deletions last at once.
func TestCrashAndNames(t *testing.T) {
	d := New(100)
	for _, name := range []string{"a", "b", "c"} {
		put(t, d, name, name)
	}
	want(t, "Rename", d.Rename("a", "d"), api.OK)
	want(t, "Rename", d.Rename("b", "c"), api.OK)
	d.Crash(nil)
	wantList(t, d, "c", "d")
	wantRead(t, d, "c", "b")
	wantRead(t, d, "d", "a")
	want(t, "Delete", d.Delete("c"), api.OK)
	d.Crash(nil)
	wantList(t, d, "d")
}

// P4.3: what is written behind a crash stands where the lost bytes stood.
func TestCrashAndAppend(t *testing.T) {
	d := open(t)
	want(t, "Append", d.Append("b", "12345678"), api.OK)
	d.Crash([]int{1, 4})
	want(t, "Append", d.Append("a", "!!"), api.OK)
	want(t, "Append", d.Append("b", "??"), api.OK)
	wantRead(t, d, "a", "xyzu!!")
	wantRead(t, d, "b", "1234??")
	d.Crash([]int{1, 1})
	wantRead(t, d, "a", "xyzu!")
	wantRead(t, d, "b", "1234?")
}

// P3: keeps is not written into, nor what stands behind it, nor kept.
func TestCrashLeavesKeeps(t *testing.T) {
	all := []int{7, -3, 9, 11, -1}
	keeps := all[:2]
	d := New(100)
	for _, name := range []string{"a", "b", "c"} {
		want(t, "Append", d.Append(name, "1234"), api.OK)
	}
	d.Crash(keeps)
	if !slices.Equal(all, []int{7, -3, 9, 11, -1}) {
		t.Errorf("keeps changed: %v", all)
	}
	all[0], all[1] = 0, 0
	wantList(t, d, "a", "b")
	wantRead(t, d, "a", "12")
	wantRead(t, d, "b", "12")
}

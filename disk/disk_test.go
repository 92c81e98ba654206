package disk

import (
	"math"
	"slices"
	"strconv"
	"strings"
	"testing"

	"tabularium/api"
)

var (
	longest = strings.Repeat("n", 30)
	tooLong = strings.Repeat("n", 31)
)

func want(t *testing.T, what string, got, e api.Errno) {
	t.Helper()
	if got != e {
		t.Errorf("%s: error %d, not %d", what, got, e)
	}
}

func wantRead(t *testing.T, d *Disk, name, data string) {
	t.Helper()
	s, e := d.Read(name)
	if e != api.OK || s != data {
		t.Errorf("Read(%q): %d bytes %.40q, error %d, not %d bytes %.40q", name, len(s), s, e, len(data), data)
	}
}

func wantNoRead(t *testing.T, d *Disk, name string, e api.Errno) {
	t.Helper()
	s, got := d.Read(name)
	if s != "" || got != e {
		t.Errorf("Read(%q): %.40q, error %d, not nothing, error %d", name, s, got, e)
	}
}

func wantList(t *testing.T, d *Disk, names ...string) {
	t.Helper()
	if l := d.List(); !slices.Equal(l, names) {
		t.Errorf("List() = %q, not %q", l, names)
	}
}

func wantUsed(t *testing.T, d *Disk, n int) {
	t.Helper()
	if d.Used() != n {
		t.Errorf("Used() = %d, not %d", d.Used(), n)
	}
}

func wantDown(t *testing.T, d *Disk, down bool) {
	t.Helper()
	if d.Down() != down {
		t.Errorf("Down() = %v", d.Down())
	}
}

// put appends, and syncs.
func put(t *testing.T, d *Disk, name, data string) {
	t.Helper()
	want(t, "Append of "+name, d.Append(name, data), api.OK)
	want(t, "Sync of "+name, d.Sync(name), api.OK)
}

// full: a disk with MaxFiles files, f00 and so on, of one byte each that is synced.
func full(t *testing.T, room int) *Disk {
	t.Helper()
	d := New(room)
	for i := range api.MaxFiles {
		put(t, d, "f"+strconv.Itoa(i/10)+strconv.Itoa(i%10), "x")
	}
	return d
}

// P4.1: a new disk has nothing.
func TestNew(t *testing.T) {
	for _, room := range []int{math.MinInt, -1, 0, 1, math.MaxInt} {
		d := New(room)
		wantList(t, d)
		wantUsed(t, d, 0)
		wantDown(t, d, false)
		wantNoRead(t, d, "a", api.ErrNone)
	}
}

// P4.1: a room below 0 is 0: a file can be made, and no byte put into it.
func TestNoRoom(t *testing.T) {
	for _, room := range []int{math.MinInt, -1, 0} {
		d := New(room)
		want(t, "a byte", d.Append("a", "x"), api.ErrFull)
		wantList(t, d)
		want(t, "no byte", d.Append("a", ""), api.OK)
		wantList(t, d, "a")
		wantRead(t, d, "a", "")
		want(t, "a byte behind it", d.Append("a", "x"), api.ErrFull)
		wantRead(t, d, "a", "")
		wantUsed(t, d, 0)
	}
}

// P4.1: data stands at the end of its file, and of no other.
func TestAppend(t *testing.T) {
	d := New(100)
	want(t, "b", d.Append("b", "xyz"), api.OK)
	want(t, "a", d.Append("a", "12"), api.OK)
	want(t, "b again", d.Append("b", "\x00\xff"), api.OK)
	want(t, "nothing", d.Append("b", ""), api.OK)
	wantRead(t, d, "b", "xyz\x00\xff")
	wantRead(t, d, "a", "12")
	wantList(t, d, "a", "b")
	wantUsed(t, d, 7)
}

// P4.1: a name has 1 to 30 bytes, whatever they are.
func TestNames(t *testing.T) {
	d := New(100)
	for _, name := range []string{"", tooLong, strings.Repeat("é", 16)} {
		want(t, "Append of "+name, d.Append(name, "x"), api.ErrArg)
		want(t, "Append of nothing to "+name, d.Append(name, ""), api.ErrArg)
		wantNoRead(t, d, name, api.ErrNone)
	}
	wantList(t, d)
	names := []string{"\x00", " ", "/", "a", longest, strings.Repeat("é", 15), "\xff"}
	for i, name := range names {
		want(t, "Append of "+name, d.Append(name, strconv.Itoa(i)), api.OK)
	}
	wantList(t, d, names...)
	for i, name := range names {
		wantRead(t, d, name, strconv.Itoa(i))
	}
}

// P4.1: a file has MaxFile bytes at most.
func TestLongFile(t *testing.T) {
	whole := strings.Repeat("0123456789", api.MaxFile/10)
	d := New(3 * api.MaxFile)
	want(t, "one more at once", d.Append("a", whole+"x"), api.ErrLong)
	wantList(t, d)
	want(t, "all at once", d.Append("a", whole), api.OK)
	want(t, "one more behind it", d.Append("a", "x"), api.ErrLong)
	want(t, "nothing behind it", d.Append("a", ""), api.OK)
	wantRead(t, d, "a", whole)
	want(t, "all but one", d.Append("b", whole[1:]), api.OK)
	want(t, "two more", d.Append("b", "xy"), api.ErrLong)
	want(t, "the last one", d.Append("b", "x"), api.OK)
	wantRead(t, d, "b", whole[1:]+"x")
	wantUsed(t, d, 2*api.MaxFile)
	want(t, "a third one", d.Append("c", whole), api.OK)
	want(t, "Sync", d.Sync("c"), api.OK)
	want(t, "one more behind what is synced", d.Append("c", "x"), api.ErrLong)
}

// P4.1: there are MaxFiles files at most; those that are there may grow, and change their names.
func TestManyFiles(t *testing.T) {
	d := full(t, 100)
	want(t, "one more", d.Append("more", "x"), api.ErrLong)
	want(t, "one more without bytes", d.Append("more", ""), api.ErrLong)
	if n := len(d.List()); n != api.MaxFiles {
		t.Errorf("%d files", n)
	}
	want(t, "one that is there", d.Append("f19", "y"), api.OK)
	wantRead(t, d, "f19", "xy")
	want(t, "Rename", d.Rename("f00", "g"), api.OK)
	want(t, "the old name", d.Append("f00", "x"), api.ErrLong)
	want(t, "Rename to one that is there", d.Rename("g", "f01"), api.OK)
	want(t, "one in its place", d.Append("f00", "x"), api.OK)
	want(t, "one more behind that", d.Append("more", "x"), api.ErrLong)
	want(t, "Delete", d.Delete("f07"), api.OK)
	want(t, "another one", d.Append("more", "x"), api.OK)
	want(t, "yet another one", d.Append("most", "x"), api.ErrLong)
}

// P4.1: files without bytes count, until a crash takes them.
func TestManyEmptyFiles(t *testing.T) {
	d := New(0)
	for i := range api.MaxFiles {
		want(t, "an empty file", d.Append(strconv.Itoa(i), ""), api.OK)
	}
	want(t, "one more", d.Append("more", ""), api.ErrLong)
	d.Crash(nil)
	want(t, "one behind the crash", d.Append("more", ""), api.OK)
	wantList(t, d, "more")
}

// P4.1: all files together have room bytes at most.
func TestRoom(t *testing.T) {
	d := New(6)
	want(t, "too many at once", d.Append("a", "1234567"), api.ErrFull)
	wantList(t, d)
	want(t, "some", d.Append("a", "123"), api.OK)
	want(t, "some more", d.Append("b", "45"), api.OK)
	want(t, "too many", d.Append("b", "67"), api.ErrFull)
	want(t, "too many for another one", d.Append("c", "67"), api.ErrFull)
	wantList(t, d, "a", "b")
	want(t, "the last one", d.Append("c", "6"), api.OK)
	want(t, "one more", d.Append("a", "7"), api.ErrFull)
	want(t, "nothing more", d.Append("a", ""), api.OK)
	want(t, "an empty file", d.Append("d", ""), api.OK)
	wantRead(t, d, "a", "123")
	wantRead(t, d, "b", "45")
	wantUsed(t, d, 6)
}

// P4.1: what is deleted, replaced or lost leaves its room.
func TestRoomAgain(t *testing.T) {
	d := New(6)
	want(t, "a", d.Append("a", "123"), api.OK)
	want(t, "b", d.Append("b", "456"), api.OK)
	want(t, "Rename while there is no room", d.Rename("a", "b"), api.OK)
	wantUsed(t, d, 3)
	put(t, d, "c", "789")
	want(t, "no room", d.Append("c", "0"), api.ErrFull)
	want(t, "Delete", d.Delete("b"), api.OK)
	wantUsed(t, d, 3)
	want(t, "room again", d.Append("c", "012"), api.OK)
	want(t, "no room again", d.Append("c", "3"), api.ErrFull)
	d.Crash([]int{1})
	wantUsed(t, d, 4)
	want(t, "more than a crash left", d.Append("d", "345"), api.ErrFull)
	want(t, "what a crash left", d.Append("d", "34"), api.OK)
	wantUsed(t, d, 6)
}

// P4.1, P6: the greatest room is one, too.
func TestEndlessRoom(t *testing.T) {
	d := New(math.MaxInt)
	put(t, d, "a", "xyz")
	want(t, "more", d.Append("a", "uvw"), api.OK)
	wantRead(t, d, "a", "xyzuvw")
}

// P4.1, P2: of several errors of Append the one that is named first is told.
func TestAppendErrors(t *testing.T) {
	long := strings.Repeat("x", api.MaxFile+1)
	d := full(t, api.MaxFiles)
	want(t, "no name, too long, too many, no room", d.Append("", long), api.ErrArg)
	want(t, "no name, too many, no room", d.Append(tooLong, "x"), api.ErrArg)
	want(t, "too long, no room", d.Append("f00", long), api.ErrLong)
	want(t, "too many, no room", d.Append("more", "x"), api.ErrLong)
	want(t, "no room", d.Append("f00", "x"), api.ErrFull)
	wantUsed(t, d, api.MaxFiles)
}

// P4.1: Sync is of files that are there.
func TestSync(t *testing.T) {
	d := New(100)
	for _, name := range []string{"", "a", tooLong} {
		want(t, "Sync of "+name, d.Sync(name), api.ErrNone)
	}
	wantList(t, d)
	put(t, d, "a", "xyz")
	want(t, "again", d.Sync("a"), api.OK)
	want(t, "b", d.Append("b", "123"), api.OK)
	want(t, "more", d.Append("a", "uvw"), api.OK)
	wantRead(t, d, "a", "xyzuvw")
	d.Crash(nil)
	wantList(t, d, "a")
	wantRead(t, d, "a", "xyz")
}

// P4.1: what was from is to, with what of it is synced.
func TestRename(t *testing.T) {
	d := New(100)
	put(t, d, "a", "xyz")
	want(t, "more", d.Append("a", "uvw"), api.OK)
	want(t, "Rename", d.Rename("a", "c"), api.OK)
	wantList(t, d, "c")
	wantNoRead(t, d, "a", api.ErrNone)
	wantRead(t, d, "c", "xyzuvw")
	want(t, "Rename again", d.Rename("a", "c"), api.ErrNone)
	want(t, "more", d.Append("c", "1"), api.OK)
	want(t, "another a", d.Append("a", "2"), api.OK)
	wantRead(t, d, "c", "xyzuvw1")
	wantRead(t, d, "a", "2")
	d.Crash(nil)
	wantList(t, d, "c")
	wantRead(t, d, "c", "xyz")
}

// P4.1: what was to is gone, its synced bytes too.
func TestRenameOver(t *testing.T) {
	d := New(100)
	put(t, d, "old", "12345678")
	put(t, d, "new", "ab")
	want(t, "more", d.Append("new", "cd"), api.OK)
	want(t, "Rename", d.Rename("new", "old"), api.OK)
	wantList(t, d, "old")
	wantRead(t, d, "old", "abcd")
	wantUsed(t, d, 4)
	d.Crash(nil)
	wantRead(t, d, "old", "ab")
	want(t, "nothing synced", d.Append("new", "x"), api.OK)
	want(t, "Rename", d.Rename("new", "old"), api.OK)
	wantRead(t, d, "old", "x")
	d.Crash(nil)
	wantList(t, d)
}

// P4.1: from and to the same: nothing happens.
func TestRenameToItself(t *testing.T) {
	d := New(100)
	put(t, d, "a", "xyz")
	want(t, "more", d.Append("a", "uvw"), api.OK)
	want(t, "Rename", d.Rename("a", "a"), api.OK)
	wantList(t, d, "a")
	wantRead(t, d, "a", "xyzuvw")
	wantUsed(t, d, 6)
	d.Crash(nil)
	wantRead(t, d, "a", "xyz")
	want(t, "none to itself", d.Rename("b", "b"), api.ErrNone)
	wantList(t, d, "a")
}

// P4.1, P2: no name to rename to is told ahead of no file to rename; a from that is no name is none.
func TestRenameErrors(t *testing.T) {
	d := New(100)
	put(t, d, "a", "xyz")
	for _, to := range []string{"", tooLong} {
		want(t, "a to no name", d.Rename("a", to), api.ErrArg)
		want(t, "none to no name", d.Rename("b", to), api.ErrArg)
		want(t, "no name to itself", d.Rename(to, to), api.ErrArg)
	}
	for _, from := range []string{"", "b", tooLong} {
		want(t, "none to a", d.Rename(from, "a"), api.ErrNone)
		want(t, "none to c", d.Rename(from, "c"), api.ErrNone)
	}
	wantList(t, d, "a")
	wantRead(t, d, "a", "xyz")
	want(t, "to 1 byte", d.Rename("a", "b"), api.OK)
	want(t, "to 30 bytes", d.Rename("b", longest), api.OK)
	wantList(t, d, longest)
	wantRead(t, d, longest, "xyz")
}

// P4.1: what is deleted is gone at once, and for ever.
func TestDelete(t *testing.T) {
	d := New(100)
	for _, name := range []string{"", "a", tooLong} {
		want(t, "Delete of "+name, d.Delete(name), api.ErrNone)
	}
	put(t, d, "a", "xyz")
	put(t, d, "b", "123")
	want(t, "Delete", d.Delete("a"), api.OK)
	want(t, "Delete again", d.Delete("a"), api.ErrNone)
	wantNoRead(t, d, "a", api.ErrNone)
	wantList(t, d, "b")
	wantUsed(t, d, 3)
	d.Crash([]int{5, 5})
	wantList(t, d, "b")
	want(t, "a new one", d.Append("a", "uv"), api.OK)
	wantRead(t, d, "a", "uv")
	d.Crash(nil)
	wantList(t, d, "b")
}

// P4.1: List is rising, byte by byte, what ends earlier first, whatever the order of making.
func TestList(t *testing.T) {
	names := []string{"\x00", "A", "Z", "a", "a\x00", "aa", "ab", "b", "é", "\xff", "\xff\x00"}
	d := New(100)
	for _, i := range []int{7, 2, 10, 0, 5, 3, 9, 1, 8, 6, 4} {
		want(t, "Append", d.Append(names[i], "x"), api.OK)
	}
	for range 20 {
		wantList(t, d, names...)
	}
}

// P3: a list that was answered is the caller's, its spare room too, and later calls leave it alone.
func TestListIsNew(t *testing.T) {
	d := New(100)
	for _, name := range []string{"a", "b", "c"} {
		want(t, "Append", d.Append(name, "x"), api.OK)
	}
	l, m := d.List(), d.List()
	for i := range l[:cap(l)] {
		l[:cap(l)][i] = "mine"
	}
	if !slices.Equal(m, []string{"a", "b", "c"}) {
		t.Errorf("two answers share: %q", m)
	}
	wantList(t, d, "a", "b", "c")
	want(t, "Delete", d.Delete("b"), api.OK)
	want(t, "Append", d.Append("d", "x"), api.OK)
	d.Crash([]int{1, 1, 1})
	if !slices.Equal(m, []string{"a", "b", "c"}) {
		t.Errorf("a later call changed an answer: %q", m)
	}
	wantList(t, d, "a", "c", "d")
}

// P3: bytes that were read stay as they were, also where others are written in their place later.
func TestReadIsNew(t *testing.T) {
	d := New(100)
	put(t, d, "a", "xyz")
	want(t, "Append", d.Append("a", "uvw"), api.OK)
	whole, _ := d.Read("a")
	d.Crash(nil)
	short, _ := d.Read("a")
	want(t, "Append", d.Append("a", "123"), api.OK)
	again, _ := d.Read("a")
	want(t, "Delete", d.Delete("a"), api.OK)
	if whole != "xyzuvw" || short != "xyz" || again != "xyz123" {
		t.Errorf("%q, %q, %q", whole, short, again)
	}
}

// P3, P4: two disks have nothing of each other.
func TestTwoDisks(t *testing.T) {
	c, d := New(3), New(3)
	want(t, "c", c.Append("a", "xyz"), api.OK)
	wantList(t, d)
	want(t, "d", d.Append("a", "uv"), api.OK)
	c.Fuse(1)
	want(t, "Sync of c's", c.Sync("a"), api.ErrLost)
	wantDown(t, d, false)
	want(t, "Sync of d's", d.Sync("a"), api.OK)
	c.Crash(nil)
	wantList(t, c)
	wantRead(t, d, "a", "uv")
}

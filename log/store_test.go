package log

import (
	"fmt"
	"slices"
	"strings"
	"testing"

	"tabularium/api"
	"tabularium/disk"
)

const plenty = 1 << 24 // room that no test fills

// put: the file has these bytes, and all of them are synced.
func put(t *testing.T, d *disk.Disk, name, b string) {
	t.Helper()
	want(t, "Append", d.Append(name, b), api.OK)
	want(t, "Sync", d.Sync(name), api.OK)
}

// holding: a disk of that room with one file, synced.
func holding(t *testing.T, room int, name, b string) *disk.Disk {
	t.Helper()
	d := disk.New(room)
	put(t, d, name, b)
	return d
}

// files: each file of d as text, rising.
func files(d *disk.Disk) []string {
	var out []string
	for _, name := range d.List() {
		b, e := d.Read(name)
		out = append(out, fmt.Sprintf("%q: %q %d", name, b, e))
	}
	return out
}

// filed: what files tells of a disk with these names and bytes, by turns.
func filed(l ...string) []string {
	var out []string
	for i := 0; i < len(l); i += 2 {
		out = append(out, fmt.Sprintf("%q: %q %d", l[i], l[i+1], api.OK))
	}
	return out
}

// brief: x as text, no longer than one cares to read.
func brief(x any) string {
	s := fmt.Sprintf("%+v", x)
	return s[:min(len(s), 400)]
}

func wantFiles(t *testing.T, what string, d *disk.Disk, l ...string) {
	t.Helper()
	if got := files(d); !slices.Equal(got, filed(l...)) {
		t.Errorf("%s: there are %s, not %s", what, brief(got), brief(filed(l...)))
	}
}

// wantLasting: these files are there, and still so when all is lost that is not synced.
func wantLasting(t *testing.T, what string, d *disk.Disk, l ...string) {
	t.Helper()
	wantFiles(t, what, d, l...)
	d.Crash(nil)
	wantFiles(t, what+", behind a crash", d, l...)
}

func wantLoad(t *testing.T, what string, d *disk.Disk, name string, l api.Log, whole bool) {
	t.Helper()
	got, w, e := Load(d, name)
	if !same(got, l) || w != whole || e != api.OK {
		t.Errorf("%s: Load tells %s, whole %v, error %d, not %s, whole %v", what, brief(got), w, e, brief(l), whole)
	}
}

func wantNoLoad(t *testing.T, what string, d *disk.Disk, name string, want api.Errno) {
	t.Helper()
	got, whole, e := Load(d, name)
	if !same(got, api.Log{}) || whole || e != want {
		t.Errorf("%s: Load tells %s, whole %v, error %d, not %d", what, brief(got), whole, e, want)
	}
}

// P14.2: where there is no file, the log comes to stand, in one file that lasts, and is loaded again.
func TestStoreAnew(t *testing.T) {
	for what, l := range rights() {
		d := disk.New(plenty)
		want(t, what, Store(d, "j", l), api.OK)
		wantLoad(t, what, d, "j", l, true)
		wantLasting(t, what, d, "j", bytesOf(l))
		wantLoad(t, what, d, "j", l, true)
	}
}

// P14.2: in the place of another log, of one with bytes behind it, of what is no log, of what is not synced.
func TestStoreOver(t *testing.T) {
	l := logOf(9, "new", "log")
	for what, old := range rights() {
		for _, more := range []string{"", "\x04", "torn"} {
			d := holding(t, plenty, "j", bytesOf(old)+more)
			want(t, what, Store(d, "j", l), api.OK)
			wantLasting(t, what, d, "j", bytesOf(l))
		}
	}
	for _, b := range []string{"", "no log", "\x00\x00\x00\x00\x00"} {
		d := disk.New(1000)
		want(t, "Append", d.Append("j", b), api.OK)
		want(t, "Store", Store(d, "j", l), api.OK)
		wantLasting(t, "over what is no log", d, "j", bytesOf(l))
	}
}

// P14.2: what stands in name.new already, synced or not, is gone.
func TestStoreWithNewThere(t *testing.T) {
	old, l := logOf(8, "old"), logOf(9, "new", "log")
	for _, b := range []string{"", "x", bytesOf(old), bytesOf(l), bytesOf(l) + "more", strings.Repeat("z", 500)} {
		for _, synced := range []bool{false, true} {
			for _, there := range []bool{false, true} {
				d := disk.New(1000)
				if there {
					put(t, d, "j", bytesOf(old))
				}
				want(t, "Append", d.Append("j.new", b), api.OK)
				if synced {
					want(t, "Sync", d.Sync("j.new"), api.OK)
				}
				want(t, "Store", Store(d, "j", l), api.OK)
				wantLasting(t, fmt.Sprintf("%q in j.new", b), d, "j", bytesOf(l))
			}
		}
	}
}

// P14.2: other files stay as they were, whatever they are called.
func TestStoreLeavesOthers(t *testing.T) {
	others := []string{".new", "J", "J.new", "i", "j.", "j.ne", "j.new.new", "j.newer", "jj", "jj.new", "k"}
	d := disk.New(1000)
	var there []string
	for _, name := range others {
		put(t, d, name, "of "+name)
		there = append(there, name, "of "+name)
	}
	l := logOf(1, "x")
	want(t, "Store", Store(d, "j", l), api.OK)
	want(t, "Add", Add(d, "j", api.Entry{Txid: 2, Data: "y"}), api.OK)
	all := slices.Insert(slices.Clone(there), 8, "j", bytesOf(logOf(1, "x", "y")))
	wantLasting(t, "beside others", d, all...)
}

// P14.2: names of 1 to 16 bytes, any; of none, of 17 and of more nothing happens.
func TestNames(t *testing.T) {
	l := logOf(1, "x")
	x := api.Entry{Txid: 2, Data: "y"}
	for _, name := range []string{"a", "\x00", "\xff", " ", "/", ".new", "a.new", strings.Repeat("n", 15), strings.Repeat("n", 16), strings.Repeat("\xe9", 16)} {
		d := disk.New(1000)
		want(t, "Add ahead of Store", Add(d, name, x), api.ErrNone)
		want(t, "Store", Store(d, name, l), api.OK)
		wantLasting(t, "stored", d, name, bytesOf(l))
		want(t, "Add", Add(d, name, x), api.OK)
		wantLasting(t, "added", d, name, bytesOf(logOf(1, "x", "y")))
		wantLoad(t, "a name", d, name, logOf(1, "x", "y"), true)
	}
	for _, name := range []string{"", strings.Repeat("n", 17), strings.Repeat("n", 26), strings.Repeat("n", 30), strings.Repeat("n", 31), strings.Repeat("n", 5000), strings.Repeat("é", 9)} {
		d := disk.New(1000)
		want(t, "Store", Store(d, name, l), api.ErrArg)
		want(t, "Add", Add(d, name, x), api.ErrArg)
		wantFiles(t, "no name of a log", d)
		if n := len(name); n == 0 || n > 30 {
			continue
		}
		put(t, d, name, bytesOf(l))
		want(t, "Store over a file", Store(d, name, logOf(7)), api.ErrArg)
		want(t, "Add to a file", Add(d, name, x), api.ErrArg)
		wantLasting(t, "no name of a log, of a file though", d, name, bytesOf(l))
	}
}

// P14.2: a log that is not right is not stored, and nothing is deleted.
func TestStoreWrong(t *testing.T) {
	for what, l := range wrongs() {
		d := holding(t, plenty, "j", "old")
		put(t, d, "j.new", "new")
		want(t, what, Store(d, "j", l), api.ErrArg)
		want(t, what, Store(d, "", l), api.ErrArg)
		wantLasting(t, what, d, "j", "old", "j.new", "new")
	}
}

// P14.2: without room nothing comes to stand, and what stood under name stays; with just enough of it there is room for both logs side by side.
func TestStoreRoom(t *testing.T) {
	old, l := logOf(8, "old"), logOf(9, "new", "log")
	ob, lb := bytesOf(old), bytesOf(l)
	for room := len(ob); room < len(ob)+len(lb); room++ {
		d := holding(t, room, "j", ob)
		want(t, "too little room", Store(d, "j", l), api.ErrFull)
		wantLasting(t, "too little room", d, "j", ob)
	}
	d := holding(t, len(ob)+len(lb), "j", ob)
	want(t, "just enough", Store(d, "j", l), api.OK)
	wantLasting(t, "just enough", d, "j", lb)

	d = disk.New(len(lb) - 1)
	want(t, "too little for it alone", Store(d, "j", l), api.ErrFull)
	wantLasting(t, "too little for it alone", d)
	d = disk.New(len(lb))
	want(t, "just enough for it alone", Store(d, "j", l), api.OK)
	wantLasting(t, "just enough for it alone", d, "j", lb)
	want(t, "no room", Store(disk.New(0), "j", api.Log{}), api.ErrFull)
	want(t, "room below 0", Store(disk.New(-1), "j", api.Log{}), api.ErrFull)
}

// P14.2: what stood in name.new makes room, and is gone also where that is not enough.
func TestStoreRoomOfNew(t *testing.T) {
	ob, l := bytesOf(logOf(8, "old")), logOf(9, "new", "log")
	lb := bytesOf(l)
	for _, room := range []int{len(ob) + len(lb) - 1, len(ob) + len(lb)} {
		d := holding(t, room, "j", ob)
		put(t, d, "j.new", strings.Repeat("z", room-len(ob)))
		if room < len(ob)+len(lb) {
			want(t, "too little room", Store(d, "j", l), api.ErrFull)
			wantLasting(t, "too little room", d, "j", ob)
			continue
		}
		want(t, "just enough", Store(d, "j", l), api.OK)
		wantLasting(t, "just enough", d, "j", lb)
	}
}

// crowd: a disk with that many files f00, f01 ..
func crowd(t *testing.T, n int) *disk.Disk {
	t.Helper()
	d := disk.New(plenty)
	for i := range n {
		put(t, d, fmt.Sprintf("f%02d", i), "f")
	}
	return d
}

// P14.2: with as many files as there may be, name.new finds no place, but its own.
func TestStoreFiles(t *testing.T) {
	l := logOf(9, "new")
	d := crowd(t, api.MaxFiles-1)
	want(t, "one place left", Store(d, "j", l), api.OK)
	wantLoad(t, "one place left", d, "j", l, true)
	was := files(d)
	want(t, "none for the new one", Store(d, "j", logOf(10)), api.ErrLong)
	want(t, "none at all", Store(d, "k", logOf(10)), api.ErrLong)
	if !slices.Equal(files(d), was) {
		t.Errorf("something changed: %v", files(d))
	}
	wantLoad(t, "none for the new one", d, "j", l, true)
	want(t, "Add needs none", Add(d, "j", api.Entry{Txid: 2, Data: "y"}), api.OK)
	wantLoad(t, "Add needs none", d, "j", logOf(9, "new", "y"), true)

	d = crowd(t, api.MaxFiles-2)
	put(t, d, "j", bytesOf(l))
	want(t, "a place for the new one", Store(d, "j", logOf(10)), api.OK)
	wantLoad(t, "a place for the new one", d, "j", logOf(10), true)
	put(t, d, "j.new", "left behind")
	want(t, "its own place", Store(d, "j", logOf(11)), api.OK)
	wantLoad(t, "its own place", d, "j", logOf(11), true)
	if n := len(d.List()); n != api.MaxFiles-1 {
		t.Errorf("%d files", n)
	}
}

// P14.2: of two errors of the disk the one that Append names first; no room, and one file too many.
func TestStoreFilesAndRoom(t *testing.T) {
	d := disk.New(api.MaxFiles)
	for i := range api.MaxFiles {
		put(t, d, fmt.Sprintf("f%02d", i), "f")
	}
	want(t, "neither", Store(d, "j", logOf(1)), api.ErrLong)
	want(t, "Delete", d.Delete("f00"), api.OK)
	want(t, "no room", Store(d, "j", logOf(1)), api.ErrFull)
}

// P14.2: a log whose name is another one's name.new is as any file there.
func TestStoreBesideItself(t *testing.T) {
	d := disk.New(1000)
	want(t, "Store", Store(d, "j.new", logOf(1, "x")), api.OK)
	wantLoad(t, "j.new", d, "j.new", logOf(1, "x"), true)
	want(t, "Store", Store(d, "j", logOf(2)), api.OK)
	wantNoLoad(t, "j.new", d, "j.new", api.ErrNone)
	want(t, "Store", Store(d, "j.new", logOf(1, "x")), api.OK)
	wantLasting(t, "both", d, "j", bytesOf(logOf(2)), "j.new", bytesOf(logOf(1, "x")))
}

// P14.2: without power ErrLost, behind ErrArg.
func TestWithoutPower(t *testing.T) {
	l, x := logOf(1, "x"), api.Entry{Txid: 2, Data: "y"}
	d := holding(t, 1000, "j", bytesOf(l))
	put(t, d, "j.new", "left")
	d.Fuse(1)
	want(t, "the power goes", d.Sync("j"), api.ErrLost)
	for range 2 {
		want(t, "Store", Store(d, "j", logOf(2)), api.ErrLost)
		want(t, "Store anew", Store(d, "k", logOf(2)), api.ErrLost)
		want(t, "Store of a wrong one", Store(d, "j", logOf(-1)), api.ErrArg)
		want(t, "Store under no name", Store(d, "", l), api.ErrArg)
		want(t, "Add", Add(d, "j", x), api.ErrLost)
		want(t, "Add to none", Add(d, "k", x), api.ErrLost)
		want(t, "Add of none", Add(d, "j", api.Entry{}), api.ErrArg)
		want(t, "Add under no name", Add(d, "", x), api.ErrArg)
		for _, name := range []string{"j", "k", "", strings.Repeat("n", 31)} {
			wantNoLoad(t, "Load", d, name, api.ErrLost)
		}
	}
	d.Crash(nil)
	wantLasting(t, "behind it", d, "j", bytesOf(l), "j.new", "left")
}

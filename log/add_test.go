package log

import (
	"fmt"
	"math"
	"strings"
	"testing"

	"tabularium/api"
	"tabularium/disk"
)

// P14.2: entry by entry, as many as there may be; each lasts, and all together are the bytes of the log.
func TestAdd(t *testing.T) {
	whole := many(5, api.MaxEdits, 3)
	d := disk.New(plenty)
	want(t, "Store", Store(d, "j", logOf(5)), api.OK)
	for i, x := range whole.Entries {
		want(t, "Add", Add(d, "j", x), api.OK)
		d.Crash(nil)
		wantLoad(t, "added", d, "j", api.Log{Epoch: 5, Entries: whole.Entries[:i+1]}, true)
	}
	wantLasting(t, "all", d, "j", bytesOf(whole))
}

// P14.2: Data of no byte, of 600 and of 601; what stands there is not read, so that each Txid may be added that may be.
func TestAddEdges(t *testing.T) {
	for _, size := range []int{0, 1, 61, 62, 63, 64, 599, 600} {
		for _, txid := range []int{1, 2, 63, 64, 299, api.MaxEdits} {
			x := api.Entry{Txid: txid, Data: strings.Repeat("d", size)}
			d := holding(t, 1000, "j", bytesOf(logOf(1)))
			want(t, "Add", Add(d, "j", x), api.OK)
			wantLasting(t, fmt.Sprint(size, " bytes at ", txid), d, "j", laid(numbered(1), entryPart(txid, x.Data)))
			if txid == 1 {
				wantLoad(t, "the first", d, "j", logOf(1, x.Data), true)
			} else {
				wantLoad(t, "not the first", d, "j", logOf(1), false)
			}
		}
	}
}

// P14.2, P6: other numbers, and more bytes, are refused, ahead of a file that is not there; nothing happens.
func TestAddWrong(t *testing.T) {
	long := strings.Repeat("d", 601)
	wrong := []api.Entry{{Txid: 1, Data: long}, {Txid: 300, Data: long}, {Txid: 0, Data: long}, {Txid: 1, Data: strings.Repeat("d", 5000)}}
	for _, n := range []int{0, -1, -300, api.MaxEdits + 1, api.MaxEdits + 2, greatest, 1 << 32, 1<<32 + 1, math.MinInt, math.MinInt + 1, math.MaxInt} {
		wrong = append(wrong, api.Entry{Txid: n}, api.Entry{Txid: n, Data: "d"})
	}
	for _, x := range wrong {
		d := holding(t, 10000, "j", bytesOf(logOf(1)))
		for _, name := range []string{"j", "k", "", strings.Repeat("n", 17)} {
			want(t, fmt.Sprint(x.Txid, len(x.Data)), Add(d, name, x), api.ErrArg)
		}
		wantLasting(t, "refused", d, "j", bytesOf(logOf(1)))
	}
}

// P14.2: where there is no file, none is made; name.new is no file of that name.
func TestAddToNone(t *testing.T) {
	x := api.Entry{Txid: 1, Data: "x"}
	d := disk.New(1000)
	want(t, "no file", Add(d, "j", x), api.ErrNone)
	wantLasting(t, "no file", d)
	put(t, d, "j.new", bytesOf(logOf(1)))
	want(t, "another file", Add(d, "j", x), api.ErrNone)
	wantLasting(t, "another file", d, "j.new", bytesOf(logOf(1)))
	want(t, "no room either", Add(disk.New(0), "j", x), api.ErrNone)
}

// P14.2: to what is no log, and behind bytes that can't be read, an entry is added as well; Load does not come to it.
func TestAddBehindAnything(t *testing.T) {
	x := api.Entry{Txid: 2, Data: "y"}
	entry := sealing(entryPart(2, "y"))
	for _, b := range []string{"", "no log", "\x00\x00\x00\x00\x00", entry} {
		d := disk.New(1000)
		want(t, "Append", d.Append("j", b), api.OK)
		want(t, "Add", Add(d, "j", x), api.OK)
		wantLasting(t, "no log", d, "j", b+entry)
		wantNoLoad(t, "no log", d, "j", api.ErrForm)
	}
	log := bytesOf(logOf(4, "x"))
	for _, torn := range []string{"\x04", "torn", entry[:3], entry[:len(entry)-1], sealing(""), sealing(entryPart(3, "z"))} {
		d := holding(t, 1000, "j", log+torn)
		want(t, "Add", Add(d, "j", x), api.OK)
		wantLasting(t, "torn", d, "j", log+torn+entry)
		wantLoad(t, "torn", d, "j", logOf(4, "x"), false)
	}
}

// P14.2: an entry that is there already is added again; Load tells it once.
func TestAddTwice(t *testing.T) {
	x := api.Entry{Txid: 2, Data: "y"}
	d := holding(t, 1000, "j", bytesOf(logOf(4, "x")))
	want(t, "Add", Add(d, "j", x), api.OK)
	want(t, "Add", Add(d, "j", x), api.OK)
	wantLasting(t, "twice", d, "j", bytesOf(logOf(4, "x", "y"))+sealing(entryPart(2, "y")))
	wantLoad(t, "twice", d, "j", logOf(4, "x", "y"), false)
}

// P14.2: Add makes all of the file last, also what was not synced.
func TestAddSyncsAll(t *testing.T) {
	d := disk.New(1000)
	want(t, "Append", d.Append("j", bytesOf(logOf(4, "x"))), api.OK)
	want(t, "Add", Add(d, "j", api.Entry{Txid: 2, Data: "y"}), api.OK)
	wantLasting(t, "synced", d, "j", bytesOf(logOf(4, "x", "y")))
}

// P14.2: without room nothing is added; with just enough of it it is.
func TestAddRoom(t *testing.T) {
	b := bytesOf(logOf(4, "x"))
	x := api.Entry{Txid: 2, Data: "yyy"}
	more := sealing(entryPart(2, "yyy"))
	for room := len(b); room < len(b)+len(more); room++ {
		d := holding(t, room, "j", b)
		want(t, "too little room", Add(d, "j", x), api.ErrFull)
		wantLasting(t, "too little room", d, "j", b)
	}
	d := holding(t, len(b)+len(more), "j", b)
	want(t, "just enough", Add(d, "j", x), api.OK)
	wantLasting(t, "just enough", d, "j", b+more)
}

// P14.2: a file can't have more bytes than one may have; a file that is as great as may be takes no entry.
func TestAddLong(t *testing.T) {
	x := api.Entry{Txid: 2, Data: "yyy"}
	more := sealing(entryPart(2, "yyy"))
	b := strings.Repeat("z", api.MaxFile-len(more))
	d := holding(t, plenty, "j", b)
	want(t, "just enough", Add(d, "j", x), api.OK)
	wantLasting(t, "just enough", d, "j", b+more)
	d = holding(t, plenty, "j", b+"z")
	want(t, "too long", Add(d, "j", x), api.ErrLong)
	wantLasting(t, "too long", d, "j", b+"z")
}

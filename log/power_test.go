package log

import (
	"fmt"
	"slices"
	"testing"

	"tabularium/api"
	"tabularium/disk"
)

// left is what stands on a disk ahead of a call: under j and under j.new, each synced or not there; of j.new some bytes may not be synced.
type left struct {
	j, fresh           string
	jThere, freshThere bool
	open               string // behind fresh, and not synced
	others             bool
}

func (x left) disk(t *testing.T) *disk.Disk {
	t.Helper()
	d := disk.New(plenty)
	if x.others {
		put(t, d, "a", "another")
		put(t, d, "z", "the last")
	}
	if x.jThere {
		put(t, d, "j", x.j)
	}
	if x.freshThere {
		put(t, d, "j.new", x.fresh)
		want(t, "Append", d.Append("j.new", x.open), api.OK)
	}
	return d
}

// lefts: what may stand there, by what it is.
func lefts() map[string]left {
	old := bytesOf(logOf(8, "old", "log"))
	return map[string]left{
		"nothing":                {},
		"a log":                  {j: old, jThere: true},
		"no entries":             {j: bytesOf(logOf(8)), jThere: true},
		"a torn log":             {j: old + "torn", jThere: true},
		"no log":                 {j: "no log", jThere: true},
		"an empty file":          {j: "", jThere: true},
		"a log and a new one":    {j: old, jThere: true, fresh: bytesOf(logOf(10, "other")), freshThere: true},
		"a log and a torn one":   {j: old, jThere: true, fresh: "\x02", freshThere: true},
		"a log and an open one":  {j: old, jThere: true, freshThere: true, open: bytesOf(logOf(10, "other"))},
		"a log and half a one":   {j: old, jThere: true, fresh: "\x02\x06", freshThere: true, open: "\x3b\x61"},
		"a new one alone":        {fresh: bytesOf(logOf(10, "other")), freshThere: true},
		"a log among other ones": {j: old, jThere: true, others: true},
		"all":                    {j: old, jThere: true, fresh: "x", freshThere: true, open: "y", others: true},
	}
}

// keepAll: each file keeps k of what it can lose.
func keepAll(k int) []int {
	return slices.Repeat([]int{k}, api.MaxFiles)
}

// told: what Load tells of j, as text.
func told(d *disk.Disk) string {
	l, whole, e := Load(d, "j")
	return fmt.Sprint(l.Epoch, len(l.Entries), l.Entries, whole, e)
}

// P14.2, P14.4: the power goes with the first, second, third, fourth call, and of what is not synced each number of bytes lasts: Load tells what it told, until the new file has its name.
func TestStorePower(t *testing.T) {
	for what, x := range lefts() {
		for _, l := range []api.Log{logOf(9), logOf(9, "new", "one"), many(greatest, 3, 10)} {
			calls := 3 // Append, Sync, Rename
			if x.freshThere {
				calls = 4 // Delete ahead of them
			}
			was := told(x.disk(t))
			for n := 1; n <= calls; n++ {
				for k := range len(bytesOf(l)) + 1 {
					d := x.disk(t)
					d.Fuse(n)
					want(t, what, Store(d, "j", l), api.ErrLost)
					if !d.Down() {
						t.Fatalf("%s: the power is there behind call %d", what, n)
					}
					d.Crash(keepAll(k))
					empty := x.jThere && x.j == "" // a crash takes a file without bytes (P4.3)
					if got := told(d); got != was && !empty {
						t.Errorf("%s, call %d, %d bytes last: Load tells %s, not %s", what, n, k, got, was)
					}
					wantAfterStore(t, what, d, x, l, n-calls+4, k)
					again(t, what, d, l)
				}
			}
			d := x.disk(t)
			d.Fuse(calls + 1)
			want(t, what, Store(d, "j", l), api.OK)
			if d.Down() {
				t.Errorf("%s: there were more than %d calls", what, calls)
			}
			d.Crash(nil)
			wantLoad(t, what, d, "j", l, true)
		}
	}
}

// wantAfterStore: what stands in j.new, when the power went with the call (1 Delete, 2 Append, 3 Sync, 4 Rename), and k bytes of what was open last.
func wantAfterStore(t *testing.T, what string, d *disk.Disk, x left, l api.Log, call, k int) {
	t.Helper()
	b := ""
	switch call {
	case 1:
		b = x.fresh + x.open[:k%(len(x.open)+1)]
	case 3:
		b = bytesOf(l)[:k]
	case 4:
		b = bytesOf(l)
	}
	var there []string
	if x.others {
		there = append(there, "a", "another")
	}
	if x.j != "" {
		there = append(there, "j", x.j)
	}
	if b != "" {
		there = append(there, "j.new", b)
	}
	if x.others {
		there = append(there, "z", "the last")
	}
	wantFiles(t, fmt.Sprintf("%s, call %d, %d bytes last", what, call, k), d, there...)
}

// again: what was cut off is done again, whatever it left behind.
func again(t *testing.T, what string, d *disk.Disk, l api.Log) {
	t.Helper()
	want(t, what+", again", Store(d, "j", l), api.OK)
	d.Crash(nil)
	wantLoad(t, what+", again", d, "j", l, true)
	if slices.Contains(d.List(), "j.new") {
		t.Errorf("%s: j.new is left", what)
	}
}

// P14.4: the new one's bytes last when it has its name, whatever is lost then.
func TestStoreLasts(t *testing.T) {
	for what, x := range lefts() {
		for k := range 20 {
			d := x.disk(t)
			want(t, what, Store(d, "j", logOf(9, "new")), api.OK)
			d.Fuse(1)
			want(t, "the power goes", d.Append("j", "more"), api.ErrLost)
			d.Crash(keepAll(k))
			wantLoad(t, what, d, "j", logOf(9, "new"), true)
		}
	}
}

// P14.2, P14.4: the power goes with the first or second call of Add, and each number of bytes lasts: the entry is there, whole, or a part of it is left behind, or nothing.
func TestAddPower(t *testing.T) {
	for what, x := range lefts() {
		if !x.jThere || x.j == "" {
			continue
		}
		for _, entry := range []api.Entry{{Txid: 3, Data: "new"}, {Txid: 3}, {Txid: 1, Data: "new"}, {Txid: 300, Data: "new"}} {
			b := sealing(entryPart(entry.Txid, entry.Data))
			for n := 1; n <= 2; n++ {
				for k := range len(b) + 1 {
					d := x.disk(t)
					d.Fuse(n)
					want(t, what, Add(d, "j", entry), api.ErrLost)
					if !d.Down() {
						t.Fatalf("%s: the power is there behind call %d", what, n)
					}
					d.Crash(keepAll(k))
					last := 0
					if n == 2 {
						last = k
					}
					if got, _ := d.Read("j"); got != x.j+b[:last] {
						t.Errorf("%s, call %d, %d bytes last: %q", what, n, k, got)
					}
				}
			}
			d := x.disk(t)
			d.Fuse(3)
			want(t, what, Add(d, "j", entry), api.OK)
			if d.Down() {
				t.Errorf("%s: there were more than two calls", what)
			}
		}
	}
}

// P14.4: what Load tells behind each end of Add, and that Add goes on behind a log that was stored anew.
func TestAddPowerTold(t *testing.T) {
	for _, ahead := range []api.Log{logOf(8), logOf(8, "old", "log"), many(8, 299, 1)} {
		x := api.Entry{Txid: len(ahead.Entries) + 1, Data: "new"}
		more := api.Log{Epoch: 8, Entries: append(slices.Clone(ahead.Entries), x)}
		size := len(sealing(entryPart(x.Txid, x.Data)))
		for n := 1; n <= 2; n++ {
			for k := range size + 1 {
				what := fmt.Sprintf("call %d, %d bytes last", n, k)
				d := holding(t, plenty, "j", bytesOf(ahead))
				d.Fuse(n)
				want(t, what, Add(d, "j", x), api.ErrLost)
				d.Crash([]int{k})
				if n == 2 && k == size {
					wantLoad(t, what, d, "j", more, true)
					continue
				}
				wantLoad(t, what, d, "j", ahead, n == 1 || k == 0)
				l, _, _ := Load(d, "j")
				want(t, what, Store(d, "j", l), api.OK)
				want(t, what, Add(d, "j", x), api.OK)
				wantLoad(t, what+", mended", d, "j", more, true)
			}
		}
	}
}

// P14.2: an error that is no loss of power burns no fuse, and is told at it.
func TestFuseAtAnError(t *testing.T) {
	d := holding(t, 19, "j", bytesOf(logOf(1, "x")))
	d.Fuse(1)
	want(t, "no room", Store(d, "j", logOf(2, "y")), api.ErrFull)
	want(t, "no room", Add(d, "j", api.Entry{Txid: 2, Data: "y"}), api.ErrFull)
	want(t, "no file", Add(d, "k", api.Entry{Txid: 2, Data: "y"}), api.ErrNone)
	want(t, "not right", Store(d, "j", logOf(-1)), api.ErrArg)
	want(t, "no entry", Add(d, "j", api.Entry{}), api.ErrArg)
	if d.Down() {
		t.Error("the power went")
	}
	wantLasting(t, "refused", d, "j", bytesOf(logOf(1, "x")))
}

// P14.2: j.new is deleted ahead of an Append that finds no room.
func TestStorePowerWithoutRoom(t *testing.T) {
	b := bytesOf(logOf(1, "x"))
	for n := 1; n <= 2; n++ {
		d := holding(t, len(b)+5, "j", b)
		put(t, d, "j.new", "left")
		d.Fuse(n)
		if n == 1 {
			want(t, "the power goes", Store(d, "j", logOf(2)), api.ErrLost)
			d.Crash(nil)
			wantFiles(t, "the power goes", d, "j", b, "j.new", "left")
			continue
		}
		want(t, "no room", Store(d, "j", logOf(2)), api.ErrFull)
		if d.Down() {
			t.Error("the power went")
		}
		wantLasting(t, "no room", d, "j", b)
	}
}

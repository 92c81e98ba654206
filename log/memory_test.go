package log

import (
	"fmt"
	"math"
	"strings"
	"testing"

	"tabularium/api"
	"tabularium/disk"
)

// roomy: l in an array with more behind it, that would be its next entries.
func roomy(l api.Log) api.Log {
	n := len(l.Entries)
	all := make([]api.Entry, 0, n+3)
	all = append(all, l.Entries...)
	all = append(all, api.Entry{Txid: n + 1, Data: "behind"}, api.Entry{Txid: n + 2, Data: "further"}, api.Entry{Txid: -1})
	l.Entries = all[:n]
	return l
}

// shown: all that can be seen of l, spare room too.
func shown(l api.Log) string {
	return fmt.Sprint(l.Epoch, len(l.Entries), l.Entries[:cap(l.Entries)])
}

// spoil writes into all of l, spare room too.
func spoil(l api.Log) {
	for i := range l.Entries[:cap(l.Entries)] {
		l.Entries[:cap(l.Entries)][i] = api.Entry{Txid: 1000 + i, Data: "spoilt"}
	}
}

// everyLog: all of rights and wrongs.
func everyLog() map[string]api.Log {
	all := rights()
	for what, l := range wrongs() {
		all["wrong: "+what] = l
	}
	return all
}

// P3: nothing that is handed in is written into, nor what stands behind it in its array; nor is what stands behind told.
func TestWritesNothing(t *testing.T) {
	for what, plain := range everyLog() {
		l := roomy(plain)
		was := shown(l)
		d := disk.New(plenty)
		right := Right(l)
		b, e := Bytes(l)
		stored := Store(d, "j", l)
		full := Store(disk.New(1), "j", l)
		if shown(l) != was {
			t.Errorf("%s: it was written into", what)
		}
		if right != Right(plain) {
			t.Errorf("%s: what stands behind counts", what)
		}
		if !right {
			continue
		}
		if b != bytesOf(plain) || e != api.OK || stored != api.OK || full != api.ErrFull {
			t.Errorf("%s: what stands behind is told: errors %d, %d, %d", what, e, stored, full)
		}
		wantLoad(t, what, d, "j", plain, true)
	}
}

// P3: none of what is handed in is kept: who changes it later changes nothing that was stored or told.
func TestKeepsNothingHandedIn(t *testing.T) {
	for what, plain := range rights() {
		l := roomy(plain)
		d := disk.New(plenty)
		want(t, what, Store(d, "j", l), api.OK)
		b, _ := Bytes(l)
		was := strings.Clone(b)
		spoil(l)
		wantLasting(t, what, d, "j", bytesOf(plain))
		wantLoad(t, what, d, "j", plain, true)
		if b != was {
			t.Errorf("%s: the bytes changed", what)
		}
	}
	x := api.Entry{Txid: 1, Data: "x"}
	d := holding(t, 1000, "j", bytesOf(logOf(1)))
	want(t, "Add", Add(d, "j", x), api.OK)
	x.Txid, x.Data = 2, "y"
	wantLoad(t, "an entry that was changed later", d, "j", logOf(1, "x"), true)
}

// P3: what Load tells is its owner's: who writes there writes into no other answer, and into no file.
func TestAnswersShareNothing(t *testing.T) {
	for what, l := range rights() {
		d := holding(t, plenty, "j", bytesOf(l)+"torn")
		one, _, _ := Load(d, "j")
		two, _, _ := Load(d, "j")
		was := shown(two)
		spoil(one)
		if shown(two) != was {
			t.Errorf("%s: an answer was changed by another one", what)
		}
		wantLoad(t, what, d, "j", l, false)
		wantLasting(t, what, d, "j", bytesOf(l)+"torn")
	}
}

// P3: what was told stays as it was, whatever becomes of the file.
func TestAnswersStay(t *testing.T) {
	d := disk.New(plenty)
	l := logOf(3, "one", "two")
	want(t, "Store", Store(d, "j", l), api.OK)
	got, _, _ := Load(d, "j")
	was := shown(got)
	want(t, "Add", Add(d, "j", api.Entry{Txid: 3, Data: "three"}), api.OK)
	want(t, "Store", Store(d, "j", logOf(4, "other")), api.OK)
	want(t, "Delete", d.Delete("j"), api.OK)
	if shown(got) != was || !same(got, l) {
		t.Errorf("what was told changed: %v", got)
	}
}

// P4: the same is answered to the same, whatever was asked, stored and refused between, also on another disk.
func TestKeepsNothing(t *testing.T) {
	d := holding(t, plenty, "j", bytesOf(logOf(3, "x")))
	ask := func() {
		t.Helper()
		wantLoad(t, "the same", d, "j", logOf(3, "x"), true)
		if b, e := Bytes(logOf(3, "x")); b != bytesOf(logOf(3, "x")) || e != api.OK {
			t.Errorf("Bytes tells %q, %d", b, e)
		}
	}
	other := disk.New(plenty)
	ask()
	for what, l := range everyLog() {
		Right(l)
		Bytes(l)
		Store(other, "j", l)
		Store(d, "k", l)
		Add(other, "j", api.Entry{Txid: 1, Data: what})
		Load(other, "j")
		loaded(t, bytesOf(l)[1:min(len(bytesOf(l)), 300000)])
		ask()
	}
}

// P2: what is refused has changed nothing that a later call could tell.
func TestRefusedChangesNothing(t *testing.T) {
	d := holding(t, 40, "j", bytesOf(logOf(3, "x")))
	put(t, d, "k", "no log")
	was := files(d)
	refusals := []func() api.Errno{
		func() api.Errno { return Store(d, "j", logOf(-1)) },
		func() api.Errno { return Store(d, "", logOf(1)) },
		func() api.Errno { return Store(d, "j", logOf(1, "too much for this disk")) },
		func() api.Errno { return Add(d, "j", api.Entry{}) },
		func() api.Errno { return Add(d, "", api.Entry{Txid: 2}) },
		func() api.Errno { return Add(d, "l", api.Entry{Txid: 2}) },
		func() api.Errno { return Add(d, "j", api.Entry{Txid: 2, Data: "too much for this disk"}) },
		func() api.Errno { _, _, e := Load(d, "k"); return e },
		func() api.Errno { _, _, e := Load(d, "l"); return e },
	}
	for i, do := range refusals {
		if do() == api.OK {
			t.Errorf("refusal %d is none", i)
		}
		if got := files(d); fmt.Sprint(got) != fmt.Sprint(was) || d.Down() {
			t.Errorf("refusal %d: there are %v", i, got)
		}
	}
}

// P1: no panic leaves a call, and each one ends, whatever it is handed.
func TestNoPanic(t *testing.T) {
	numbers := []int{math.MinInt, -greatest, -1, 0, 1, 2, 300, 301, greatest, greatest + 1, math.MaxInt}
	texts := []string{"", "a", "\x00", "\xff", strings.Repeat("n", 16), strings.Repeat("n", 17), strings.Repeat("d", 601), strings.Repeat("d", 1<<20)}
	for _, n := range numbers {
		for _, s := range texts {
			for _, room := range []int{-1, 0, 100, plenty} {
				d := disk.New(room)
				l := api.Log{Epoch: n, Entries: []api.Entry{{Txid: n, Data: s}, {Txid: 2, Data: s}}}
				Right(l)
				Bytes(l)
				Store(d, s, l)
				Store(d, s, api.Log{})
				Add(d, s, api.Entry{Txid: n, Data: s})
				Add(d, "j", api.Entry{Txid: n, Data: s})
				d.Append("j", s)
				Add(d, "j", api.Entry{Txid: n, Data: s})
				Load(d, "j")
				Load(d, s)
			}
			loaded(t, sealing(numbered(n) + s)[:min(len(sealing(numbered(n)+s)), api.MaxFile)])
			loaded(t, laid(numbered(1), (numbered(n) + s)[:min(len(numbered(n)+s), 4000)]))
		}
	}
	for _, b := range []string{"\xff", "\x00", "\x80", "\x02"} {
		loaded(t, strings.Repeat(b, api.MaxFile))
		loaded(t, sealing(numbered(1))+strings.Repeat(b, api.MaxFile-10))
	}
}

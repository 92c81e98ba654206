package journal

import (
	"fmt"
	"math"
	"slices"
	"strings"
	"testing"

	"tabularium/api"
	"tabularium/disk"
)

// roomy: l in an array with more behind it, that would be its next entries.
func roomy(l []api.Entry) []api.Entry {
	n := len(l)
	all := append(make([]api.Entry, 0, n+3), l...)
	all = append(all, api.Entry{Txid: n + 1, Data: "behind"}, api.Entry{Txid: n + 2, Data: "further"}, api.Entry{Txid: -1})
	return all[:n]
}

// shown: all that can be seen of l, spare room too.
func shown(l []api.Entry) string {
	return fmt.Sprint(len(l), l[:cap(l)])
}

// spoil writes into all of l, spare room too.
func spoil(l []api.Entry) {
	for i := range l[:cap(l)] {
		l[:cap(l)][i] = api.Entry{Txid: 1000 + i, Data: "spoilt"}
	}
}

// P3: entries that are handed in are not written into, nor what stands behind them in their array, nor told; a change of them later changes no request.
func TestAcceptKeepsNothing(t *testing.T) {
	all := rights()
	for what, l := range wrongs() {
		all["wrong: "+what] = l
	}
	for what, l := range all {
		entries := roomy(l.Entries)
		was := shown(entries)
		request, e := Accept(l.Epoch, entries)
		if shown(entries) != was {
			t.Errorf("%s: it was written into", what)
		}
		plain, f := Accept(l.Epoch, l.Entries)
		spoil(entries)
		if request != plain || e != f {
			t.Errorf("%s: what stands behind is told, or kept", what)
		}
	}
}

// states: nodes in each state, with a disk that holds more than one.
func states(t *testing.T) map[string]*Journal {
	t.Helper()
	all := map[string]*Journal{}
	all["nothing"] = opened(t, "nothing", disk.New(plenty))
	all["opened"], _ = having(t, 4, logOf(4, "x", "yy"))
	all["accepted"] = opened(t, "accepted", disk.New(plenty))
	wantAnswer(t, "accepted", all["accepted"], accepting(4, "x", "yy", "z"), saying(api.OK))
	all["added"], _ = having(t, 4, logOf(4))
	for i := range 5 {
		wantAnswer(t, "added", all["added"], adding(4, i+1, fmt.Sprint("added ", i)), saying(api.OK))
	}
	return all
}

// P3: what Log tells is its owner's: who writes there, spare room too, changes neither the node, nor its disk, nor another answer.
func TestLogIsItsOwners(t *testing.T) {
	for what, j := range states(t) {
		one, two := j.Log(), j.Log()
		plain, was := logOf(one.Epoch, dataOf(one)...), shown(two.Entries)
		spoil(one.Entries)
		if shown(two.Entries) != was {
			t.Errorf("%s: another answer changed", what)
		}
		wantNode(t, what, j, plain.Epoch, plain)
		_ = append(j.Log().Entries, api.Entry{Txid: 99, Data: "appended"})
		n := len(plain.Entries)
		wantAnswer(t, what, j, promising(9), sayingLog(plain))
		wantAnswer(t, what, j, accepting(9, dataOf(plain)...), saying(api.OK))
		wantAnswer(t, what, j, adding(9, n+1, "next"), saying(api.OK))
		next := logOf(9, append(dataOf(plain), "next")...)
		wantNode(t, what, j, 9, next)
		spoil(two.Entries)
		wantNode(t, what, j, 9, next)
	}
}

// P3: what was told stays as it was, whatever becomes of the node.
func TestLogStays(t *testing.T) {
	for what, j := range states(t) {
		l := j.Log()
		was := shown(l.Entries)
		n := len(l.Entries)
		for i := range 10 {
			j.Handle(adding(4, n+1+i, "more"))
		}
		wantAnswer(t, what, j, accepting(6, "other"), saying(api.OK))
		if shown(l.Entries) != was {
			t.Errorf("%s: what was told changed", what)
		}
	}
}

// P3: what Told tells is its owner's.
func TestToldIsItsOwners(t *testing.T) {
	for what, l := range rights() {
		answer := sayingLog(l)
		one, _ := Told(answer)
		two, _ := Told(answer)
		was := shown(two.Entries)
		spoil(one.Entries)
		if shown(two.Entries) != was {
			t.Errorf("%s: another answer changed", what)
		}
		wantTold(t, what, answer, l, api.OK)
	}
}

// P3: what is handed to Accept, and changed behind it, changes no node that has the request.
func TestHandleKeepsNothing(t *testing.T) {
	entries := roomy(logOf(4, "x", "yy").Entries)
	request, _ := Accept(4, entries)
	j, d := having(t, 0, api.Log{})
	wantAnswer(t, "a", j, request, saying(api.OK))
	spoil(entries)
	wantHaving(t, "a", j, d, 4, logOf(4, "x", "yy"))
	b := []byte(adding(4, 3, "zzz"))
	wantAnswer(t, "w", j, string(b), saying(api.OK))
	clear(b)
	wantHaving(t, "w", j, d, 4, logOf(4, "x", "yy", "zzz"))
}

// P4: two nodes share nothing: what is asked of one changes nothing of the other.
func TestNodesShareNothing(t *testing.T) {
	l := logOf(4, "x", "yy")
	one, d := having(t, 4, l)
	two, f := having(t, 4, l)
	third := opened(t, "of the same disk", d)
	wantAnswer(t, "w", one, adding(4, 3, "z"), saying(api.OK))
	wantAnswer(t, "a", one, accepting(5, "other"), saying(api.OK))
	wantHaving(t, "one", one, d, 5, logOf(5, "other"))
	wantHaving(t, "two", two, f, 4, l)
	wantNode(t, "the third", third, 4, l)
	f.Fuse(1)
	wantAnswer(t, "p", two, promising(5), saying(api.ErrLost))
	wantNode(t, "one", one, 5, logOf(5, "other"))
	wantDead(t, "two", two, f)
}

// P2, P15.2: what is asked of a node changes nothing.
func TestAskingChangesNothing(t *testing.T) {
	j, d := having(t, 5, logOf(4, "x", "yy"))
	d.Fuse(1)
	for range 3 {
		wantNode(t, "asked", j, 5, logOf(4, "x", "yy"))
		Told(j.Handle("no request"))
		Promise(9)
		Accept(9, j.Log().Entries)
		Add(9, api.Entry{Txid: 1})
	}
	if d.Down() {
		t.Error("a call of the disk")
	}
	wantHaving(t, "asked", j, d, 5, logOf(4, "x", "yy"))
}

// P1: no panic leaves a call, and each one ends, whatever it is handed.
func TestNoPanic(t *testing.T) {
	numbers := []int{math.MinInt, -greatest, -1, 0, 1, 2, 300, 301, greatest, greatest + 1, math.MaxInt}
	texts := []string{"", "a", "p", "w", "\x00", "\xff", "\x80", strings.Repeat("d", 600), strings.Repeat("d", 601), strings.Repeat("d", 5000)}
	for _, n := range numbers {
		for _, s := range texts {
			Promise(n)
			Accept(n, []api.Entry{{Txid: n, Data: s}, {Txid: 2, Data: s}})
			Accept(1, slices.Repeat([]api.Entry{{Txid: n, Data: s}}, 1001))
			Add(n, api.Entry{Txid: n, Data: s})
			Told(joining(num(n), s))
			Told(s)
			for _, room := range []int{-1, 0, 30, plenty} {
				j := opened(t, "no file", disk.New(room))
				for _, m := range numbers {
					for _, request := range []string{s, joining("p", num(n)), joining("p", num(n)+s), joining("a", num(n), s), joining("a", num(n), s, s), joining("w", num(n), num(m), s), joining("w", num(n), num(m)+s, s), joining(s, num(n), s)} {
						Told(j.Handle(request))
						j.Promised()
						j.Log()
						j.Dead()
					}
				}
				d := disk.New(room)
				d.Append("promise", sealing(num(n))+s)
				d.Append("log", sealing(num(n), num(1)+s)+s)
				Open(d)
			}
		}
	}
	for _, c := range []string{"\x00", "\x02", "\x04", "\x80", "\xff"} {
		b := strings.Repeat(c, 100000)
		j := opened(t, "no file", disk.New(plenty))
		wantAnswer(t, "much", j, b, saying(api.ErrForm))
		wantNoAnswer(t, "much", b)
		wantNoNode(t, "much", holding(t, plenty, "promise", b), api.ErrForm)
		wantNoNode(t, "much", holding(t, plenty, "log", b), api.ErrForm)
	}
}

package quorum

import (
	"fmt"
	"math"
	"slices"
	"strings"
	"testing"

	"tabularium/api"
	"tabularium/journal"
	"tabularium/mail"
)

// roomy: l in an array with more behind it.
func roomy(l []int) []int {
	all := append(slices.Clone(l), 1, 1, 1, 4, 4, 4, 2)
	return all[:len(l)]
}

// spoil writes into all of l, spare room too.
func spoil(l []api.Entry) {
	for i := range l[:cap(l)] {
		l[:cap(l)][i] = api.Entry{Txid: -9, Data: "spoilt"}
	}
}

// P3: fates are not written into, nor what stands behind them in their array, nor does that count.
func TestFatesStay(t *testing.T) {
	for _, l := range [][]int{{}, {0}, {3, 1}, {0, 0, 4}, {0, -1, 1, 3}, {0, 0, 0, 0, 0, 0, 1, 1}} {
		fates := roomy(l)
		was := fmt.Sprint(fates[:cap(fates)])
		w := worldOf(t, blank(3)...)
		q := New(w.js, w.m)
		wantBegun(t, was, q, 1, fates)
		wantWrite(t, was, q, "x", fates, api.OK)
		wantRead(t, was, q, fates, "x")
		wantError(t, was, New(w.js, w.m), 1, fates, api.ErrFence)
		if got := fmt.Sprint(fates[:cap(fates)]); got != was {
			t.Errorf("%s became %s", was, got)
		}
	}
}

// P3: the list of nodes is read, and never written into.
func TestNodesStay(t *testing.T) {
	w := worldOf(t, blank(8)...)
	was := slices.Clone(w.js)
	few := world{js: w.js[:3], m: w.m}
	q := begun(t, few, 1)
	wantWrite(t, "x", q, "x", []int{0, 3, 4}, api.OK)
	wantWrite(t, "y", q, "y", []int{1, 1, 1}, api.ErrLost)
	wantRead(t, "x", q, nil, "x")
	all := begun(t, w, 2)
	wantWrite(t, "z", all, "z", nil, api.OK)
	if !slices.Equal(w.js, was) {
		t.Error("the list of nodes was written into")
	}
}

// P3: what Begin answers is its owner's: who writes there, spare room too, changes neither nodes nor mail, nor another answer.
func TestBeginIsItsOwners(t *testing.T) {
	for _, data := range [][]string{nil, {"x"}, {"x", "y", "z"}, many(20, 9)} {
		w := worldOf(t, at(1, data...), at(1, data...), at(1, data...))
		p := New(w.js, w.m)
		one, _ := p.Begin(2, []int{0, 0, 0, 4})
		was := w.show()
		spoil(one)
		_ = append(one, api.Entry{Txid: 99})
		if w.show() != was {
			t.Errorf("%s became %s", was, w.show())
		}
		wantState(t, "spoilt", p, 2, len(data))
		wantWrite(t, "spoilt", p, "more", nil, api.OK)
		q := New(w.js, w.m)
		two, _ := q.Begin(3, nil)
		read, _ := q.Read(nil)
		spoil(two)
		if got := dataOf(t, "read", read); !slices.Equal(got, append(slices.Clone(data), "more")) {
			t.Errorf("read was %q", got)
		}
		three, _ := New(w.js, w.m).Begin(4, nil)
		stays := fmt.Sprint(three)
		wantWrite(t, "fenced", q, "u", nil, api.ErrFence)
		wantBegun(t, "again", New(w.js, w.m), 5, nil, append(slices.Clone(data), "more")...)
		if fmt.Sprint(three) != stays {
			t.Errorf("%s became %v", stays, three)
		}
	}
}

// P3: what Read answers is its owner's.
func TestReadIsItsOwners(t *testing.T) {
	for _, data := range [][]string{nil, {"x"}, {"x", "y", "z"}, many(20, 9)} {
		w := worldOf(t, at(1, data...), at(1, data...), at(1, append(slices.Clone(data), "more")...))
		q := New(w.js, w.m)
		was := w.show()
		one, _ := q.Read(nil)
		two, _ := q.Read(nil)
		spoil(one)
		_ = append(one, api.Entry{Txid: 99})
		if got := dataOf(t, "read", two); !slices.Equal(got, data) || w.show() != was {
			t.Errorf("%q is %q; %s became %s", data, got, was, w.show())
		}
		wantBegun(t, "spoilt", q, 2, nil, append(slices.Clone(data), "more")...)
		wantWrite(t, "spoilt", q, "u", nil, api.OK)
		if got := dataOf(t, "read", two); !slices.Equal(got, data) {
			t.Errorf("%q became %q", data, got)
		}
	}
}

// P4: of the same, done with the same, comes the same.
func TestSameAgain(t *testing.T) {
	run := func() string {
		w := worldOf(t, at(1, "x"), at(1, "x", "y"), at(2), at(1), has{})
		q := New(w.js, w.m)
		l, e := q.Begin(5, []int{0, 4, 0, 3, 2, 0, 0, 0, 4})
		out := fmt.Sprint(l, e)
		for i := range 4 {
			e := q.Write(fmt.Sprint(i), []int{0, 0, 0, i % 2, 4})
			l, f := q.Read([]int{i, 0})
			out += fmt.Sprint(e, l, f)
		}
		return out + w.show()
	}
	first := run()
	for range 20 {
		if got := run(); got != first {
			t.Fatalf("%s, not %s", got, first)
		}
	}
}

// P1, P6: no panic leaves a call, and each one ends, whatever it is handed.
func TestNoPanic(t *testing.T) {
	numbers := []int{math.MinInt, -greatest, -6, -1, 0, 1, 2, 3, 4, 5, greatest, greatest + 1, math.MaxInt}
	texts := []string{"", "x", "\xff", strings.Repeat("d", 600), strings.Repeat("d", 601), strings.Repeat("d", 5000)}
	for n := range 8 {
		for _, epoch := range numbers {
			for _, c := range numbers {
				for _, fates := range [][]int{nil, {c}, {0, c, 0, 0, c}, slices.Repeat([]int{c}, 30)} {
					w := worldOf(t, blank(n)...)
					q := New(w.js, w.m)
					for _, data := range texts {
						q.Write(data, fates)
						q.Begin(epoch, fates)
						q.Read(fates)
						q.Write(data, fates)
						q.Write(data, nil)
					}
					wantSound(t, q)
				}
			}
		}
	}
	q := New(slices.Repeat([]*journal.Journal{worldOf(t, has{}).js[0]}, 100000), mail.New())
	wantError(t, "one node, often", q, 1, slices.Repeat([]int{3}, 100000), api.ErrFence)
}

// wantSound: it has an epoch, or neither that nor edits.
func wantSound(t *testing.T, q *Quorum) {
	t.Helper()
	epoch, many := q.Epoch(), q.Many()
	if epoch < 0 || epoch > greatest || many < 0 || many > 300 || epoch == 0 && many > 0 {
		t.Errorf("Epoch %d, Many %d", epoch, many)
	}
}

package choose

import (
	"fmt"
	"slices"
	"testing"

	"tabularium/api"
)

// roomy: four logs in an array with one more behind them, whose entries stand in arrays with more behind them.
func roomy() (l, all []api.Log) {
	all = apart(shape{2, 5}, shape{2, 6}, shape{1, 7}, shape{2, 4}, shape{9, 8})
	for i, x := range all {
		all[i].Entries = x.Entries[:len(x.Entries)-2]
	}
	return all[:4], all
}

// shown: all that can be seen of l, spare room too.
func shown(l []api.Log) string {
	var s []string
	for _, x := range l[:cap(l)] {
		s = append(s, fmt.Sprint(x.Epoch, len(x.Entries), cap(x.Entries), x.Entries[:cap(x.Entries)]))
	}
	return fmt.Sprint(len(l), cap(l), s)
}

// spoil writes into all that stands in the array of l, spare room too.
func spoil(l []api.Entry) {
	for i := range l[:cap(l)] {
		l[:cap(l)][i] = api.Entry{Txid: -9, Data: "spoilt"}
	}
}

// P3: nothing that is handed in is written into, nor what stands behind it in its array.
func TestWritesNothing(t *testing.T) {
	l, all := roomy()
	was := shown(all)
	for _, some := range [][]api.Log{l, l[:3], l[1:], l[:1], l[:0], all} {
		Best(some)
		for need := -1; need <= 6; need++ {
			Committed(some, need)
		}
		for _, x := range some {
			for _, y := range all {
				Agree(x.Entries, y.Entries)
				Agree(y.Entries, x.Entries)
			}
		}
	}
	if shown(all) != was {
		t.Errorf("the logs were written into: %s, not %s", shown(all), was)
	}
}

// P3, P16.2: what is committed is its owner's: what is written there changes neither what was handed in nor another answer, nor the other way round.
func TestSharesNothing(t *testing.T) {
	for need := 0; need <= 4; need++ {
		l, all := roomy()
		was := shown(all)
		first, second := Committed(l, need), Committed(l, need)
		want := slices.Clone(first)
		spoil(first)
		if shown(all) != was {
			t.Errorf("need %d: what was handed in was changed by its answer: %s, not %s", need, shown(all), was)
		}
		if !slices.Equal(second, want) {
			t.Errorf("need %d: an answer was changed by another one: %v, not %v", need, second, want)
		}
		for i := range all {
			spoil(all[i].Entries)
			all[i] = api.Log{}
		}
		if !slices.Equal(second, want) {
			t.Errorf("need %d: an answer was changed by what was handed in: %v, not %v", need, second, want)
		}
	}
}

// P3: what is put behind an answer stands in none of the logs.
func TestAppendsNowhere(t *testing.T) {
	for need := 0; need <= 4; need++ {
		l, all := roomy()
		was := shown(all)
		got := Committed(l, need)
		_ = append(got, api.Entry{Txid: -9, Data: "more"})
		if shown(all) != was {
			t.Errorf("need %d: %s, not %s", need, shown(all), was)
		}
	}
}

// P4: the same is answered to the same, whatever was asked between.
func TestKeepsNothing(t *testing.T) {
	l, all := roomy()
	ask := func() {
		t.Helper()
		if got := Best(l); got != 1 {
			t.Errorf("Best: %d", got)
		}
		if got := Agree(l[0].Entries, l[0].Entries[:2]); got != 2 {
			t.Errorf("Agree: %d", got)
		}
		if got := Most(4); got != 3 {
			t.Errorf("Most: %d", got)
		}
		wantCommitted(t, "between", l, chosen{2, 0, 3})
		wantCommitted(t, "between", l, chosen{3, 0, 2})
		wantCommitted(t, "between", l, chosen{4, 0, 0})
	}
	ask()
	for name, x := range bests() {
		for need := -1; need <= 4; need++ {
			Best(x.l)
			Committed(x.l, need)
			Committed(all, need)
			Most(need)
			Agree(all[4].Entries, l[0].Entries)
		}
		ask()
		if t.Failed() {
			t.Fatal(name)
		}
	}
}

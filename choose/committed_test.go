package choose

import (
	"math"
	"slices"
	"testing"

	"tabularium/api"
)

// chosen is what a list of logs is asked: a need; and what is to come: the first many entries of the log at that place, or nothing.
type chosen struct{ need, at, many int }

// wantCommitted: so many entries of the log at that place are committed.
func wantCommitted(t *testing.T, name string, l []api.Log, c chosen) {
	t.Helper()
	var want []api.Entry
	if c.many > 0 {
		want = l[c.at].Entries[:c.many]
	}
	if got := Committed(l, c.need); !slices.Equal(got, want) {
		t.Errorf("%s, need %d: %v, not %v", name, c.need, got, want)
	}
}

// below are needs that count as 1.
func below() []int {
	return []int{1, 0, -1, -2, -5, -1 << 31, -1 << 32, -1<<32 + 2, math.MinInt + 1, math.MinInt}
}

// above are needs of more logs than n.
func above(n int) []int {
	return []int{n + 1, n + 2, n + 100, 1 << 31, 1 << 32, 1<<32 + 1, 1<<32 + n, 1 << 62, math.MaxInt - 1, math.MaxInt}
}

// P16.2: nothing is committed where there is no log.
func TestCommittedOfNothing(t *testing.T) {
	for _, l := range [][]api.Log{nil, {}, apart(shape{1, 2}, shape{1, 3})[:0]} {
		for _, need := range append(below(), above(0)...) {
			wantCommitted(t, "no log", l, chosen{need: need})
		}
	}
}

// P16.2: a need below 1 is one of 1: all that the best log has.
func TestCommittedOfOne(t *testing.T) {
	for name, x := range bests() {
		for _, need := range below() {
			c := chosen{need: need, at: x.want}
			if x.want >= 0 {
				c.many = len(x.l[x.want].Entries)
			}
			wantCommitted(t, name, x.l, c)
		}
	}
}

// P16.2: more logs than there are have nothing.
func TestCommittedOfTooMany(t *testing.T) {
	for name, x := range bests() {
		for _, need := range above(len(x.l)) {
			wantCommitted(t, name, x.l, chosen{need: need})
		}
	}
}

// P16.2: which Epoch counts, how many entries are told, and of which log.
func TestCommitted(t *testing.T) {
	const least, most = math.MinInt, math.MaxInt
	for name, x := range map[string]struct {
		l     []shape
		wants []chosen
	}{
		"the chapter's":               {[]shape{{2, 3}, {2, 5}, {1, 9}}, []chosen{{1, 1, 5}, {2, 0, 3}, {3, 0, 0}}},
		"one":                         {[]shape{{3, 4}}, []chosen{{1, 0, 4}, {2, 0, 0}}},
		"one without entries":         {[]shape{{3, 0}}, []chosen{{1, 0, 0}, {2, 0, 0}}},
		"alike":                       {[]shape{{3, 4}, {3, 4}, {3, 4}}, []chosen{{1, 0, 4}, {2, 0, 4}, {3, 0, 4}, {4, 0, 0}}},
		"rising":                      {[]shape{{3, 2}, {3, 4}, {3, 5}}, []chosen{{1, 2, 5}, {2, 1, 4}, {3, 0, 2}, {4, 0, 0}}},
		"falling":                     {[]shape{{3, 5}, {3, 4}, {3, 2}}, []chosen{{1, 0, 5}, {2, 0, 4}, {3, 0, 2}, {4, 0, 0}}},
		"longest in the middle":       {[]shape{{3, 2}, {3, 5}, {3, 4}}, []chosen{{1, 1, 5}, {2, 1, 4}, {3, 0, 2}, {4, 0, 0}}},
		"shortest in the middle":      {[]shape{{3, 4}, {3, 2}, {3, 5}}, []chosen{{1, 2, 5}, {2, 0, 4}, {3, 0, 2}, {4, 0, 0}}},
		"two of each":                 {[]shape{{3, 1}, {3, 3}, {3, 1}, {3, 3}}, []chosen{{1, 1, 3}, {2, 1, 3}, {3, 0, 1}, {4, 0, 1}}},
		"two shorter ones ahead":      {[]shape{{3, 1}, {3, 0}, {3, 6}, {3, 5}}, []chosen{{1, 2, 6}, {2, 2, 5}, {3, 0, 1}, {4, 0, 0}}},
		"one has nothing":             {[]shape{{3, 4}, {3, 0}, {3, 4}}, []chosen{{1, 0, 4}, {2, 0, 4}, {3, 0, 0}}},
		"none has anything":           {[]shape{{3, 0}, {3, 0}}, []chosen{{1, 0, 0}, {2, 0, 0}, {3, 0, 0}}},
		"too few of the greatest":     {[]shape{{9, 7}, {2, 3}, {2, 4}}, []chosen{{1, 0, 7}, {2, 1, 3}, {3, 0, 0}}},
		"too few of two":              {[]shape{{2, 4}, {9, 7}, {2, 3}, {8, 7}, {2, 5}}, []chosen{{1, 1, 7}, {2, 0, 4}, {3, 0, 3}, {4, 0, 0}, {5, 0, 0}}},
		"enough of the greatest only": {[]shape{{2, 9}, {9, 3}, {1, 9}, {9, 4}}, []chosen{{1, 3, 4}, {2, 1, 3}, {3, 0, 0}}},
		"the greatest has fewer":      {[]shape{{2, 9}, {2, 8}, {3, 1}, {3, 2}}, []chosen{{1, 3, 2}, {2, 2, 1}, {3, 0, 0}}},
		"the greatest has none":       {[]shape{{2, 9}, {2, 9}, {3, 0}, {3, 0}}, []chosen{{1, 2, 0}, {2, 2, 0}}},
		"one of the greatest has":     {[]shape{{2, 9}, {2, 9}, {3, 0}, {3, 6}}, []chosen{{1, 3, 6}, {2, 2, 0}}},
		"three Epochs, each of two":   {[]shape{{1, 5}, {2, 4}, {3, 3}, {1, 4}, {3, 2}, {2, 3}}, []chosen{{1, 2, 3}, {2, 2, 2}, {3, 0, 0}}},
		"one, two and three of each":  {[]shape{{3, 1}, {2, 2}, {2, 3}, {1, 4}, {1, 5}, {1, 6}}, []chosen{{1, 0, 1}, {2, 1, 2}, {3, 3, 4}, {4, 0, 0}}},
		"the same the other way":      {[]shape{{1, 6}, {1, 5}, {1, 4}, {2, 3}, {2, 2}, {3, 1}}, []chosen{{1, 5, 1}, {2, 3, 2}, {3, 0, 4}, {4, 0, 0}}},
		"no Epoch twice":              {[]shape{{1, 2}, {2, 3}, {3, 4}}, []chosen{{1, 2, 4}, {2, 0, 0}, {3, 0, 0}}},
		"longer, but of other Epochs": {[]shape{{1, 9}, {3, 2}, {2, 9}, {3, 1}}, []chosen{{1, 1, 2}, {2, 1, 1}}},
		"Epoch 0":                     {[]shape{{0, 2}, {0, 3}}, []chosen{{1, 1, 3}, {2, 0, 2}, {3, 0, 0}}},
		"Epoch 0 and below":           {[]shape{{-1, 8}, {0, 2}, {-1, 9}, {0, 3}}, []chosen{{1, 3, 3}, {2, 1, 2}, {3, 0, 0}}},
		"Epochs below 0":              {[]shape{{-5, 9}, {-1, 2}, {-5, 9}, {-1, 3}}, []chosen{{1, 3, 3}, {2, 1, 2}, {3, 0, 0}}},
		"enough below 0 alone":        {[]shape{{-5, 4}, {7, 2}, {0, 3}, {-5, 6}}, []chosen{{1, 1, 2}, {2, 0, 4}, {3, 0, 0}}},
		"the least int":               {[]shape{{least, 2}, {least, 3}}, []chosen{{1, 1, 3}, {2, 0, 2}, {3, 0, 0}}},
		"the least int, and more":     {[]shape{{least, 8}, {least + 1, 2}, {least, 9}, {least + 1, 3}}, []chosen{{1, 3, 3}, {2, 1, 2}}},
		"enough of the least alone":   {[]shape{{least, 2}, {most, 9}, {0, 9}, {least, 3}}, []chosen{{1, 1, 9}, {2, 0, 2}, {3, 0, 0}}},
		"the greatest int":            {[]shape{{most - 1, 9}, {most, 1}, {most - 1, 9}, {most, 2}}, []chosen{{1, 3, 2}, {2, 1, 1}}},
		"the greatest and the least":  {[]shape{{least, 9}, {most, 1}, {least, 9}, {most, 2}}, []chosen{{1, 3, 2}, {2, 1, 1}}},
		"past 32 bits":                {[]shape{{1, 9}, {1<<32 + 1, 2}, {1, 8}, {1<<32 + 1, 3}}, []chosen{{1, 3, 3}, {2, 1, 2}, {3, 0, 0}}},
		"fractions would be even":     {[]shape{{1 << 53, 9}, {1<<53 + 1, 2}, {1 << 53, 8}, {1<<53 + 1, 3}}, []chosen{{1, 3, 3}, {2, 1, 2}, {3, 0, 0}}},
		"more entries than a log's":   {[]shape{{3, 400}, {3, 301}, {3, 300}}, []chosen{{1, 0, 400}, {2, 0, 301}, {3, 0, 300}}},
	} {
		for _, c := range x.wants {
			wantCommitted(t, name, apart(x.l...), c)
		}
	}
}

// P16.2: a log needs not be right to be counted, and its entries come as they are.
func TestCommittedOfWrong(t *testing.T) {
	for _, epoch := range []int{-1, 0, 3, api.MaxNumber + 1, math.MinInt, math.MaxInt} {
		l := []api.Log{apart(shape{epoch, 3})[0], odd(epoch), odd(epoch)}
		wantCommitted(t, "odd ones", l, chosen{1, 1, 5})
		wantCommitted(t, "odd ones", l, chosen{2, 1, 5})
		wantCommitted(t, "odd ones", l, chosen{3, 0, 3})
		wantCommitted(t, "odd ones", l, chosen{4, 0, 0})
	}
}

// P16.2: the room behind a log's entries is none of them.
func TestCommittedHasNoRoom(t *testing.T) {
	l := beginnings(shape{3, 9}, shape{3, 9})
	l[0].Entries, l[1].Entries = l[0].Entries[:4], l[1].Entries[:6]
	wantCommitted(t, "with room", l, chosen{1, 1, 6})
	wantCommitted(t, "with room", l, chosen{2, 0, 4})
}

// P1: lists that are long, of logs with each an Epoch of its own, or with one Epoch and each another length, have their answer soon.
func TestCommittedOfMany(t *testing.T) {
	const many = 200000
	entries := apart(shape{1, 1000})[0].Entries
	unlike, alike := make([]api.Log, many), make([]api.Log, many)
	for i := range many {
		unlike[i] = api.Log{Epoch: i, Entries: entries[:i%1000]}
		alike[i] = api.Log{Epoch: 7, Entries: entries[:(i*7919)%1000]}
	}
	wantCommitted(t, "unlike", unlike, chosen{1, many - 1, 999})
	for _, need := range []int{2, many / 2, many, many + 1} {
		wantCommitted(t, "unlike", unlike, chosen{need, 0, 0})
	}
	wantCommitted(t, "alike", alike, chosen{many / 1000, slices.IndexFunc(alike, func(x api.Log) bool { return len(x.Entries) == 999 }), 999})
	wantCommitted(t, "alike", alike, chosen{many/1000 + 1, slices.IndexFunc(alike, func(x api.Log) bool { return len(x.Entries) >= 998 }), 998})
	wantCommitted(t, "alike", alike, chosen{many - many/1000, slices.IndexFunc(alike, func(x api.Log) bool { return len(x.Entries) >= 1 }), 1})
	wantCommitted(t, "alike", alike, chosen{many, 0, 0})
}

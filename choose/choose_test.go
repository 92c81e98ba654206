package choose

import (
	"fmt"
	"math"
	"slices"
	"strings"
	"testing"

	"tabularium/api"
)

// shape is what a log has: its Epoch, and how many entries.
type shape struct{ epoch, entries int }

// apart: a log of each shape, whose entries tell whose they are: no two logs have one alike.
func apart(shapes ...shape) []api.Log {
	var l []api.Log
	for i, s := range shapes {
		x := api.Log{Epoch: s.epoch}
		for n := 1; n <= s.entries; n++ {
			x.Entries = append(x.Entries, api.Entry{Txid: n, Data: fmt.Sprintf("%d of %d", n, i)})
		}
		l = append(l, x)
	}
	return l
}

// beginnings: a log of each shape, of which those of one Epoch are each other's beginnings.
func beginnings(shapes ...shape) []api.Log {
	var l []api.Log
	for _, s := range shapes {
		x := api.Log{Epoch: s.epoch}
		for n := 1; n <= s.entries; n++ {
			x.Entries = append(x.Entries, api.Entry{Txid: n, Data: fmt.Sprintf("%d in %d", n, s.epoch)})
		}
		l = append(l, x)
	}
	return l
}

// odd: a log of that Epoch that chapter 14 would not take, whatever the Epoch: its numbers are any, one of its texts is too long.
func odd(epoch int) api.Log {
	return api.Log{Epoch: epoch, Entries: []api.Entry{
		{Txid: 7, Data: "a"}, {Txid: 7, Data: "a"}, {Txid: -1}, {Txid: math.MinInt, Data: strings.Repeat("x", 5000)}, {Txid: math.MaxInt},
	}}
}

// bests are lists of logs, and the place of the best one.
func bests() map[string]struct {
	l    []api.Log
	want int
} {
	return map[string]struct {
		l    []api.Log
		want int
	}{
		"nil":                          {nil, -1},
		"no log":                       {[]api.Log{}, -1},
		"no log, but room for some":    {apart(shape{1, 2}, shape{2, 3})[:0], -1},
		"one of nothing but zero":      {[]api.Log{{}}, 0},
		"one":                          {apart(shape{3, 2}), 0},
		"one without entries":          {apart(shape{3, 0}), 0},
		"one, below 0":                 {apart(shape{-1, 2}), 0},
		"one of the least Epoch":       {apart(shape{math.MinInt, 0}), 0},
		"one of the greatest Epoch":    {apart(shape{math.MaxInt, 0}), 0},
		"all alike":                    {apart(shape{3, 2}, shape{3, 2}, shape{3, 2}), 0},
		"all of nothing but zero":      {[]api.Log{{}, {}, {}}, 0},
		"alike, without entries":       {apart(shape{3, 0}, shape{3, 0}), 0},
		"alike, of the least Epoch":    {apart(shape{math.MinInt, 0}, shape{math.MinInt, 0}), 0},
		"most entries first":           {apart(shape{3, 5}, shape{3, 4}, shape{3, 2}), 0},
		"most entries in the middle":   {apart(shape{3, 4}, shape{3, 5}, shape{3, 2}), 1},
		"most entries last":            {apart(shape{3, 4}, shape{3, 2}, shape{3, 5}), 2},
		"most entries twice":           {apart(shape{3, 4}, shape{3, 5}, shape{3, 2}, shape{3, 5}), 1},
		"most entries three times":     {apart(shape{3, 1}, shape{3, 2}, shape{3, 2}, shape{3, 2}), 1},
		"one entry and none":           {apart(shape{3, 0}, shape{3, 1}), 1},
		"greatest first":               {apart(shape{5, 2}, shape{4, 2}, shape{3, 2}), 0},
		"greatest in the middle":       {apart(shape{4, 2}, shape{5, 2}, shape{3, 2}), 1},
		"greatest last":                {apart(shape{4, 2}, shape{3, 2}, shape{5, 2}), 2},
		"greatest first, fewest":       {apart(shape{5, 0}, shape{4, 8}, shape{3, 9}), 0},
		"greatest in the middle, few":  {apart(shape{4, 8}, shape{5, 1}, shape{3, 9}), 1},
		"greatest last, fewest":        {apart(shape{4, 8}, shape{3, 9}, shape{5, 0}), 2},
		"greatest twice":               {apart(shape{4, 9}, shape{5, 2}, shape{5, 3}, shape{4, 9}), 2},
		"greatest twice, alike":        {apart(shape{4, 9}, shape{5, 2}, shape{4, 9}, shape{5, 2}), 1},
		"greatest twice, without any":  {apart(shape{4, 9}, shape{5, 0}, shape{5, 0}), 1},
		"0 and 1":                      {apart(shape{0, 9}, shape{1, 0}), 1},
		"0 and below":                  {apart(shape{-1, 9}, shape{0, 0}), 1},
		"0 and far below":              {apart(shape{0, 0}, shape{math.MinInt, 9}), 0},
		"below 0":                      {apart(shape{-3, 9}, shape{-1, 0}, shape{-2, 9}), 1},
		"1 and below 0":                {apart(shape{1, 0}, shape{-2, 9}), 0},
		"least and one more":           {apart(shape{math.MinInt, 9}, shape{math.MinInt + 1, 0}), 1},
		"least and greatest":           {apart(shape{math.MinInt, 9}, shape{math.MaxInt, 0}), 1},
		"greatest and least":           {apart(shape{math.MaxInt, 0}, shape{math.MinInt, 9}), 0},
		"greatest int and one less":    {apart(shape{math.MaxInt - 1, 9}, shape{math.MaxInt, 0}), 1},
		"greatest int and below 0":     {apart(shape{math.MaxInt, 0}, shape{-2, 9}), 0},
		"past 32 bits":                 {apart(shape{1, 9}, shape{1 << 32, 0}), 1},
		"past 31 bits":                 {apart(shape{1, 9}, shape{1 << 31, 0}), 1},
		"fractions would be even":      {apart(shape{1 << 53, 9}, shape{1<<53 + 1, 0}), 1},
		"right or not":                 {[]api.Log{apart(shape{3, 4})[0], odd(3), apart(shape{2, 9})[0]}, 1},
		"not right, but greatest":      {[]api.Log{apart(shape{3, 9})[0], odd(api.MaxNumber + 1)}, 1},
		"more entries than a log's":    {apart(shape{3, 300}, shape{3, 301}, shape{3, 300}), 1},
		"entries in room for more":     {[]api.Log{{Epoch: 3, Entries: make([]api.Entry, 2, 9)}, {Epoch: 3, Entries: make([]api.Entry, 3)}}, 1},
		"nil entries, empty ones":      {[]api.Log{{Epoch: 3}, {Epoch: 3, Entries: []api.Entry{}}}, 0},
		"empty entries, nil ones":      {[]api.Log{{Epoch: 3, Entries: []api.Entry{}}, {Epoch: 3}}, 0},
		"the last of many":             {append(slices.Repeat(apart(shape{7, 3}), 10000), apart(shape{7, 4})...), 10000},
		"the first of many, all alike": {slices.Repeat(apart(shape{7, 3}), 10000), 0},
	}
}

// P16.1: which log is the best one.
func TestBest(t *testing.T) {
	for name, x := range bests() {
		if got := Best(x.l); got != x.want {
			t.Errorf("%s: %d, not %d", name, got, x.want)
		}
	}
}

// of: entries with these numbers and texts, by turns.
func of(l ...any) []api.Entry {
	var out []api.Entry
	for ; len(l) > 0; l = l[2:] {
		out = append(out, api.Entry{Txid: l[0].(int), Data: l[1].(string)})
	}
	return out
}

// P16.1: how many entries two lists have in common from the front on, whichever is handed in first.
func TestAgree(t *testing.T) {
	long := apart(shape{1, 1000})[0].Entries
	other := slices.Clone(long)
	other[999].Data += "x"
	for name, x := range map[string]struct {
		a, b []api.Entry
		want int
	}{
		"nothing with nothing":         {nil, nil, 0},
		"nil with empty":               {nil, []api.Entry{}, 0},
		"nothing with one":             {nil, of(1, "a"), 0},
		"nothing with one of zero":     {nil, []api.Entry{{}}, 0},
		"nothing with three":           {[]api.Entry{}, of(1, "a", 2, "b", 3, "c"), 0},
		"one, the same":                {of(1, "a"), of(1, "a"), 1},
		"one of zero":                  {[]api.Entry{{}}, []api.Entry{{}}, 1},
		"three, the same":              {of(1, "a", 2, "b", 3, "c"), of(1, "a", 2, "b", 3, "c"), 3},
		"a beginning":                  {of(1, "a", 2, "b"), of(1, "a", 2, "b", 3, "c"), 2},
		"a beginning of one":           {of(1, "a"), of(1, "a", 2, "b", 3, "c"), 1},
		"a beginning, all zero behind": {of(1, "a"), []api.Entry{{Txid: 1, Data: "a"}, {}}, 1},
		"the first one by Txid":        {of(1, "a", 2, "b", 3, "c"), of(9, "a", 2, "b", 3, "c"), 0},
		"the first one by Data":        {of(1, "a", 2, "b", 3, "c"), of(1, "z", 2, "b", 3, "c"), 0},
		"the second one by Txid":       {of(1, "a", 2, "b", 3, "c"), of(1, "a", 9, "b", 3, "c"), 1},
		"the second one by Data":       {of(1, "a", 2, "b", 3, "c"), of(1, "a", 2, "z", 3, "c"), 1},
		"the last one by Txid":         {of(1, "a", 2, "b", 3, "c"), of(1, "a", 2, "b", 9, "c"), 2},
		"the last one by Data":         {of(1, "a", 2, "b", 3, "c"), of(1, "a", 2, "b", 3, "z"), 2},
		"the only one by Txid":         {of(1, "a"), of(2, "a"), 0},
		"the only one by Data":         {of(1, "a"), of(1, "b"), 0},
		"the shorter one's last":       {of(1, "a", 2, "z"), of(1, "a", 2, "b", 3, "c"), 1},
		"an end in common":             {of(1, "a", 2, "b"), of(2, "b"), 0},
		"the same, turned round":       {of(1, "a", 2, "b"), of(2, "b", 1, "a"), 0},
		"Data that begins alike":       {of(1, "ab"), of(1, "a"), 0},
		"Data that is missing":         {of(1, "a", 2, ""), of(1, "a", 2, "x"), 1},
		"Data of no letters":           {of(1, "\x00\xff", 2, "\x00"), of(1, "\x00\xff", 2, "\x00\x00"), 1},
		"Data that is cut elsewhere":   {of(1, "ab", 2, "c"), of(1, "a", 2, "bc"), 0},
		"Data by its last byte":        {of(1, strings.Repeat("x", 600)+"a"), of(1, strings.Repeat("x", 600)+"b"), 0},
		"upper and lower":              {of(1, "a"), of(1, "A"), 0},
		"numbers of no order":          {of(9, "", -1, "", 9, ""), of(9, "", -1, "", 9, "", 0, ""), 3},
		"least and greatest numbers":   {of(math.MinInt, "", math.MaxInt, ""), of(math.MinInt, "", math.MinInt, ""), 1},
		"numbers past 32 bits":         {of(1, ""), of(1<<32+1, ""), 0},
		"numbers past 53 bits":         {of(1<<53, ""), of(1<<53+1, ""), 0},
		"many":                         {long, slices.Clone(long), 1000},
		"many, but for the last byte":  {long, other, 999},
		"the same memory":              {long, long, 1000},
		"a piece of the same memory":   {long, long[:400], 400},
		"room for more in common":      {long[:400], slices.Clone(long)[:300], 300},
		"a later piece":                {long, long[1:], 0},
	} {
		if got := Agree(x.a, x.b); got != x.want {
			t.Errorf("%s: %d, not %d", name, got, x.want)
		}
		if got := Agree(x.b, x.a); got != x.want {
			t.Errorf("%s, turned round: %d, not %d", name, got, x.want)
		}
	}
}

// P16.1: how many are a majority, at all edges of a number.
func TestMost(t *testing.T) {
	for n, want := range map[int]int{
		math.MinInt: 0, math.MinInt + 1: 0, -1 << 32: 0, -1<<32 + 1: 0, -1 << 31: 0, -1000: 0, -3: 0, -2: 0, -1: 0, 0: 0,
		1: 1, 2: 2, 3: 2, 4: 3, 5: 3, 6: 4, 7: 4, 99: 50, 100: 51, 101: 51,
		1<<31 - 1: 1 << 30, 1 << 31: 1<<30 + 1, 1<<32 - 1: 1 << 31, 1 << 32: 1<<31 + 1, 1<<53 + 1: 1<<52 + 1,
		math.MaxInt - 1: 1 << 62, math.MaxInt: 1 << 62,
	} {
		if got := Most(n); got != want {
			t.Errorf("of %d: %d, not %d", n, got, want)
		}
	}
}

// P16.1: a majority are more than the others, and with one fewer they are not.
func TestMostIsLeast(t *testing.T) {
	for n := 1; n <= 1000; n++ {
		if k := Most(n); k > n || k <= n-k || k-1 > n-(k-1) {
			t.Errorf("of %d: %d", n, k)
		}
	}
}

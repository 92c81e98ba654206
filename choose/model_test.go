package choose

import (
	"math"
	"math/rand/v2"
	"slices"
	"sort"
	"testing"

	"tabularium/api"
)

// The model counts each thing by itself, as often as it is asked, and finds lengths by trying one more, and one more.

// modelBest puts all places in their order, and takes the first one.
func modelBest(l []api.Log) int {
	places := []int{}
	for i := range l {
		places = append(places, i)
	}
	sort.SliceStable(places, func(i, j int) bool { return len(l[places[i]].Entries) > len(l[places[j]].Entries) })
	sort.SliceStable(places, func(i, j int) bool { return l[places[i]].Epoch > l[places[j]].Epoch })
	return append(places, -1)[0]
}

// modelMany: how many logs of that Epoch have so many entries, or more.
func modelMany(l []api.Log, epoch, entries int) int {
	n := 0
	for _, x := range l {
		if x.Epoch == epoch && len(x.Entries) >= entries {
			n++
		}
	}
	return n
}

// modelEpoch: the Epoch that counts, if there is one.
func modelEpoch(l []api.Log, need int) (int, bool) {
	var epochs []int
	for _, x := range l {
		if n := modelMany(l, x.Epoch, 0); n >= need {
			epochs = append(epochs, x.Epoch)
		}
	}
	if len(epochs) == 0 {
		return 0, false
	}
	return slices.Max(epochs), true
}

func modelCommitted(l []api.Log, need int) []api.Entry {
	epoch, ok := modelEpoch(l, need)
	if !ok {
		return nil
	}
	k := 0
	for modelMany(l, epoch, k+1) >= max(need, 1) {
		k++
	}
	at := slices.IndexFunc(l, func(x api.Log) bool { return x.Epoch == epoch && len(x.Entries) >= k })
	return l[at].Entries[:k]
}

// modelAgree takes the last entry off of both until they are the same.
func modelAgree(a, b []api.Entry) int {
	n := min(len(a), len(b))
	for !slices.Equal(a[:n], b[:n]) {
		n--
	}
	return n
}

// hold asks every call of the logs l, and the model the same.
func hold(t *testing.T, l []api.Log) {
	t.Helper()
	if got, want := Best(l), modelBest(l); got != want {
		t.Errorf("Best of %v: %d, not %d", l, got, want)
	}
	for _, need := range []int{math.MinInt, -1, 0, 1, 2, 3, 4, 5, 6, len(l), len(l) + 1, math.MaxInt} {
		if got, want := Committed(l, need), modelCommitted(l, need); !slices.Equal(got, want) {
			t.Errorf("Committed of %v, need %d: %v, not %v", l, need, got, want)
		}
	}
	for _, x := range l {
		for _, y := range l {
			if got, want := Agree(x.Entries, y.Entries), modelAgree(x.Entries, y.Entries); got != want {
				t.Errorf("Agree of %v and %v: %d, not %d", x.Entries, y.Entries, got, want)
			}
		}
	}
}

// P16.1, P16.2: all choices of up to four logs with Epochs at their edges, and few entries.
func TestAgainstModel(t *testing.T) {
	var all []shape
	for _, epoch := range []int{math.MinInt, -1, 0, math.MaxInt} {
		for _, entries := range []int{0, 1, 3} {
			all = append(all, shape{epoch, entries})
		}
	}
	lists := [][]shape{{}}
	for at := 0; at < len(lists) && !t.Failed(); at++ {
		hold(t, apart(lists[at]...))
		if len(lists[at]) == 4 {
			continue
		}
		for _, s := range all {
			lists = append(lists, append(slices.Clone(lists[at]), s))
		}
	}
	if len(lists) != 1+12+144+1728+20736 {
		t.Errorf("too little was tried: %d lists", len(lists))
	}
}

// pick is where logs take their choices from: bytes, and nothing but 0 behind their end.
type pick struct{ left []byte }

func (c *pick) below(n int) int {
	if len(c.left) == 0 {
		return 0
	}
	x := int(c.left[0])
	c.left = c.left[1:]
	return x % n
}

func (c *pick) epoch() int {
	return []int{1, 2, 3, 0, -1, 1 << 32, math.MinInt, math.MaxInt}[c.below(8)]
}

// logs: up to eight logs, whose entries are alike here and there, and right or not.
func (c *pick) logs() []api.Log {
	var l []api.Log
	for range c.below(9) {
		x := api.Log{Epoch: c.epoch()}
		for n := range c.below(7) {
			y := api.Entry{Txid: n + 1, Data: "d"}
			switch c.below(8) {
			case 0:
				y.Txid = c.epoch()
			case 1:
				y.Data = []string{"", "e", "dd", "\x00"}[c.below(4)]
			}
			x.Entries = append(x.Entries, y)
		}
		l = append(l, x)
	}
	return l
}

// shapes: up to eight of them, of few Epochs.
func (c *pick) shapes() []shape {
	var l []shape
	for range c.below(9) {
		l = append(l, shape{c.below(3), c.below(6)})
	}
	return l
}

// grows asks whether, with one more at that place, no less of the logs l is committed, if the Epoch that counts stays; does it, and is it more?
func grows(t *testing.T, l []api.Log, x api.Log, at, need int) (stayed, more bool) {
	t.Helper()
	all := slices.Insert(slices.Clone(l), at, x)
	old, ok := modelEpoch(l, need)
	fresh, _ := modelEpoch(all, need)
	if !ok || fresh != old {
		return false, false
	}
	ahead, now := Committed(l, need), Committed(all, need)
	if len(now) < len(ahead) {
		t.Errorf("need %d of %v: %v; with %v at %d: %v", need, l, ahead, x, at, now)
	}
	return true, len(now) > len(ahead)
}

// bestHas asks whether the best one of the logs l, of which those of one Epoch are each other's beginnings, has what is committed, if its Epoch counts; does it?
func bestHas(t *testing.T, l []api.Log, need int) bool {
	t.Helper()
	epoch, ok := modelEpoch(l, need)
	best := Best(l)
	if !ok || l[best].Epoch != epoch {
		return false
	}
	committed := Committed(l, need)
	if Agree(l[best].Entries, committed) != len(committed) {
		t.Errorf("need %d of %v: %v, which the best one, %d, has not", need, l, committed, best)
	}
	return true
}

// deeds: as many bytes as a list of logs takes, or fewer.
func deeds(r *rand.Rand) []byte {
	l := make([]byte, r.IntN(120))
	for i := range l {
		l[i] = byte(r.Uint32())
	}
	return l
}

// P16.1, P16.2: logs of any kind are answered as the model answers them.
func TestLogs(t *testing.T) {
	r := rand.New(rand.NewPCG(16, 16))
	for range 20000 {
		hold(t, (&pick{deeds(r)}).logs())
		if t.Failed() {
			return
		}
	}
}

// P16.3: what follows holds, of any logs, and of such that are each other's beginnings.
func TestFollows(t *testing.T) {
	r := rand.New(rand.NewPCG(16, 3))
	var stayed, more, had int
	for range 20000 {
		c := &pick{deeds(r)}
		shapes := append(c.shapes(), shape{c.below(3), c.below(6)})
		at, need := c.below(len(shapes)), c.below(6)-1
		for _, all := range [][]api.Log{apart(shapes...), beginnings(shapes...)} {
			last := len(all) - 1
			s, m := grows(t, all[:last], all[last], at, need)
			stayed, more = stayed+ones(s), more+ones(m)
		}
		had += ones(bestHas(t, beginnings(shapes...), need))
		if t.Failed() {
			return
		}
	}
	if stayed < 10000 || more < 600 || had < 5000 {
		t.Errorf("too little was tried: the Epoch stayed %d times, more was committed %d times, the best one was asked %d times", stayed, more, had)
	}
}

// ones: how many ok is.
func ones(ok bool) int {
	if ok {
		return 1
	}
	return 0
}

func FuzzChoose(f *testing.F) {
	f.Add([]byte{3, 1, 3, 9, 9, 9, 1, 5, 9, 9, 9, 9, 9, 0, 2, 9, 9})
	f.Add([]byte{5, 2, 1, 0, 7, 2, 2, 1, 3, 9, 6, 1, 0, 6, 0, 7, 3, 1, 1, 9, 0, 4})
	f.Fuzz(func(t *testing.T, deeds []byte) {
		hold(t, (&pick{deeds}).logs())
	})
}

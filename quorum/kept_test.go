package quorum

import (
	"fmt"
	"math/rand/v2"
	"slices"
	"testing"

	"tabularium/api"
	"tabularium/journal"
)

// kept is a world in which writers come and go, each with an epoch of its own, and what a majority answered OK to under each epoch.
type kept struct {
	w      world
	qs     []*Quorum
	epochs []int // of qs
	taken  map[int]bool
	acked  map[int][]string
}

// next: an epoch that nobody has; greater than all, but for a few.
func (x *kept) next(c *pick) int {
	top := 0
	for e := range x.taken {
		top = max(top, e)
	}
	n := max(1, top+1+c.below(3)-c.below(2)*c.below(6))
	for x.taken[n] {
		n++
	}
	x.taken[n] = true
	return n
}

// begin: somebody begins, who finds what all with lesser epochs were answered OK.
func (x *kept) begin(t *testing.T, c *pick, tally map[string]int) {
	t.Helper()
	q, epoch := New(x.w.js, x.w.m), x.next(c)
	l, e := q.Begin(epoch, c.fates())
	tally[fmt.Sprint("Begin ", e)]++
	if e != api.OK {
		return
	}
	data := dataOf(t, "found", l)
	for other, was := range x.acked {
		if other > epoch {
			t.Fatalf("epoch %d begins behind epoch %d", epoch, other)
		}
		if len(was) > len(data) || !slices.Equal(data[:len(was)], was) {
			t.Fatalf("epoch %d finds %q; epoch %d was answered OK to %q", epoch, data, other, was)
		}
		tally["entries kept"] += len(was)
	}
	x.qs, x.epochs, x.acked[epoch] = append(x.qs, q), append(x.epochs, epoch), data
}

// write: somebody writes, who is not answered OK if somebody else has begun with a greater epoch.
func (x *kept) write(t *testing.T, c *pick, tally map[string]int) {
	t.Helper()
	if len(x.qs) == 0 {
		return
	}
	last := len(x.qs) - 1
	if x.qs[last].Epoch() == 0 && c.below(2) == 0 {
		x.begin(t, c, tally)
		return
	}
	i := last - c.below(min(2, len(x.qs)))*c.below(2)
	tally["written"]++
	data := fmt.Sprint("edit ", tally["written"])
	e := x.qs[i].Write(data, c.fates())
	tally[fmt.Sprint("Write ", e)]++
	if e != api.OK {
		return
	}
	epoch := x.epochs[i]
	for other := range x.acked {
		if other > epoch {
			t.Fatalf("epoch %d writes behind epoch %d", epoch, other)
		}
	}
	x.acked[epoch] = append(x.acked[epoch], data)
	if many := x.qs[i].Many(); many != len(x.acked[epoch]) {
		t.Fatalf("Many is %d, not %d", many, len(x.acked[epoch]))
	}
}

// mailed: a late request comes, comes twice, or is lost.
func (x *kept) mailed(c *pick) {
	many := x.w.m.Len()
	if many == 0 {
		return
	}
	if c.below(5) == 0 {
		x.w.m.Twin(c.below(many))
		return
	}
	m, _ := x.w.m.Take(c.below(many))
	if c.below(5) > 0 {
		x.w.js[m.To].Handle(m.Data)
	}
}

// fall: the power of a node's disk goes soon, or now, with some of what is not synced lasting; and now and then all that are dead are opened anew.
func (x *kept) fall(t *testing.T, c *pick, tally map[string]int) {
	t.Helper()
	i := c.below(len(x.w.js))
	switch c.below(4) {
	case 0, 1:
		x.w.ds[i].Fuse(1 + c.below(8))
	case 2:
		x.open(t, c, i)
	default:
		for i, j := range x.w.js {
			if j.Dead() {
				tally["dead"]++
				x.open(t, c, i)
			}
		}
	}
}

// open: the node is opened anew behind a crash, and once more if the power goes with that.
func (x *kept) open(t *testing.T, c *pick, i int) {
	t.Helper()
	d := x.w.ds[i]
	d.Crash([]int{c.below(40), c.below(40), c.below(40), c.below(40)})
	d.Fuse(c.below(6))
	j, e := journal.Open(d)
	if e != api.OK {
		d.Crash([]int{c.below(40), c.below(40), c.below(40), c.below(40)})
		j = opened(t, d)
	}
	x.w.js[i] = j
}

// P17.5: what a majority answered OK to under one epoch, the entries of Begin of each later epoch begin with, whatever was lost, came late or twice, and however often nodes crashed.
func TestKept(t *testing.T) {
	r := rand.New(rand.NewPCG(17, 5))
	tally := map[string]int{}
	for range 3000 {
		keep(t, &pick{bytesOf(r, 500)}, tally)
	}
	for what, least := range map[string]int{
		"Begin 0": 3000, "Begin 10": 2000, "Begin 12": 2000, "Write 0": 3000, "Write 10": 100, "Write 12": 1000, "dead": 1000, "entries kept": 20000,
	} {
		if tally[what] < least {
			t.Errorf("too little was tried of %s: %v", what, tally)
		}
	}
}

// keep does as the bytes say.
func keep(t *testing.T, c *pick, tally map[string]int) {
	n := []int{3, 3, 3, 5, 1, 2, 4}[c.below(7)]
	x := &kept{w: worldOf(t, blank(n)...), taken: map[int]bool{}, acked: map[int][]string{}}
	for len(c.left) > 0 {
		switch c.below(12) {
		case 0, 1:
			x.begin(t, c, tally)
		case 2, 3:
			x.mailed(c)
		case 4:
			x.fall(t, c, tally)
		default:
			x.write(t, c, tally)
		}
	}
	if t.Failed() {
		t.FailNow()
	}
}

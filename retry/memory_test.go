package retry

import (
	"fmt"
	"math"
	"slices"
	"strings"
	"testing"

	"tabularium/api"
)

// roomy: an answer whose lists have more behind them.
func roomy() api.Answer {
	names := []string{"a", "b", "behind", "more"}
	blocks := []api.Block{{ID: 1, Gen: 2, Len: 3}, {ID: 4, Gen: 5, Len: 6}, {ID: 77, Gen: 78, Len: 79}}
	return api.Answer{
		Err:   api.ErrFull,
		Block: api.Block{ID: 7, Gen: 8, Len: 9},
		Names: names[:2],
		Node:  api.Node{Path: "/f", Quota: -1, Blocks: blocks[:2], Writer: 1},
		N:     10,
	}
}

// roomyEdit: an edit whose Lengths have more behind them.
func roomyEdit(client, call int) api.Edit {
	return block(client, call, []int{5, 0, 64, 77, 88}[:3]...)
}

// shown: all that can be seen of an answer, spare room too.
func shown(a api.Answer) string {
	return fmt.Sprint(a, len(a.Names), a.Names[:cap(a.Names)], len(a.Node.Blocks), a.Node.Blocks[:cap(a.Node.Blocks)])
}

func shownEdit(e api.Edit) string {
	return fmt.Sprint(e, len(e.Lengths), e.Lengths[:cap(e.Lengths)])
}

// spoil writes into all lists of an answer, spare room too.
func spoil(a api.Answer) {
	for i := range a.Names[:cap(a.Names)] {
		a.Names[:cap(a.Names)][i] = "spoilt"
	}
	for i := range a.Node.Blocks[:cap(a.Node.Blocks)] {
		a.Node.Blocks[:cap(a.Node.Blocks)][i] = api.Block{ID: -1, Gen: -2, Len: -3}
	}
}

func spoilEdit(e api.Edit) {
	for i := range e.Lengths[:cap(e.Lengths)] {
		e.Lengths[:cap(e.Lengths)][i] = 9
	}
}

// P3: nothing that is handed in is written into, nor what stands behind it in its array; also where it is refused.
func TestWritesNothing(t *testing.T) {
	e, a := roomyEdit(1, 7), roomy()
	wasEdit, was := shownEdit(e), shown(a)
	c := New()
	for i := range 60 {
		want(t, "Put", c.Put(1, 7, e, a), api.OK)
		want(t, "another client", c.Put(2, 7, e, a), api.ErrArg)
		put(t, c, block(2, i, 1), a)
		want(t, "another edit", c.Put(2, i, roomyEdit(2, i), a), api.ErrState)
		wantThere(t, c, e, roomy())
		wantState(t, c, 2, i, e)
		wantGone(t, c, roomyEdit(3, i))
		c.Forget(2, i-3)
	}
	c.Forget(1, 8)
	if shownEdit(e) != wasEdit {
		t.Errorf("the edit was written into: %s, not %s", shownEdit(e), wasEdit)
	}
	if shown(a) != was {
		t.Errorf("the answer was written into: %s, not %s", shown(a), was)
	}
}

// P3: what is kept stays as it was, whatever becomes of what was handed in; and is so behind a second Put, too.
func TestKeepsNothingHandedIn(t *testing.T) {
	c := New()
	for range 2 {
		e, a := roomyEdit(1, 7), roomy()
		put(t, c, e, a)
		spoilEdit(e)
		spoil(a)
		wantThere(t, c, roomyEdit(1, 7), roomy())
		wantState(t, c, 1, 7, e)
		want(t, "another edit", c.Put(1, 7, e, a), api.ErrState)
		wantThere(t, c, roomyEdit(1, 7), roomy())
	}
}

// P3: who appends to what was handed in, in the room behind it, adds nothing to what is kept.
func TestAppendedLater(t *testing.T) {
	c := New()
	e, a := roomyEdit(1, 7), roomy()
	put(t, c, e, a)
	e.Lengths = append(e.Lengths, 1)
	a.Names = append(a.Names, "c")
	a.Node.Blocks = append(a.Node.Blocks, api.Block{})
	wantThere(t, c, roomyEdit(1, 7), roomy())
	wantState(t, c, 1, 7, e)
}

// P3: what comes is its owner's: who writes into it, or behind it, changes neither what is kept nor another answer.
func TestAnswersShareNothing(t *testing.T) {
	c := New()
	e := roomyEdit(1, 7)
	put(t, c, e, roomy())
	put(t, c, of(2, 7), roomy())
	first, _, _ := c.Get(1, 7, e)
	second, _, _ := c.Get(1, 7, e)
	third, _, _ := c.Get(2, 7, of(2, 7))
	was, wasThird := shown(second), shown(third)
	spoil(first)
	if shown(second) != was || shown(third) != wasThird {
		t.Errorf("an answer was changed by another one: %s, %s, not %s, %s", shown(second), shown(third), was, wasThird)
	}
	wantThere(t, c, e, roomy())
	wantThere(t, c, of(2, 7), roomy())
}

// P3: one answer that is put of two calls is kept twice; what Get told may be put again.
func TestPutOfOneAnswerTwice(t *testing.T) {
	c := New()
	a := roomy()
	put(t, c, of(1, 7), a)
	put(t, c, of(2, 7), a)
	told, _, _ := c.Get(1, 7, of(1, 7))
	put(t, c, of(1, 8), told)
	put(t, c, of(1, 7), told)
	spoil(told)
	spoil(a)
	other, _, _ := c.Get(2, 7, of(2, 7))
	spoil(other)
	for _, e := range []api.Edit{of(1, 7), of(2, 7), of(1, 8)} {
		wantThere(t, c, e, roomy())
	}
}

// P3: lists of nothing with room behind them: what stands there is neither told nor written into.
func TestEmptyLists(t *testing.T) {
	c := New()
	names, blocks, lengths := []string{"behind"}, []api.Block{{ID: 77}}, []int{77}
	e := block(1, 7)
	e.Lengths = lengths[:0]
	a := api.Answer{Names: names[:0], Node: api.Node{Blocks: blocks[:0]}}
	put(t, c, e, a)
	got, ok, bad := c.Get(1, 7, e)
	if !ok || bad != api.OK || len(got.Names) != 0 || len(got.Node.Blocks) != 0 {
		t.Errorf("Get = %v, %v, %d", got, ok, bad)
	}
	got.Names = append(got.Names, "x")
	got.Node.Blocks = append(got.Node.Blocks, api.Block{ID: 1})
	spoil(got)
	if names[0] != "behind" || blocks[0].ID != 77 || lengths[0] != 77 {
		t.Errorf("what stands behind was written into: %v, %v, %v", names, blocks, lengths)
	}
	wantThere(t, c, e, api.Answer{})
}

// P3: what Get told stays as it was, whatever becomes of the cache.
func TestAnswersStay(t *testing.T) {
	c := New()
	e := roomyEdit(1, 7)
	put(t, c, e, roomy())
	a, _, _ := c.Get(1, 7, e)
	was := shown(a)
	put(t, c, e, api.Answer{Names: []string{"x"}, Node: api.Node{Blocks: []api.Block{{ID: 9}}}})
	for i := range 2 * room {
		put(t, c, of(2, i), number(i))
	}
	c.Forget(2, math.MaxInt)
	if shown(a) != was {
		t.Errorf("the answer became %s, and was %s", shown(a), was)
	}
}

// P4: the same deeds have the same answers, in one cache and in another, in each run of a map's order.
func TestSameDeedsSameAnswers(t *testing.T) {
	deeds := func() string {
		var out strings.Builder
		c := New()
		for i := range 300 {
			client, call := i*7%4, i*i%23
			if i%41 == 40 {
				c.Forget(client, call)
			}
			fmt.Fprint(&out, c.Put(client, call, of(client, call), number(i)), c.Len())
			for k := range 23 {
				a, ok, bad := c.Get(client, k, of(client, k))
				fmt.Fprint(&out, a, ok, bad)
			}
		}
		return out.String()
	}
	first := deeds()
	for range 20 {
		if deeds() != first {
			t.Fatal("the same deeds have other answers")
		}
	}
}

// P1: no panic leaves a call, whatever it is handed, with a cache that is new, and one that is full.
func TestNoPanic(t *testing.T) {
	numbers := []int{math.MinInt, -greatest, -1, 0, 1, 3, 4, 7, greatest, greatest + 1, math.MaxInt}
	edits := []api.Edit{{}, of(1, 7), roomyEdit(1, 7), {Path: strings.Repeat("x", 100000), To: strings.Repeat("y", 100000), Lengths: make([]int, 100000)}}
	for _, e := range wrongs() {
		edits = append(edits, e)
	}
	great := api.Answer{Names: make([]string, 100000), Node: api.Node{Blocks: make([]api.Block, 100000)}}
	for _, c := range []*Cache{New(), filled(t, mixed(room)...)} {
		for _, n := range numbers {
			for _, m := range numbers {
				for _, e := range append(slices.Clone(edits), of(n, m)) {
					c.Put(n, m, e, roomy())
					c.Get(n, m, e)
				}
				c.Forget(n, m)
				if c.Len() < 0 || c.Len() > room {
					t.Errorf("Len() = %d", c.Len())
				}
			}
		}
		put(t, c, of(1, 7), great)
		wantThere(t, c, of(1, 7), great)
	}
}

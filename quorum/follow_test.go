package quorum

import (
	"fmt"
	"slices"
	"testing"

	"tabularium/api"
	"tabularium/disk"
	"tabularium/mail"
)

// reopen: the power of these nodes goes, what is not synced is lost, and they are opened anew, in their places.
func (w world) reopen(t *testing.T, places ...int) {
	t.Helper()
	for _, i := range places {
		w.ds[i].Crash(nil)
		w.js[i] = opened(t, w.ds[i])
	}
}

// P17.1: a node that is put in the place of another one is spoken to from then on, and the other one no more.
func TestReplaced(t *testing.T) {
	w := worldOf(t, blank(3)...)
	q := begun(t, w, 1)
	wantWrite(t, "x", q, "x", nil, api.OK)
	old := w.js[1]
	other := worldOf(t, at(1, "x", "y"))
	w.js[1] = other.js[0]
	wantRead(t, "another one", q, []int{1}, "x")
	wantWrite(t, "another one, which has it", q, "y", []int{1}, api.OK)
	wantRead(t, "another one", q, []int{1}, "x", "y")
	wantNodes(t, "another one", w, at(1, "x"), at(1, "x", "y"), at(1, "x", "y"))
	if l := old.Log(); len(l.Entries) != 1 {
		t.Errorf("the old one has %v", l)
	}
	w.js[2] = worldOf(t, has{}).js[0]
	wantWrite(t, "one that has nothing", q, "z", nil, api.ErrFence)
	w.js[0], w.js[1] = w.js[1], w.js[0]
	p := New(w.js, w.m)
	wantBegun(t, "changed places", p, 2, []int{0, 1}, "x", "y", "z")
	w.js[0] = worldOf(t, has{promised: 9}).js[0]
	w.js[1] = w.js[0]
	wantWrite(t, "two that promised more", p, "u", nil, api.ErrFence)
}

// P17.1: those behind MaxJournals are spoken to neither at first, nor when others are put there; what is put behind the list is not seen at all.
func TestReplacedLeftOut(t *testing.T) {
	w := worldOf(t, blank(7)...)
	q := begun(t, w, 1)
	w.js[5] = worldOf(t, has{promised: 9}).js[0]
	w.js[6] = w.js[5]
	wantWrite(t, "x", q, "x", nil, api.OK)
	if n := w.js[5].Log().Epoch; n != 0 || w.js[5].Promised() != 9 {
		t.Errorf("the sixth has epoch %d", n)
	}
	all := worldOf(t, blank(3)...)
	few := world{js: all.js[:1], m: mail.New()}
	q = begun(t, few, 1)
	wantWrite(t, "one node", q, "x", nil, api.OK)
	few.js = append(few.js, all.js[2])
	wantWrite(t, "one node still", q, "y", nil, api.OK)
	wantNodes(t, "one node", all, at(1, "x", "y"), has{}, has{})
}

// P17.1: the mail that was handed in is the one that late requests are sent by.
func TestMailIsKept(t *testing.T) {
	w := worldOf(t, blank(1)...)
	p, q := New(w.js, w.m), New(w.js, mail.New())
	wantError(t, "by another mail", q, 1, []int{4}, api.ErrLost)
	wantMail(t, "by another mail", w)
	for range 50 {
		w.m.Send(api.Message{})
	}
	w.m.Age(0)
	wantError(t, "by this mail", p, 2, []int{4}, api.ErrLost)
	wantMail(t, "by this mail", w, api.Message{To: 0, Data: promising(2)})
}

// P17.5: nodes crash between two calls, and are opened anew: what they answered OK to is there, and the writer goes on.
func TestCrashesBetween(t *testing.T) {
	w := worldOf(t, blank(3)...)
	q := New(w.js, w.m)
	w.reopen(t, 0, 1, 2)
	wantBegun(t, "begun", q, 1, nil)
	var data []string
	for i := range 12 {
		w.reopen(t, [][]int{{0}, {1, 2}, {0, 1, 2}, {}}[i%4]...)
		data = append(data, fmt.Sprint("edit ", i))
		wantWrite(t, "goes on", q, data[i], []int{0, 0, 0}, api.OK)
		wantState(t, "goes on", q, 1, i+1)
	}
	w.reopen(t, 0, 1, 2)
	wantRead(t, "all crashed", q, nil, data...)
	wantNodes(t, "all crashed", w, at(1, data...), at(1, data...), at(1, data...))
	wantBegun(t, "the next one", New(w.js, w.m), 2, nil, data...)
	w.reopen(t, 0, 1, 2)
	wantWrite(t, "fenced, though all crashed", q, "x", nil, api.ErrFence)
	wantError(t, "promised, though all crashed", New(w.js, w.m), 2, nil, api.ErrFence)
}

// P17.5: nodes whose power goes in the middle of a call are dead till they are opened anew; one that misses an edit takes none behind it until somebody begins.
func TestCrashesWithin(t *testing.T) {
	w := worldOf(t, blank(3)...)
	q := begun(t, w, 1)
	wantWrite(t, "x", q, "x", nil, api.OK)
	w.ds[0].Fuse(1)
	wantWrite(t, "the first one dies", q, "y", nil, api.OK)
	wantRead(t, "the first one is dead", q, nil, "x", "y")
	wantNoRead(t, "and another lost", q, []int{0, 1, 0})
	w.reopen(t, 0)
	wantRead(t, "it is back", q, []int{0, 1, 0}, "x")
	wantWrite(t, "it misses one", q, "z", nil, api.OK)
	w.ds[1].Fuse(2)
	wantWrite(t, "another one dies", q, "u", nil, api.ErrLost)
	w.reopen(t, 1)
	wantNodes(t, "both are back", w, at(1, "x"), at(1, "x", "y", "z"), at(1, "x", "y", "z", "u"))
	wantBegun(t, "somebody begins", New(w.js, w.m), 2, []int{0, 0, 1}, "x", "y", "z")
	wantNodes(t, "all are alike", w, at(2, "x", "y", "z"), at(2, "x", "y", "z"), at(2, "x", "y", "z"))
}

// P17.5: two writers by turns: who has the greater epoch fences the other, and finds all that was answered OK.
func TestTurns(t *testing.T) {
	w := worldOf(t, blank(3)...)
	var last *Quorum
	var data []string
	for epoch := 1; epoch <= 30; epoch++ {
		silent := []int{0, 0, 0, 0, 0, 0}
		if epoch%4 > 0 {
			silent[epoch%3], silent[3+epoch%3] = 1+epoch%2, 1+epoch%2
		}
		q := New(w.js, w.m)
		wantBegun(t, "begun", q, epoch, silent, data...)
		for i := range epoch % 3 {
			data = append(data, fmt.Sprint(epoch, " ", i))
			wantWrite(t, "written", q, data[len(data)-1], silent[:3], api.OK)
		}
		if last != nil {
			wantState(t, "it has not heard of it", last, epoch-1, last.Many())
			wantWrite(t, "the other one", last, "lost", nil, api.ErrFence)
			wantOver(t, "the other one", w, last)
		}
		wantRead(t, "read", q, nil, data...)
		last = q
		if t.Failed() {
			return
		}
	}
}

// P17.2: a writer with a lesser epoch can't begin behind one with a greater one; but if that one was heard by no majority, it can.
func TestLesserBegins(t *testing.T) {
	w := worldOf(t, blank(3)...)
	wantError(t, "heard by one", New(w.js, w.m), 9, []int{0, 1, 1}, api.ErrLost)
	p := New(w.js, w.m)
	wantBegun(t, "a lesser one, by the two others", p, 5, nil)
	wantWrite(t, "x", p, "x", nil, api.OK)
	wantBegun(t, "a greater one", New(w.js, w.m), 10, []int{0, 0, 1}, "x")
	wantWrite(t, "y", p, "y", nil, api.ErrFence)
	wantError(t, "one between", New(w.js, w.m), 7, nil, api.ErrFence)
}

// heardBy: fates by which as many nodes are heard as code has digits 1, and the others are not.
func heardBy(n, code, silent int) (fates []int, heard int) {
	for i := range n {
		f := silent
		if code>>i&1 > 0 {
			f, heard = 3*((code+i)%2), heard+1
		}
		fates = append(fates, f)
	}
	return fates, heard
}

// P17.5: what any majority answered OK to is in what Begin finds by any other majority, and by any majority behind that; and so is what one node has that both of them have.
func TestMajoritiesMeet(t *testing.T) {
	for n := 1; n <= 5; n++ {
		for wrote := range 1 << n {
			write, n1 := heardBy(n, wrote, 1)
			for hear := range 1 << n {
				promise, n2 := heardBy(n, hear, 1+wrote%2)
				if 2*n1 <= n || 2*n2 <= n {
					continue
				}
				w := worldOf(t, blank(n)...)
				q := begun(t, w, 1)
				wantWrite(t, "x", q, "x", write, api.OK)
				wantWrite(t, "y", q, "y", promise, errorOf(bits(wrote&hear), n, false))
				wantBegun(t, "the next one", New(w.js, w.m), 2, slices.Concat(promise, write), "x", "y")
				wantBegun(t, "the one behind that", New(w.js, w.m), 3, promise, "x", "y")
				if t.Failed() {
					return
				}
			}
		}
	}
}

func bits(code int) (n int) {
	for ; code > 0; code >>= 1 {
		n += code & 1
	}
	return n
}

// P17.5: what came late stays what it was: it neither takes away nor changes what a majority answered OK to.
func TestLateTakesNothingAway(t *testing.T) {
	w := worldOf(t, at(1, "a"), at(1), at(1))
	late := []int{0, 0, 4, 0, 0, 4}
	p := New(w.js, w.m)
	wantBegun(t, "one", p, 2, late, "a")
	wantWrite(t, "b", p, "b", []int{0, 0, 4}, api.OK)
	wantWrite(t, "c", p, "c", []int{4, 0, 4}, api.ErrLost)
	q := New(w.js, w.m)
	wantBegun(t, "another one", q, 3, []int{0, 1, 0, 4, 0, 0}, "a", "b")
	wantWrite(t, "d", q, "d", []int{4, 0, 0}, api.OK)
	for w.m.Len() > 0 {
		x, _ := w.m.Take(w.m.Len() - 1)
		w.js[x.To].Handle(x.Data)
		w.js[x.To].Handle(x.Data)
		wantRead(t, "something late came", q, []int{1}, "a", "b", "d")
	}
	wantBegun(t, "the last one", New(w.js, w.m), 4, []int{1}, "a", "b", "d")
}

// P17.5: a disk that is full is as one that falls: with a majority that has room edits are written, with none they are not.
func TestDisksFull(t *testing.T) {
	w := worldOf(t, blank(3)...)
	w.ds[2] = disk.New(60)
	w.js[2] = opened(t, w.ds[2])
	q := begun(t, w, 1)
	for i := range 20 {
		wantWrite(t, "two have room", q, fmt.Sprint("edit ", i), nil, api.OK)
	}
	if !w.js[2].Dead() {
		t.Error("it has room for all")
	}
	w.ds[1] = disk.New(0)
	w.js[1] = opened(t, w.ds[1])
	wantError(t, "one has room", New(w.js, w.m), 2, nil, api.ErrLost)
}

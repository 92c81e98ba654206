package quorum

import (
	"encoding/binary"
	"fmt"
	"slices"
	"strings"
	"testing"

	"tabularium/api"
	"tabularium/disk"
	"tabularium/journal"
	"tabularium/mail"
)

const (
	greatest = 1<<53 - 1 // MaxNumber
	plenty   = 1 << 24   // room that no test fills
)

// joining: these texts, joined by the library's own means.
func joining(texts ...string) string {
	out := binary.AppendVarint(nil, int64(len(texts)))
	for _, s := range texts {
		out = append(binary.AppendVarint(out, int64(len(s))), s...)
	}
	return string(out)
}

func num(n int) string { return string(binary.AppendVarint(nil, int64(n))) }

// promising, accepting, adding: the requests.
func promising(epoch int) string { return joining("p", num(epoch)) }

func accepting(epoch int, data ...string) string {
	return joining(append([]string{"a", num(epoch)}, data...)...)
}

func adding(epoch, txid int, data string) string {
	return joining("w", num(epoch), num(txid), data)
}

// has is what a node has: what it promised; its log, by its epoch and its data.
type has struct {
	promised, epoch int
	data            []string
}

// at: what a node has that accepted that log, and promised nothing since.
func at(epoch int, data ...string) has { return has{epoch, epoch, data} }

// after: what a node has that promised so much since.
func (x has) after(promised int) has {
	x.promised = promised
	return x
}

// blank: n nodes that have nothing.
func blank(n int) []has { return make([]has, n) }

// world is nodes, each on a disk of its own, and the mail between.
type world struct {
	js []*journal.Journal
	ds []*disk.Disk
	m  *mail.Mail
}

func opened(t *testing.T, d *disk.Disk) *journal.Journal {
	t.Helper()
	j, e := journal.Open(d)
	if j == nil || e != api.OK {
		t.Fatalf("Open tells error %d", e)
	}
	return j
}

// told: the node is asked, and answers that.
func told(t *testing.T, j *journal.Journal, request string, want api.Errno) {
	t.Helper()
	if _, e := journal.Told(j.Handle(request)); e != want {
		t.Fatalf("%s: error %d, not %d", brief(fmt.Sprintf("%q", request)), e, want)
	}
}

// worldOf: as many nodes, which have that.
func worldOf(t *testing.T, all ...has) world {
	t.Helper()
	w := world{m: mail.New()}
	for _, x := range all {
		d := disk.New(plenty)
		j := opened(t, d)
		if x.epoch > 0 {
			told(t, j, accepting(x.epoch, x.data...), api.OK)
		}
		if x.promised > x.epoch {
			told(t, j, promising(x.promised), api.OK)
		}
		w.js, w.ds = append(w.js, j), append(w.ds, d)
	}
	return w
}

// kill: the power of the node's disk goes at its next call, and the node is dead.
func (w world) kill(t *testing.T, places ...int) {
	t.Helper()
	for _, i := range places {
		w.ds[i].Fuse(1)
		told(t, w.js[i], promising(greatest), api.ErrLost)
	}
}

// show: all that can be seen of the nodes, and of the mail.
func (w world) show() string {
	var out []string
	for _, j := range w.js {
		out = append(out, fmt.Sprint(j.Promised(), j.Log(), j.Dead()))
	}
	return strings.Join(out, "; ") + "; " + onWay(w.m.All())
}

// deliver: the message at that place of the mail comes to its node, which answers that.
func (w world) deliver(t *testing.T, i int, want api.Errno) {
	t.Helper()
	x, ok := w.m.Take(i)
	if !ok {
		t.Fatalf("no message %d", i)
	}
	told(t, w.js[x.To], x.Data, want)
}

// onWay: messages as text.
func onWay(l []api.Message) string {
	var out []string
	for _, x := range l {
		out = append(out, fmt.Sprintf("%d %q", x.To, x.Data))
	}
	return strings.Join(out, ", ")
}

// brief: s, no longer than one cares to read.
func brief(s string) string { return s[:min(len(s), 300)] }

// dataOf: the data of entries that are numbered from 1 on.
func dataOf(t *testing.T, what string, l []api.Entry) []string {
	t.Helper()
	var out []string
	for i, x := range l {
		if x.Txid != i+1 {
			t.Errorf("%s: entry %d has the number %d", what, i, x.Txid)
		}
		out = append(out, x.Data)
	}
	return out
}

// wantNodes: the nodes have that, one by one.
func wantNodes(t *testing.T, what string, w world, all ...has) {
	t.Helper()
	if len(all) != len(w.js) {
		t.Fatalf("%s: %d nodes, not %d", what, len(w.js), len(all))
	}
	for i, j := range w.js {
		l := j.Log()
		got := has{j.Promised(), l.Epoch, dataOf(t, what, l.Entries)}
		x := all[i]
		if got.promised != x.promised || got.epoch != x.epoch || !slices.Equal(got.data, x.data) || j.Dead() {
			t.Errorf("%s: node %d has %s, not %s, dead %v", what, i, brief(fmt.Sprint(got)), brief(fmt.Sprint(x)), j.Dead())
		}
	}
}

// wantMail: these messages are on their way.
func wantMail(t *testing.T, what string, w world, all ...api.Message) {
	t.Helper()
	if got := w.m.All(); !slices.Equal(got, all) {
		t.Errorf("%s: on their way are %s, not %s", what, brief(onWay(got)), brief(onWay(all)))
	}
}

// wantState: what it tells of itself.
func wantState(t *testing.T, what string, q *Quorum, epoch, many int) {
	t.Helper()
	if q.Epoch() != epoch || q.Many() != many {
		t.Errorf("%s: Epoch %d, Many %d, not %d, %d", what, q.Epoch(), q.Many(), epoch, many)
	}
}

// wantOver: it does not write, and never will.
func wantOver(t *testing.T, what string, w world, q *Quorum) {
	t.Helper()
	wantState(t, what, q, 0, 0)
	was := w.show()
	wantWrite(t, what+", over", q, "late", nil, api.ErrState)
	wantError(t, what+", over", q, greatest, nil, api.ErrState)
	wantState(t, what+", asked", q, 0, 0)
	if got := w.show(); got != was {
		t.Errorf("%s: over, and yet it made %s of %s", what, brief(got), brief(was))
	}
}

// wantBegun: it begins, and finds these data.
func wantBegun(t *testing.T, what string, q *Quorum, epoch int, fates []int, data ...string) {
	t.Helper()
	l, e := q.Begin(epoch, fates)
	got := dataOf(t, what, l)
	if e != api.OK || !slices.Equal(got, data) {
		t.Errorf("%s: Begin(%d, %v) answers %s, error %d, not %s", what, epoch, fates, brief(fmt.Sprintf("%q", got)), e, brief(fmt.Sprintf("%q", data)))
	}
	wantState(t, what, q, epoch, len(data))
}

// wantError: Begin answers that error, and nothing else.
func wantError(t *testing.T, what string, q *Quorum, epoch int, fates []int, want api.Errno) {
	t.Helper()
	if l, e := q.Begin(epoch, fates); len(l) > 0 || e != want {
		t.Errorf("%s: Begin(%d, %v) answers %s, error %d, not %d", what, epoch, fates, brief(fmt.Sprint(l)), e, want)
	}
}

func wantWrite(t *testing.T, what string, q *Quorum, data string, fates []int, want api.Errno) {
	t.Helper()
	if e := q.Write(data, fates); e != want {
		t.Errorf("%s: Write(%s, %v) answers error %d, not %d", what, brief(fmt.Sprintf("%q", data)), fates, e, want)
	}
}

// wantRead: these data are read.
func wantRead(t *testing.T, what string, q *Quorum, fates []int, data ...string) {
	t.Helper()
	l, e := q.Read(fates)
	if got := dataOf(t, what, l); e != api.OK || !slices.Equal(got, data) {
		t.Errorf("%s: Read(%v) answers %s, error %d, not %s", what, fates, brief(fmt.Sprintf("%q", got)), e, brief(fmt.Sprintf("%q", data)))
	}
}

// wantNoRead: nothing can be read.
func wantNoRead(t *testing.T, what string, q *Quorum, fates []int) {
	t.Helper()
	if l, e := q.Read(fates); len(l) > 0 || e != api.ErrLost {
		t.Errorf("%s: Read(%v) answers %s, error %d, not %d", what, fates, brief(fmt.Sprint(l)), e, api.ErrLost)
	}
}

// begun: one that has begun with that epoch, all nodes having heard it.
func begun(t *testing.T, w world, epoch int) *Quorum {
	t.Helper()
	q := New(w.js, w.m)
	if _, e := q.Begin(epoch, nil); e != api.OK {
		t.Fatalf("Begin(%d) answers error %d", epoch, e)
	}
	return q
}

// many: as many data, no two alike, of that size if there is room.
func many(n, size int) []string {
	var out []string
	for i := range n {
		out = append(out, strings.Repeat(fmt.Sprint(i+1, "."), size)[:size])
	}
	return out
}

// The chapter's examples.
func TestExamples(t *testing.T) {
	for _, third := range []bool{true, false} {
		w := worldOf(t, blank(3)...)
		q := New(w.js, w.m)
		wantBegun(t, "one", q, 1, nil)
		wantWrite(t, "x", q, "x", nil, api.OK)
		wantWrite(t, "y", q, "y", []int{1, 1}, api.ErrLost)
		if third {
			wantBegun(t, "another one, with the third", New(w.js, w.m), 2, nil, "x", "y")
		} else {
			wantBegun(t, "another one, without the third", New(w.js, w.m), 2, []int{0, 0, 1}, "x")
		}
	}
}

// The whole's examples: three journals, one of which hears nothing, or two; the one that stands by fences the other.
func TestExamplesOfTheWhole(t *testing.T) {
	w := worldOf(t, blank(3)...)
	p, q := New(w.js, w.m), New(w.js, w.m)
	wantBegun(t, "one hears nothing", p, 1, []int{0, 0, 1, 0, 0, 1})
	wantWrite(t, "one hears nothing", p, "x", []int{0, 0, 1}, api.OK)
	wantBegun(t, "the other one", q, 2, nil, "x")
	wantWrite(t, "fenced", p, "y", nil, api.ErrFence)
	wantOver(t, "fenced", w, p)
	wantWrite(t, "two hear nothing", q, "y", []int{0, 1, 1}, api.ErrLost)
	wantOver(t, "two hear nothing", w, q)
}

// P17.1: one that has not begun has no epoch and no edits, with as many nodes as there may be, and New asks nothing of them.
func TestNew(t *testing.T) {
	for n := range 8 {
		w := worldOf(t, slices.Repeat([]has{at(3, "x").after(4)}, n)...)
		was := w.show()
		q := New(w.js, w.m)
		wantState(t, fmt.Sprint(n, " nodes"), q, 0, 0)
		if w.show() != was {
			t.Errorf("%d nodes: New changed them", n)
		}
	}
	wantState(t, "nil", New(nil, mail.New()), 0, 0)
}

// P17.1: Epoch and Many, ahead of Begin, behind it, behind each kind of error, and when it is over.
func TestEpochAndMany(t *testing.T) {
	w := worldOf(t, at(3, "x", "y"), at(3, "x"), at(3))
	q := New(w.js, w.m)
	wantState(t, "ahead of Begin", q, 0, 0)
	wantWrite(t, "ahead of Begin", q, "z", nil, api.ErrState)
	wantError(t, "not an epoch", q, 0, nil, api.ErrArg)
	wantState(t, "behind ErrState and ErrArg", q, 0, 0)
	wantBegun(t, "begun", q, 7, nil, "x", "y")
	for i := range 3 {
		wantWrite(t, "begun", q, "z", []int{i, 0, 0}, api.OK)
		wantState(t, "written", q, 7, 3+i)
	}
	wantError(t, "begun already", q, 8, nil, api.ErrState)
	wantWrite(t, "too long", q, strings.Repeat("d", 601), nil, api.ErrArg)
	wantRead(t, "read", q, nil, "x", "y", "z", "z", "z")
	wantNoRead(t, "read", q, []int{1, 1, 1})
	wantState(t, "behind errors that end nothing", q, 7, 5)
	wantWrite(t, "lost", q, "u", []int{1, 1}, api.ErrLost)
	wantOver(t, "over", w, q)
}

// P17.1, P4: two of them, of the same nodes, have each its own epoch and edits.
func TestEachItsOwn(t *testing.T) {
	w := worldOf(t, blank(3)...)
	p, q := begun(t, w, 1), New(w.js, w.m)
	wantWrite(t, "the one", p, "x", nil, api.OK)
	wantState(t, "the other", q, 0, 0)
	wantBegun(t, "the other", q, 5, nil, "x")
	wantWrite(t, "the other", q, "y", nil, api.OK)
	wantState(t, "the one", p, 1, 1)
	wantState(t, "the other", q, 5, 2)
}

package quorum

import (
	"fmt"
	"math"
	"slices"
	"strings"
	"testing"

	"tabularium/api"
)

// numbers: numbers, and the fates that they tell.
func numbers() map[int]int {
	return map[int]int{
		0: 0, 1: 1, 2: 2, 3: 3, 4: 4,
		5: 0, 6: 1, 7: 2, 8: 3, 9: 4, 10: 0, 11: 1, 104: 4,
		-1: 0, -2: 1, -3: 2, -4: 3, -5: 4, -6: 0, -7: 1, -8: 2, -9: 3, -10: 4, -11: 0, -12: 1, -105: 4,
		math.MaxInt: 2, math.MaxInt - 1: 1, math.MaxInt - 2: 0, math.MaxInt - 3: 4, math.MaxInt - 4: 3,
		math.MinInt: 2, math.MinInt + 1: 1, math.MinInt + 2: 0, math.MinInt + 3: 4, math.MinInt + 4: 3,
		1 << 32: 1, -1 << 32: 0, math.MaxInt32: 2, math.MinInt32: 2,
	}
}

// outcome: what a fate makes of a request: is it handled now, does its answer come, is it on its way?
type outcome struct{ handled, answered, sent bool }

func outcomes() []outcome {
	return []outcome{{true, true, false}, {false, false, false}, {true, false, false}, {true, true, false}, {false, false, true}}
}

// The fates of a promise, told by each number: the first of three nodes, of which the second one hears nothing.
func TestFatesOfPromise(t *testing.T) {
	for c, f := range numbers() {
		x := outcomes()[f]
		w := worldOf(t, blank(3)...)
		what := fmt.Sprint("fate ", c)
		if x.answered {
			wantBegun(t, what, New(w.js, w.m), 5, []int{c, 1, 0, 1})
		} else {
			wantError(t, what, New(w.js, w.m), 5, []int{c, 1, 0, 1}, api.ErrLost)
		}
		if (w.js[0].Promised() == 5) != x.handled || w.js[2].Promised() != 5 {
			t.Errorf("%s: %s", what, w.show())
		}
		if x.sent {
			wantMail(t, what, w, api.Message{To: 0, Data: promising(5)})
		} else {
			wantMail(t, what, w)
		}
	}
}

// The fates of what is taken, told by each number: the third of three nodes, of which the first one hears nothing.
func TestFatesOfAccept(t *testing.T) {
	for c, f := range numbers() {
		x := outcomes()[f]
		w := worldOf(t, at(3, "x", "y"), at(3, "x"), has{})
		what := fmt.Sprint("fate ", c)
		if x.answered {
			wantBegun(t, what, New(w.js, w.m), 5, []int{0, 0, 0, 1, 0, c}, "x", "y")
		} else {
			wantError(t, what, New(w.js, w.m), 5, []int{0, 0, 0, 1, 0, c}, api.ErrLost)
		}
		third := has{promised: 5}
		if x.handled {
			third = at(5, "x", "y")
		}
		wantNodes(t, what, w, at(3, "x", "y").after(5), at(5, "x", "y"), third)
		if x.sent {
			wantMail(t, what, w, api.Message{To: 2, Data: accepting(5, "x", "y")})
		} else {
			wantMail(t, what, w)
		}
	}
}

// The fates of a write, told by each number: the second of three nodes, of which the third one hears nothing.
func TestFatesOfWrite(t *testing.T) {
	for c, f := range numbers() {
		x := outcomes()[f]
		w := worldOf(t, blank(3)...)
		q := begun(t, w, 5)
		wantWrite(t, "x", q, "x", nil, api.OK)
		what := fmt.Sprint("fate ", c)
		want := api.ErrLost
		if x.answered {
			want = api.OK
		}
		wantWrite(t, what, q, "y", []int{0, c, 1}, want)
		second := at(5, "x")
		if x.handled {
			second = at(5, "x", "y")
		}
		wantNodes(t, what, w, at(5, "x", "y"), second, at(5, "x"))
		if x.sent {
			wantMail(t, what, w, api.Message{To: 1, Data: adding(5, 2, "y")})
		} else {
			wantMail(t, what, w)
		}
	}
}

// P17.4: the fates of what is read, told by each number: a node is heard with 0 and 3, and nothing is sent.
func TestFatesOfRead(t *testing.T) {
	w := worldOf(t, at(3, "x"), at(3, "x", "y"), at(3))
	q := New(w.js, w.m)
	was := w.show()
	for c, f := range numbers() {
		what := fmt.Sprint("fate ", c)
		if outcomes()[f].answered {
			wantRead(t, what, q, []int{0, c, 1}, "x")
			wantRead(t, what, q, []int{c, c, c}, "x")
			wantRead(t, what, q, []int{1, 0, c})
		} else {
			wantNoRead(t, what, q, []int{0, c, 1})
			wantNoRead(t, what, q, []int{c, c, c})
			wantRead(t, what, q, []int{c})
		}
	}
	if got := w.show(); got != was {
		t.Errorf("what was read changed %s to %s", was, got)
	}
}

// Where fates end, the fate is 0; those behind the last request count for nothing.
func TestFatesEnd(t *testing.T) {
	for n := range 9 {
		lost := slices.Repeat([]int{1}, n)
		want := api.OK
		if n >= 3 {
			want = api.ErrLost
		}
		w := worldOf(t, blank(5)...)
		q := begun(t, w, 1)
		if l, e := q.Read(lost); e != want || len(l) > 0 {
			t.Errorf("Read, %d lost: error %d, not %d", n, e, want)
		}
		wantWrite(t, fmt.Sprint(n, " lost"), q, "x", lost, want)
		if _, e := New(w.js, w.m).Begin(2, lost); e != want {
			t.Errorf("Begin, %d lost: error %d, not %d", n, e, want)
		}
		if _, e := New(w.js, w.m).Begin(3, append(make([]int, 5), lost...)); e != want {
			t.Errorf("Begin, %d lost of what is taken: error %d, not %d", n, e, want)
		}
		w = worldOf(t, blank(5)...)
		q = New(w.js, w.m)
		wantBegun(t, "fates behind", q, 1, append(make([]int, 10), lost...))
		wantWrite(t, "fates behind", q, "x", append(make([]int, 5), lost...), api.OK)
		wantRead(t, "fates behind", q, append(make([]int, 5), lost...), "x")
	}
}

// The fates of what is taken stand behind as many as there are nodes that are spoken to.
func TestFatesGoOn(t *testing.T) {
	for n := 1; n <= 7; n++ {
		spoken := min(n, 5)
		for at := range spoken {
			fates := make([]int, 2*n)
			fates[spoken+at] = 4
			w := worldOf(t, blank(n)...)
			New(w.js, w.m).Begin(1, fates)
			wantMail(t, fmt.Sprint(n, " nodes, late for ", at), w, api.Message{To: at, Data: accepting(1)})
		}
	}
}

// Late requests are sent in the order of the nodes, those of a promise ahead of what is taken, each to its node's place.
func TestLateInOrder(t *testing.T) {
	w := worldOf(t, blank(5)...)
	late := []int{4, 4, 4, 4, 4}
	wantError(t, "all late", New(w.js, w.m), 3, late, api.ErrLost)
	var want []api.Message
	for i := range 5 {
		want = append(want, api.Message{To: i, Data: promising(3)})
	}
	wantMail(t, "promises", w, want...)
	wantNodes(t, "promises", w, blank(5)...)
	q := New(w.js, w.m)
	wantBegun(t, "two late, and two", q, 4, []int{0, 4, 0, 4, 0, 4, 0, 4})
	wantWrite(t, "one late", q, "x", []int{0, 0, 4}, api.OK)
	wantWrite(t, "all late", q, "y", late, api.ErrLost)
	want = append(want, api.Message{To: 1, Data: promising(4)}, api.Message{To: 3, Data: promising(4)},
		api.Message{To: 0, Data: accepting(4)}, api.Message{To: 2, Data: accepting(4)}, api.Message{To: 2, Data: adding(4, 1, "x")})
	for i := range 5 {
		want = append(want, api.Message{To: i, Data: adding(4, 2, "y")})
	}
	wantMail(t, "all", w, want...)
}

// What stood in the mail stays there, ahead of what is sent.
func TestLateBehind(t *testing.T) {
	w := worldOf(t, blank(1)...)
	w.m.Send(api.Message{To: 7, Data: "other"})
	wantError(t, "late", New(w.js, w.m), 1, []int{4}, api.ErrLost)
	wantMail(t, "late", w, api.Message{To: 7, Data: "other"}, api.Message{To: 0, Data: promising(1)})
}

// A late request that the mail does not take, being full, is lost.
func TestLateMailFull(t *testing.T) {
	for there := 46; there <= 50; there++ {
		w := worldOf(t, at(1, "x"), at(1, "x"), at(1, "x"))
		want := slices.Repeat([]api.Message{{To: 9, Data: "other"}}, there)
		for _, x := range want {
			w.m.Send(x)
		}
		what := fmt.Sprint(there, " on their way")
		wantError(t, what, New(w.js, w.m), 2, []int{4, 4, 4}, api.ErrLost)
		for i := range min(3, 50-there) {
			want = append(want, api.Message{To: i, Data: promising(2)})
		}
		wantMail(t, what, w, want...)
		wantNodes(t, what, w, at(1, "x"), at(1, "x"), at(1, "x"))
	}
	w := worldOf(t, blank(3)...)
	for range 50 {
		w.m.Send(api.Message{})
	}
	q := New(w.js, w.m)
	wantBegun(t, "full, one late, and one", q, 1, []int{4, 0, 0, 0, 0, 4})
	wantWrite(t, "full, one late", q, "x", []int{0, 0, 4}, api.OK)
	wantWrite(t, "full, two late", q, "y", []int{0, 4, 4}, api.ErrLost)
	wantMail(t, "full", w, make([]api.Message, 50)...)
	wantNodes(t, "full", w, at(1, "x", "y"), at(1, "x"), has{promised: 1})
}

// A late request of MaxText bytes is sent; a longer one the mail does not take.
func TestLateMailLong(t *testing.T) {
	data := append(many(6, 600), strings.Repeat("e", 375))
	for len(accepting(2, data...)) < api.MaxText {
		data[6] += "e"
	}
	for more := range 3 {
		w := worldOf(t, at(1, data...), has{}, has{})
		request := accepting(2, data...)
		if len(request) != api.MaxText+more {
			t.Fatalf("the request has %d bytes", len(request))
		}
		wantBegun(t, "one late", New(w.js, w.m), 2, []int{0, 0, 0, 0, 0, 4}, data...)
		if more == 0 {
			wantMail(t, "MaxText bytes", w, api.Message{To: 2, Data: request})
			w.deliver(t, 0, api.OK)
			wantNodes(t, "MaxText bytes", w, at(2, data...), at(2, data...), at(2, data...))
		} else {
			wantMail(t, "more bytes", w)
		}
		data[6] += "e"
	}
}

// A late promise: when it comes, it is kept, and fences who writes; behind a greater one, or the same, it is refused.
func TestLatePromiseComes(t *testing.T) {
	w := worldOf(t, blank(3)...)
	p := begun(t, w, 1)
	wantWrite(t, "x", p, "x", nil, api.OK)
	wantError(t, "late", New(w.js, w.m), 3, []int{4, 4, 4}, api.ErrLost)
	wantWrite(t, "y", p, "y", nil, api.OK)
	w.deliver(t, 0, api.OK)
	wantWrite(t, "two have not heard of it", p, "z", nil, api.OK)
	wantNodes(t, "one promised", w, at(1, "x", "y").after(3), at(1, "x", "y", "z"), at(1, "x", "y", "z"))
	w.deliver(t, 0, api.OK)
	wantWrite(t, "two promised", p, "u", nil, api.ErrFence)
	wantNodes(t, "two promised", w, at(1, "x", "y").after(3), at(1, "x", "y", "z").after(3), at(1, "x", "y", "z", "u"))
	wantBegun(t, "a greater one", New(w.js, w.m), 4, []int{0, 0, 1}, "x", "y", "z")
	w.deliver(t, 0, api.ErrFence)
	wantNodes(t, "it comes at last", w, at(4, "x", "y", "z"), at(4, "x", "y", "z"), at(4, "x", "y", "z"))
}

// A late log: when it comes, the node has it, unless it promised a greater epoch; behind edits of that epoch it takes none of them away.
func TestLateAcceptComes(t *testing.T) {
	w := worldOf(t, at(1, "x"), at(1, "x"), at(1, "y"))
	q := New(w.js, w.m)
	wantBegun(t, "one late", q, 3, []int{0, 0, 0, 0, 0, 4}, "x")
	wantWrite(t, "a", q, "a", nil, api.OK)
	wantNodes(t, "not there yet", w, at(3, "x", "a"), at(3, "x", "a"), at(1, "y").after(3))
	w.m.Twin(0)
	w.m.Twin(0)
	w.deliver(t, 0, api.OK)
	wantNodes(t, "there", w, at(3, "x", "a"), at(3, "x", "a"), at(3, "x"))
	wantWrite(t, "b, which the third one misses an edit for", q, "b", []int{1}, api.ErrLost)
	wantNodes(t, "there", w, at(3, "x", "a"), at(3, "x", "a", "b"), at(3, "x"))
	told(t, w.js[2], adding(3, 2, "a"), api.OK)
	w.deliver(t, 0, api.OK)
	wantNodes(t, "twice", w, at(3, "x", "a"), at(3, "x", "a", "b"), at(3, "x", "a"))
	wantBegun(t, "a greater one", New(w.js, w.m), 4, nil, "x", "a", "b")
	w.deliver(t, 0, api.ErrFence)
	wantNodes(t, "fenced", w, at(4, "x", "a", "b"), at(4, "x", "a", "b"), at(4, "x", "a", "b"))
}

// A late edit: when it comes, the node has it, as long as nobody else has begun, and none is missing ahead of it.
func TestLateAddComes(t *testing.T) {
	w := worldOf(t, blank(3)...)
	q := begun(t, w, 1)
	wantWrite(t, "x", q, "x", []int{0, 0, 4}, api.OK)
	wantWrite(t, "y", q, "y", []int{0, 0, 4}, api.OK)
	wantNodes(t, "late", w, at(1, "x", "y"), at(1, "x", "y"), at(1))
	told(t, w.js[2], w.m.All()[1].Data, api.ErrGap)
	w.deliver(t, 0, api.OK)
	w.m.Twin(0)
	w.deliver(t, 0, api.OK)
	w.deliver(t, 0, api.OK)
	wantNodes(t, "there", w, at(1, "x", "y"), at(1, "x", "y"), at(1, "x", "y"))
	wantWrite(t, "z", q, "z", []int{4, 4, 4}, api.ErrLost)
	w.deliver(t, 1, api.OK)
	wantNodes(t, "z, when it is over", w, at(1, "x", "y"), at(1, "x", "y", "z"), at(1, "x", "y"))
	wantBegun(t, "a greater one", New(w.js, w.m), 2, nil, "x", "y", "z")
	w.deliver(t, 0, api.ErrFence)
	w.deliver(t, 0, api.ErrFence)
	wantNodes(t, "fenced", w, at(2, "x", "y", "z"), at(2, "x", "y", "z"), at(2, "x", "y", "z"))
}

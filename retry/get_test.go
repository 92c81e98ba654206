package retry

import (
	"math"
	"testing"

	"tabularium/api"
)

// P13.2: each call that is there, that is gone, and that never was, with its edit and with others.
func TestGet(t *testing.T) {
	l := mixed(30)
	c := filled(t, l...)
	for i, e := range l {
		other := e
		other.Path = "/b"
		if i < 30-room {
			wantGone(t, c, e)
			wantGone(t, c, other)
			continue
		}
		wantThere(t, c, e, number(i))
		wantState(t, c, e.Client, e.Call, other)
		wantState(t, c, e.Client, e.Call, block(e.Client, e.Call))
		wantThere(t, c, e, number(i))
	}
	for client := range 4 {
		for _, call := range []int{0, 1, 900, 1001, greatest} {
			wantGone(t, c, of(client, call))
		}
	}
	wantLen(t, c, room)
}

// P13.2: of a call that is not there nothing is told, whatever edit is asked: one that is not right, of another client, of another call.
func TestGetOfNone(t *testing.T) {
	c := filled(t, of(1, 8), of(2, 7))
	none := func(client, call int, e api.Edit) {
		t.Helper()
		wantGet(t, c, client, call, e, api.Answer{}, false, api.OK)
	}
	for _, e := range wrongs() {
		none(1, 7, e)
		none(3, 9, e)
		none(e.Client, e.Call+2, e)
	}
	none(1, 7, of(1, 8))
	none(1, 7, of(2, 7))
	none(2, 8, of(2, 7))
	none(2, 8, of(1, 8))
	none(8, 1, of(1, 8))
	for _, n := range []int{math.MinInt, -1, 4, greatest + 1, 1<<32 + 1, math.MaxInt} {
		none(n, 8, of(1, 8))
		none(n, 8, of(n, 8))
		none(1, n, of(1, 8))
		none(1, n, of(1, n))
		none(n, n, api.Edit{})
	}
	wantOrder(t, c, of(1, 8), of(2, 7))
}

// P13.2: of a call that is there any other edit is refused: one that is not right, of another client, of another call.
func TestGetWithNotItsEdit(t *testing.T) {
	c := filled(t, of(1, 7), of(2, 7), of(1, 8))
	for _, e := range wrongs() {
		wantState(t, c, 1, 7, e)
	}
	wantState(t, c, 1, 7, of(2, 7))
	wantState(t, c, 1, 7, of(0, 7))
	wantState(t, c, 1, 7, of(1, 8))
	wantState(t, c, 1, 7, of(1, 6))
	wantState(t, c, 2, 7, of(1, 7))
	wantState(t, c, 1, 8, of(1, 7))
	wantThere(t, c, of(1, 7), number(0))
	wantOrder(t, c, of(1, 7), of(2, 7), of(1, 8))
}

// P13.2: an answer of nothing is told, too: the bool tells that it is there.
func TestGetNothing(t *testing.T) {
	c := New()
	put(t, c, of(0, 0), api.Answer{})
	wantThere(t, c, of(0, 0), api.Answer{})
	wantState(t, c, 0, 0, api.Edit{})
	wantGone(t, c, of(0, 1))
}

// P13.2: Len behind each step.
func TestLen(t *testing.T) {
	c := New()
	wantLen(t, c, 0)
	put(t, c, of(1, 1), number(0))
	wantLen(t, c, 1)
	put(t, c, of(1, 1), number(1))
	wantLen(t, c, 1)
	put(t, c, of(2, 1), number(2))
	wantLen(t, c, 2)
	c.Put(2, 1, block(2, 1), number(3))
	wantLen(t, c, 2)
	c.Put(2, 2, of(2, 1), number(3))
	wantLen(t, c, 2)
	c.Get(2, 1, of(2, 1))
	c.Get(2, 2, of(2, 2))
	wantLen(t, c, 2)
	c.Forget(1, 1)
	wantLen(t, c, 2)
	c.Forget(1, 2)
	wantLen(t, c, 1)
	for i := range 30 {
		put(t, c, of(3, i), number(i))
		wantLen(t, c, min(i+2, 20))
	}
	c.Forget(3, 15)
	wantLen(t, c, 15)
	c.Forget(3, math.MaxInt)
	wantLen(t, c, 0)
}

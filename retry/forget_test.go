package retry

import (
	"math"
	"slices"
	"testing"

	"tabularium/api"
)

// wantForgotten: behind Forget(client, below) those of l are there, in their order, that are another client's or have another number.
func wantForgotten(t *testing.T, l []api.Edit, client, below int) {
	t.Helper()
	c := filled(t, l...)
	c.Forget(client, below)
	var left []api.Edit
	for i, e := range l {
		if e.Client == client && e.Call < below {
			wantGone(t, c, e)
			continue
		}
		wantThere(t, c, e, number(i))
		left = append(left, e)
	}
	wantOrder(t, c, left...)
	if t.Failed() {
		t.Fatalf("behind Forget(%d, %d)", client, below)
	}
}

// P13.2: below the least number, at it, between two, at the greatest one and above it; the least int and the greatest one.
func TestForget(t *testing.T) {
	l := []api.Edit{of(1, 10), of(1, 3), of(1, 7), of(1, 20), of(1, 8)}
	for _, below := range []int{math.MinInt, -1, 0, 2, 3, 4, 5, 7, 8, 9, 10, 11, 15, 20, 21, 1000, greatest, math.MaxInt} {
		wantForgotten(t, l, 1, below)
	}
}

// P13.2: at the edges of a call's number.
func TestForgetAtEdges(t *testing.T) {
	l := []api.Edit{of(2, greatest), of(2, 0), of(2, greatest-1), of(2, 1)}
	for _, below := range []int{math.MinInt, -1, 0, 1, 2, greatest - 1, greatest, greatest + 1, math.MaxInt} {
		wantForgotten(t, l, 2, below)
	}
}

// P13.2: only that client's are gone: of all clients with the same numbers, and of clients that are none.
func TestForgetOfOneClient(t *testing.T) {
	var l []api.Edit
	for call := range 5 {
		for client := range 4 {
			l = append(l, of(client, call))
		}
	}
	for _, client := range []int{math.MinInt, -1, 0, 1, 2, 3, 4, 5, 1 << 32, 1<<32 + 1, math.MaxInt} {
		for _, below := range []int{math.MinInt, 0, 1, 3, 4, 5, math.MaxInt} {
			wantForgotten(t, l, client, below)
		}
	}
}

// P13.2: of a client that has none, while others have, nothing is gone.
func TestForgetOfNone(t *testing.T) {
	l := []api.Edit{of(1, 0), of(3, 5), of(1, 9)}
	for _, client := range []int{0, 2, -1, 4} {
		c := filled(t, l...)
		for _, below := range []int{math.MinInt, 0, 6, 10, math.MaxInt} {
			c.Forget(client, below)
			wantLen(t, c, 3)
		}
		wantOrder(t, c, l...)
	}
}

// P13.2: a full cache, of one client and of several.
func TestForgetInFull(t *testing.T) {
	for below := range room + 2 {
		wantForgotten(t, run(0, 0, room), 0, below)
	}
	for below := 995; below <= 1001; below++ {
		wantForgotten(t, mixed(room), 2, below)
	}
}

// P13.2: what was forgotten once is not forgotten twice: again, and with less.
func TestForgetAgain(t *testing.T) {
	c := filled(t, run(1, 0, 10)...)
	for _, below := range []int{4, 4, 2, math.MinInt, 5, 0} {
		c.Forget(1, below)
	}
	wantOrder(t, c, run(1, 5, 5)...)
}

// P13.1, P13.2: a call that was forgotten may be put anew, also with another edit, and is the newest one; Forget says nothing of what comes behind it.
func TestPutBehindForget(t *testing.T) {
	for _, again := range []api.Edit{of(1, 2), block(1, 2, 5)} {
		l := run(1, 0, 6)
		c := filled(t, l...)
		c.Forget(1, 4)
		wantGone(t, c, again)
		put(t, c, again, number(99))
		wantThere(t, c, again, number(99))
		wantLen(t, c, 3)
		other := again
		other.Path = "/other"
		want(t, "another edit", c.Put(1, 2, other, number(0)), api.ErrState)
		wantOrder(t, c, l[4], l[5], again)
	}
}

// P13.1, P13.2: what is forgotten leaves room; the oldest one of those that are left goes first when it is used up.
func TestForgetLeavesRoom(t *testing.T) {
	var l []api.Edit
	for i := range room {
		l = append(l, of(i%2, i))
	}
	c := filled(t, l...)
	c.Forget(0, 10) // 0, 2, 4, 6, 8
	left := slices.DeleteFunc(slices.Clone(l), func(e api.Edit) bool { return e.Client == 0 && e.Call < 10 })
	wantLen(t, c, 15)
	for i := range 5 {
		e := of(3, i)
		put(t, c, e, number(i))
		left = append(left, e)
		wantLen(t, c, 16+i)
	}
	for _, e := range left {
		if _, ok, _ := c.Get(e.Client, e.Call, e); !ok {
			t.Errorf("the call %d of %d is gone", e.Call, e.Client)
		}
	}
	wantOrder(t, c, left...)
}

// P13.2: with all forgotten it is as a new one.
func TestForgetAll(t *testing.T) {
	l := mixed(room)
	c := filled(t, l...)
	for client := range 4 {
		c.Forget(client, math.MaxInt)
		wantLen(t, c, room-(client+1)*room/4)
	}
	for _, e := range l {
		wantGone(t, c, e)
	}
	wantOrder(t, c)
}

// P13.1, P13.2: a call that is put again ahead of a Forget stays or goes by its number, not by its age.
func TestForgetIsNotByAge(t *testing.T) {
	l := run(1, 0, 6)
	c := filled(t, l...)
	put(t, c, l[0], number(99))
	put(t, c, l[4], number(99))
	c.Forget(1, 3)
	wantGone(t, c, l[0])
	wantOrder(t, c, l[3], l[5], l[4])
}

package retry

import (
	"slices"
	"testing"

	"tabularium/api"
)

// P13.1: as many calls as there may be are all there; with each one more the oldest one is gone, of one client and of several, whether their numbers rise or fall.
func TestOldestGoes(t *testing.T) {
	falling := run(2, 500, 120)
	slices.Reverse(falling)
	for what, l := range map[string][]api.Edit{
		"one client, rising":  run(1, 0, 120),
		"one client, falling": falling,
		"several clients":     mixed(120),
		"the greatest":        run(3, greatest-119, 120),
	} {
		c := New()
		for i, e := range l {
			put(t, c, e, number(i))
			wantLen(t, c, min(i+1, room))
			for k, x := range l {
				if k > i || k <= i-room {
					wantGone(t, c, x)
				} else {
					wantThere(t, c, x, number(k))
				}
			}
			if t.Failed() {
				t.Fatalf("%s: behind call %d", what, i)
			}
		}
		wantOrder(t, c, l[len(l)-room:]...)
	}
}

// P13.1: at each number of calls, nothing is gone as long as there are at most as many as there may be.
func TestOrderOfFew(t *testing.T) {
	for many := range room + 1 {
		l := mixed(many)
		wantOrder(t, filled(t, l...), l...)
	}
}

// P13.1: in a full cache one that is put again takes no other one's room, and the one behind the oldest one goes first then.
func TestPutAgainInFull(t *testing.T) {
	for which := range room {
		l := mixed(room)
		c := filled(t, l...)
		put(t, c, l[which], number(99))
		wantLen(t, c, room)
		for i, e := range l {
			if i == which {
				wantThere(t, c, e, number(99))
			} else {
				wantThere(t, c, e, number(i))
			}
		}
		again := l[which]
		wantOrder(t, c, append(slices.Delete(l, which, which+1), again)...)
	}
}

// P13.1: one that is put again whenever it would be the next one to go stays, however many others come; with no Put more it goes in its turn.
func TestPutAgainStays(t *testing.T) {
	c := New()
	stays := block(2, 3, 5)
	put(t, c, stays, number(0))
	newest := 0
	for i := range 200 {
		put(t, c, of(1, i), number(i))
		if i%(room-1) == room-2 {
			newest = i
			put(t, c, stays, number(newest))
		}
		wantThere(t, c, stays, number(newest))
		wantLen(t, c, min(i+2, room))
	}
	behind := 199 - newest
	for i := range room - 1 - behind {
		put(t, c, of(0, i), number(i))
		wantThere(t, c, stays, number(newest))
	}
	put(t, c, of(0, 100), number(100))
	wantGone(t, c, stays)
}

// P13.1: the order is that of each call's last Put, whichever ones were put again, and how often.
func TestOrderOfSomePutAgain(t *testing.T) {
	l := mixed(8)
	c := filled(t, l...)
	for _, i := range []int{3, 0, 3, 3, 7, 5, 0} {
		put(t, c, l[i], number(100+i))
	}
	wantLen(t, c, 8)
	for i, e := range l {
		switch i {
		case 0, 3, 5, 7:
			wantThere(t, c, e, number(100+i))
		default:
			wantThere(t, c, e, number(i))
		}
	}
	wantOrder(t, c, l[1], l[2], l[4], l[6], l[3], l[7], l[5], l[0])
}

// P13.1: many calls, each one put again behind some others: which ones are gone then.
func TestManyWithSomePutAgain(t *testing.T) {
	c := New()
	l := run(1, 0, 100)
	var order []api.Edit // by their last Put
	touch := func(e api.Edit, n int) {
		put(t, c, e, number(n))
		order = append(slices.DeleteFunc(order, func(x api.Edit) bool { return x.Call == e.Call }), e)
		if len(order) > 20 {
			wantGone(t, c, order[0])
			order = order[1:]
		}
		wantLen(t, c, len(order))
	}
	for i := range l {
		touch(l[i], i)
		if i%3 == 2 {
			touch(l[i-2], i-2)
		}
		if i%7 == 6 && i > 15 {
			touch(order[0], order[0].Call) // the oldest one of all, which would go with the next
		}
		for _, e := range order {
			wantThere(t, c, e, number(e.Call))
		}
	}
	wantOrder(t, c, order...)
}

// P13.1: a call that is gone may be put again, with its edit or another one, and is the newest one.
func TestPutBehindGone(t *testing.T) {
	for _, again := range []api.Edit{of(1, 0), block(1, 0, 5)} {
		l := run(1, 0, room+1)
		c := filled(t, l...)
		wantGone(t, c, again)
		put(t, c, again, number(99))
		wantLen(t, c, room)
		wantThere(t, c, again, number(99))
		wantGone(t, c, l[1])
		wantOrder(t, c, append(l[2:], again)...)
	}
}

// P13.1: what is refused in a full cache makes nobody go.
func TestRefusedInFull(t *testing.T) {
	l := mixed(room)
	c := filled(t, l...)
	for _, e := range wrongs() {
		want(t, "not right", c.Put(e.Client, e.Call, e, number(99)), api.ErrArg)
	}
	want(t, "another client", c.Put(0, 5, of(1, 5), number(99)), api.ErrArg)
	want(t, "another call", c.Put(0, 5, of(0, 6), number(99)), api.ErrArg)
	for _, e := range l {
		want(t, "another edit", c.Put(e.Client, e.Call, block(e.Client, e.Call), number(99)), api.ErrState)
	}
	for i, e := range l {
		wantThere(t, c, e, number(i))
	}
	wantOrder(t, c, l...)
}

// P13.2: Get makes nothing newer, whatever it tells and however often.
func TestGetMakesNothingNewer(t *testing.T) {
	for many := 1; many <= room; many++ {
		l := mixed(many)
		c := filled(t, l...)
		for i := range l {
			e := l[len(l)-1-i]
			wantThere(t, c, e, number(len(l)-1-i))
			wantState(t, c, e.Client, e.Call, block(e.Client, e.Call, 1))
		}
		for range 50 {
			wantThere(t, c, l[0], number(0))
		}
		wantGone(t, c, of(0, 5))
		wantOrder(t, c, l...)
	}
}

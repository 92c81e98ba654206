package mail

import (
	"math"
	"testing"

	"tabularium/api"
)

// P5.2: the chapter's example.
func TestAgeExample(t *testing.T) {
	m := sent(t, a)
	wantAge(t, m, 2, 0)
	want(t, "Send", m.Send(b), api.OK)
	wantAge(t, m, 2, 0)
	wantAge(t, m, 2, 1)
	wantAll(t, m, b)
}

// P5.2: with ticks below 1 all are gone, however young.
func TestAgeBelowOne(t *testing.T) {
	for _, ticks := range []int{0, -1, -2, math.MinInt} {
		m := sent(t, a, b)
		wantAge(t, m, 5, 0)
		want(t, "Send", m.Send(c), api.OK)
		want(t, "Twin", m.Twin(0), api.OK)
		wantAge(t, m, ticks, 4)
		wantAll(t, m)
		wantAge(t, m, ticks, 0)
		full := sent(t, numbered(50)...)
		wantAge(t, full, ticks, 50)
		wantAll(t, full)
	}
}

// P5.2: with 1 those are gone that were there at the call ahead, and not those that were sent between the two.
func TestAgeOne(t *testing.T) {
	m := sent(t, a, b)
	wantAge(t, m, 1, 0)
	wantAll(t, m, a, b)
	want(t, "Send", m.Send(c), api.OK)
	wantAge(t, m, 1, 2)
	wantAll(t, m, c)
	wantAge(t, m, 1, 1)
	wantAll(t, m)
}

// P5.2: with n ticks one is gone at the call that has n ahead of it, at which it was there; not at one less.
func TestAgeMany(t *testing.T) {
	for n := 1; n <= 60; n++ {
		m := sent(t, a)
		for range n {
			wantAge(t, m, n, 0)
			wantAll(t, m, a)
		}
		wantAge(t, m, n, 1)
		wantAll(t, m)
	}
}

// P5.2: with more ticks than there were calls nothing is gone; those calls count all the same.
func TestAgeMoreThanCalls(t *testing.T) {
	m := sent(t, a, b)
	for _, ticks := range []int{1, 2, 3, 4, 100, math.MaxInt} {
		wantAge(t, m, ticks, 0)
	}
	wantAll(t, m, a, b)
	wantAge(t, m, 7, 0)
	wantAge(t, m, 7, 2)
}

// P5.2: calls ahead of a message's sending are none of its age.
func TestAgeAheadOfSend(t *testing.T) {
	m := New()
	for range 5 {
		wantAge(t, m, 3, 0)
	}
	want(t, "Send", m.Send(a), api.OK)
	wantAge(t, m, 1, 0)
	wantAge(t, m, 2, 0)
	wantAge(t, m, 3, 0)
	wantAge(t, m, 3, 1)
}

// P5.2: those that were sent between two calls have an age of their own, and stay in their order when others between them go.
func TestAgeBetween(t *testing.T) {
	l := numbered(6)
	m := New()
	for i := range l {
		want(t, "Send", m.Send(l[i]), api.OK)
		wantAge(t, m, 10, 0)
	}
	// The i-th has been there at 6 - i calls.
	wantAge(t, m, 6, 1)
	wantAll(t, m, l[1:]...)
	wantAge(t, m, 5, 2)
	wantAll(t, m, l[3:]...)
	want(t, "Send", m.Send(a), api.OK)
	wantAge(t, m, 1, 3)
	wantAll(t, m, a)
}

// P5.2: how many ticks are asked may be another number at each call: all calls count.
func TestAgeOtherTicks(t *testing.T) {
	m := sent(t, a)
	wantAge(t, m, 3, 0)
	want(t, "Send", m.Send(b), api.OK)
	wantAge(t, m, 9, 0)
	want(t, "Send", m.Send(c), api.OK)
	wantAge(t, m, 2, 1)
	wantAll(t, m, b, c)
	wantAge(t, m, 1, 2)
	wantAll(t, m)
}

// P5.2: a twin is as old as it is itself, and what it is a twin of stays as old as it was; a twin's twin, too.
func TestAgeOfTwin(t *testing.T) {
	m := sent(t, a)
	wantAge(t, m, 2, 0)
	want(t, "Send", m.Send(b), api.OK)
	want(t, "Twin(0)", m.Twin(0), api.OK)
	wantAge(t, m, 2, 0)
	want(t, "Twin(2)", m.Twin(2), api.OK)
	wantAll(t, m, a, b, a, a)
	wantAge(t, m, 2, 1)
	wantAll(t, m, b, a, a)
	wantAge(t, m, 2, 2)
	wantAll(t, m, a)
	wantAge(t, m, 2, 1)
	wantAll(t, m)
}

// P5.2: ages go along with their messages when one ahead of them is taken.
func TestAgeBehindTake(t *testing.T) {
	m := sent(t, a)
	wantAge(t, m, 9, 0)
	want(t, "Send", m.Send(b), api.OK)
	wantAge(t, m, 9, 0)
	want(t, "Send", m.Send(c), api.OK)
	wantTake(t, m, 0, a)
	wantAge(t, m, 2, 0)
	wantAge(t, m, 2, 1)
	wantAll(t, m, c)
}

// P5.2: one that was taken and is sent again is as old as its sending.
func TestAgeSentAgain(t *testing.T) {
	m := sent(t, a, b)
	wantAge(t, m, 1, 0)
	wantTake(t, m, 0, a)
	want(t, "Send", m.Send(a), api.OK)
	wantAge(t, m, 1, 1)
	wantAll(t, m, a)
}

// P2, P5.2: what is refused, and what only asks, makes nothing older or younger.
func TestAgeBehindRefused(t *testing.T) {
	l := numbered(50)
	m := sent(t, l...)
	wantAge(t, m, 2, 0)
	want(t, "Send", m.Send(a), api.ErrLong)
	want(t, "Twin(0)", m.Twin(0), api.ErrLong)
	want(t, "Twin(50)", m.Twin(50), api.ErrNone)
	wantNoTake(t, m, 50)
	wantNoTake(t, m, -1)
	wantAll(t, m, l...)
	wantAge(t, m, 2, 0)
	wantAge(t, m, 2, 50)
}

// P5.1, P5.2: what age took leaves room for 50 again.
func TestAgeLeavesRoom(t *testing.T) {
	l := numbered(50)
	m := sent(t, l[:30]...)
	wantAge(t, m, 1, 0)
	for _, x := range l[30:] {
		want(t, "Send", m.Send(x), api.OK)
	}
	want(t, "the 51st", m.Send(a), api.ErrLong)
	wantAge(t, m, 1, 30)
	wantAll(t, m, l[30:]...)
	for range 30 {
		want(t, "Send", m.Send(a), api.OK)
	}
	want(t, "the 51st", m.Send(a), api.ErrLong)
	if m.Len() != 50 {
		t.Errorf("Len() = %d", m.Len())
	}
}

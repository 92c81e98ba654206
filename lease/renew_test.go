package lease

import (
	"slices"
	"testing"

	"tabularium/api"
)

// P9.1: a client that had none has one: alone, ahead of all, between two, behind all.
func TestRenewNew(t *testing.T) {
	for client := range 4 {
		wantRenew(t, nil, client, 5, of(client, 15))
		wantRenew(t, []api.Lease{}, client, 5, of(client, 15))
	}
	wantRenew(t, list(of(1, 5), of(2, 99), of(3, 0)), 0, 5, of(0, 15), of(1, 5), of(2, 99), of(3, 0))
	wantRenew(t, list(of(0, 5), of(2, 99), of(3, 0)), 1, 5, of(0, 5), of(1, 15), of(2, 99), of(3, 0))
	wantRenew(t, list(of(0, 5), of(1, 99), of(3, 0)), 2, 5, of(0, 5), of(1, 99), of(2, 15), of(3, 0))
	wantRenew(t, list(of(0, 5), of(1, 99), of(2, 0)), 3, 5, of(0, 5), of(1, 99), of(2, 0), of(3, 15))
	wantRenew(t, list(of(0, 5), of(3, 0)), 1, 5, of(0, 5), of(1, 15), of(3, 0))
	wantRenew(t, list(of(0, 5), of(3, 0)), 2, 5, of(0, 5), of(2, 15), of(3, 0))
	wantRenew(t, list(of(3, 99)), 0, 5, of(0, 15), of(3, 99))
	wantRenew(t, list(of(0, 99)), 3, 5, of(0, 99), of(3, 15))
}

// P9.1: of one that has a lease it lasts longer, if it would have ended earlier; at the same, and at a later one, it stays.
func TestRenewAgain(t *testing.T) {
	for client := range 4 {
		for _, was := range []int{0, 1, 13, 14, 15, 16, 17, latest, greatest} {
			l := list(of(0, 3), of(1, 99), of(2, 4), of(3, 98))
			l[client].Until = was
			want := slices.Clone(l)
			want[client].Until = max(was, 15)
			wantRenew(t, l, client, 5, want...)
			wantRenew(t, l[client:client+1], client, 5, want[client])
		}
	}
}

// P9.1: one that is late already gets a lease again.
func TestRenewLate(t *testing.T) {
	l := list(of(1, 3), of(2, 3))
	wantLate(t, l, 50, 1, 2)
	l, _ = Renew(l, 2, 50)
	wantLate(t, l, 50, 1)
	wantLate(t, l, 60, 1)
	wantLate(t, l, 61, 1, 2)
}

// P9.1: now may be 0 to MaxNumber less LeaseTicks.
func TestRenewNow(t *testing.T) {
	for client := range 4 {
		wantRenew(t, nil, client, 0, of(client, 10))
		wantRenew(t, nil, client, 1, of(client, 11))
		wantRenew(t, nil, client, latest-1, of(client, greatest-1))
		wantRenew(t, nil, client, latest, of(client, greatest))
		wantRenew(t, list(of(client, greatest)), client, latest, of(client, greatest))
		wantRenew(t, list(of(client, greatest-1)), client, latest, of(client, greatest))
	}
}

// P9.1, P6: another now is refused, also where the lease would stay as it is.
func TestRenewNoNow(t *testing.T) {
	for _, now := range someNows() {
		if now >= 0 && now <= latest {
			continue
		}
		for client := range 4 {
			wantNoRenew(t, nil, client, now)
			for _, l := range rights() {
				wantNoRenew(t, l, client, now)
			}
		}
	}
}

// P9.1, P6: what is no client is refused.
func TestRenewNoClient(t *testing.T) {
	for _, client := range noClients() {
		for _, l := range rights() {
			for _, now := range []int{0, 5, latest} {
				wantNoRenew(t, l, client, now)
			}
		}
	}
}

// P9.1: what comes is right, the others' leases are as they were, and what was not there ahead is gone by Drop.
func TestRenewKeepsRight(t *testing.T) {
	for _, l := range rights() {
		for client := range 4 {
			for _, now := range []int{0, 1, 5, latest} {
				got, e := Renew(l, client, now)
				if e != api.OK || !Right(got) {
					t.Fatalf("Renew(%v, %d, %d) = %v, %d", l, client, now, got, e)
				}
				others, _ := Drop(l, client)
				wantDrop(t, got, client, others...)
				wantRenew(t, got, client, now, got...)
			}
		}
	}
}

// P9.2: behind a renewal at now a lease is not late at now and LeaseTicks, nor at any time ahead of that; at one more it is, unless it lasted longer.
func TestNotLateBefore(t *testing.T) {
	for _, start := range rights() {
		for client := range 4 {
			for _, now := range []int{0, 1, 5, 1000, latest} {
				was, _ := Until(start, client)
				l, _ := Renew(start, client, now)
				for passed := range 11 {
					if late, e := Late(l, now+passed); slices.Contains(late, client) || e != api.OK {
						t.Errorf("Renew(%v, %d, %d): late %d ticks behind it", start, client, now, passed)
					}
				}
				if late, _ := Late(l, now+11); slices.Contains(late, client) != (was <= now+10) {
					t.Errorf("Renew(%v, %d, %d): late 11 ticks behind it: %v", start, client, now, late)
				}
			}
		}
	}
}

// P9.2: whoever else renews or drops theirs meanwhile; and a renewal at an earlier time takes nothing away.
func TestNotLateWhateverOthersDo(t *testing.T) {
	for client := range 4 {
		l, _ := Renew(nil, client, 100)
		for passed := range 11 {
			for step := 1; step < 4; step++ {
				other := (client + step) % 4
				if (passed+step)%2 == 0 {
					l, _ = Renew(l, other, 100+passed)
				} else {
					l, _ = Drop(l, other)
				}
				wantUntil(t, l, client, 110)
			}
			l, _ = Renew(l, client, 100-passed)
			if late, _ := Late(l, 100+passed); slices.Contains(late, client) {
				t.Errorf("client %d is late %d ticks behind its renewal", client, passed)
			}
		}
		if late, _ := Late(l, 111); !slices.Contains(late, client) {
			t.Errorf("client %d is not late 11 ticks behind its renewal", client)
		}
	}
}

// The generic function that puts leases in their place does so with other lists, too.
func TestPlaced(t *testing.T) {
	type word struct {
		key   byte
		value string
	}
	order := func(a, b word) int { return int(a.key) - int(b.key) }
	var l []word
	for _, x := range []word{{'m', "1"}, {'c', "2"}, {'x', "3"}, {'m', "4"}, {'c', "5"}, {'x', "6"}, {'d', "7"}} {
		l = placed(l, x, order)
	}
	if want := []word{{'c', "5"}, {'d', "7"}, {'m', "4"}, {'x', "6"}}; !slices.Equal(l, want) {
		t.Errorf("%v, not %v", l, want)
	}
}

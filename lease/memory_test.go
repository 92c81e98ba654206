package lease

import (
	"slices"
	"testing"

	"tabularium/api"
)

// roomy: three leases in an array with others behind them, each of which would be seen if something was written there.
func roomy() (l, all []api.Lease) {
	all = list(of(0, 5), of(1, 4), of(3, 6), of(71, 72), of(73, 74), of(75, 76))
	return all[:3], all
}

// P3: nothing that is handed in is written into, nor what stands behind it in its array.
func TestWritesNothing(t *testing.T) {
	l, all := roomy()
	was := slices.Clone(all)
	for _, some := range [][]api.Lease{l, l[:2], l[1:], l[:1], l[:0], all} {
		for client := -1; client <= 4; client++ {
			for _, now := range []int{-1, 0, 5, 50, latest, greatest} {
				Renew(some, client, now)
				Drop(some, client)
				Until(some, client)
				Late(some, now)
				Right(some)
			}
		}
	}
	if !slices.Equal(all, was) {
		t.Errorf("the leases were written into: %v, not %v", all, was)
	}
}

// changes: Renew and Drop, of those that have a lease and of those that have none, of one whose lease is not renewed, and of what is no client.
func changes() []func([]api.Lease) []api.Lease {
	var all []func([]api.Lease) []api.Lease
	for client := range 4 {
		for _, now := range []int{0, 50} {
			all = append(all, func(l []api.Lease) []api.Lease { l, _ = Renew(l, client, now); return l })
		}
	}
	for client := -1; client <= 4; client++ {
		all = append(all, func(l []api.Lease) []api.Lease { l, _ = Drop(l, client); return l })
	}
	return all
}

// spoil writes into all that stands in the array of l, spare room too.
func spoil[T any](l []T, x T) {
	for i := range l[:cap(l)] {
		l[:cap(l)][i] = x
	}
}

// P3: what comes is its owner's: what is written there changes neither what was handed in nor another answer, nor the other way round.
func TestSharesNothing(t *testing.T) {
	for _, change := range changes() {
		l, all := roomy()
		l[2].Until = 999 // a renewal leaves this one as it is
		was := slices.Clone(all)
		first, second := change(l), change(l)
		want := slices.Clone(first)
		spoil(first, of(-9, -9))
		if !slices.Equal(all, was) {
			t.Errorf("what was handed in was changed by its answer: %v, not %v", all, was)
		}
		if !slices.Equal(second, want) {
			t.Errorf("an answer was changed by another one: %v, not %v", second, want)
		}
		spoil(all, of(-8, -8))
		if !slices.Equal(second, want) {
			t.Errorf("an answer was changed by what was handed in: %v, not %v", second, want)
		}
	}
}

// P3: what Late tells is a new list at each call.
func TestLateSharesNothing(t *testing.T) {
	l, _ := roomy()
	first, second := must(Late(l, 6)), must(Late(l, 6))
	spoil(first, -9)
	spoil(l, of(-8, -8))
	if want := []int{0, 1}; !slices.Equal(second, want) {
		t.Errorf("%v, not %v", second, want)
	}
}

func must[T any](l []T, e api.Errno) []T {
	if e != api.OK {
		panic(e)
	}
	return l
}

// P4: the same is answered to the same, whatever was asked between.
func TestKeepsNothing(t *testing.T) {
	l, _ := roomy()
	ask := func() {
		t.Helper()
		wantRenew(t, l, 2, 7, of(0, 5), of(1, 4), of(2, 17), of(3, 6))
		wantDrop(t, l, 1, of(0, 5), of(3, 6))
		wantUntil(t, l, 3, 6)
		wantNoUntil(t, l, 2)
		wantLate(t, l, 6, 0, 1)
	}
	ask()
	for _, lists := range []map[string][]api.Lease{rights(), wrongs()} {
		for _, other := range lists {
			for client := -1; client <= 4; client++ {
				Renew(other, client, 50)
				Drop(other, client)
				Until(other, client)
				Late(other, 50)
			}
			ask()
		}
	}
}

package edit

import (
	"slices"
	"testing"

	"tabularium/api"
)

// P3: nothing that is handed in is written into, nor what stands behind it in its array.
func TestWritesNothing(t *testing.T) {
	all := []int{5, 0, 64, greatest, 1, 2, 3, 4, 5, 6, -7, -8, -9}
	was := slices.Clone(all)
	for _, kind := range append(kinds(), 0, 11) {
		for many := range len(all) + 1 {
			e := plain(kind)
			e.Lengths = all[:many]
			Right(e)
			Encode(e)
		}
	}
	if !slices.Equal(all, was) {
		t.Errorf("the lengths were written into: %v, not %v", all, was)
	}
}

// spoil writes into all that stands in the array of l, spare room too.
func spoil(l []int) {
	for i := range l[:cap(l)] {
		l[:cap(l)][i] = -99
	}
}

// P3: what Decode tells is its owner's: what is written there changes no other answer.
func TestSharesNothing(t *testing.T) {
	for b, want := range known() {
		first, _ := Decode(b)
		second, _ := Decode(b)
		spoil(first.Lengths)
		if !same(second, want) {
			t.Errorf("an answer was changed by another one: %#v, not %#v", second, want)
		}
		wantDecode(t, b, want)
	}
}

// P3: the bytes that Encode told stay as they were, whatever becomes of the Lengths.
func TestKeepsNothingHandedIn(t *testing.T) {
	e := withLengths(plain(api.Complete), 5, 64, 0)
	want := laid(e)
	b := encoded(t, e)
	spoil(e.Lengths)
	if b != want {
		t.Errorf("% x, not % x", b, want)
	}
}

// P4: the same is answered to the same, whatever was asked between.
func TestKeepsNothing(t *testing.T) {
	ask := func() {
		t.Helper()
		for b, e := range known() {
			wantEncode(t, e, b)
			wantDecode(t, b, e)
		}
	}
	ask()
	for _, edits := range []map[string]api.Edit{rights(), wrongs()} {
		for _, e := range edits {
			Right(e)
			Encode(e)
			Decode(laid(e))
			Decode(laid(e)[1:])
		}
		ask()
	}
}

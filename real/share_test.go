package real

import (
	"math"
	"testing"
)

// plainClamp: Clamp by the chapter's words, one by one.
func plainClamp(f, lo, hi float64) float64 {
	if math.IsNaN(f) {
		return lo
	}
	if f < lo {
		return lo
	}
	if math.IsNaN(hi) || math.IsNaN(lo) {
		return lo
	}
	if hi < f {
		return hi
	}
	return f
}

func wantClamp(t *testing.T, f, lo, hi, want float64) {
	t.Helper()
	if got := Clamp(f, lo, hi); !sameBits(got, want) {
		t.Errorf("Clamp(%v, %v, %v) = %v (%x), not %v", f, lo, hi, got, math.Float64bits(got), want)
	}
}

// P3.2: within, at and past both ends.
func TestClamp(t *testing.T) {
	wantClamp(t, 1.5, 1, 2, 1.5)
	wantClamp(t, 1, 1, 2, 1)
	wantClamp(t, 2, 1, 2, 2)
	wantClamp(t, math.Nextafter(1, 0), 1, 2, 1)
	wantClamp(t, math.Nextafter(2, 3), 1, 2, 2)
	wantClamp(t, 0, 1, 2, 1)
	wantClamp(t, 5, 1, 2, 2)
	wantClamp(t, 5, 3, 3, 3)
	wantClamp(t, -endless, 1, 2, 1)
	wantClamp(t, endless, 1, 2, 2)
	wantClamp(t, endless, -endless, endless, endless)
	wantClamp(t, -endless, -endless, endless, -endless)
	wantClamp(t, math.MaxFloat64, -endless, endless, math.MaxFloat64)
	wantClamp(t, 7, endless, -endless, endless)
}

// P3.2: lo is asked first, where lo is greater than hi.
func TestClampTurnedRound(t *testing.T) {
	wantClamp(t, 0, 4, 2, 4)
	wantClamp(t, 3, 4, 2, 4)
	wantClamp(t, 4, 4, 2, 2)
	wantClamp(t, 5, 4, 2, 2)
}

// P3.2: the machine's less does not tell -0 from 0.
func TestClampZeros(t *testing.T) {
	wantClamp(t, minusZero, 0, 1, minusZero)
	wantClamp(t, 0, minusZero, 1, 0)
	wantClamp(t, 0, -1, minusZero, 0)
	wantClamp(t, minusZero, -1, 0, minusZero)
	wantClamp(t, -1, minusZero, 1, minusZero)
	wantClamp(t, 1, -1, minusZero, minusZero)
}

// P3.2: where one of the three is not a number: lo, bit by bit.
func TestClampNotNumbers(t *testing.T) {
	for _, n := range notNumbers() {
		wantClamp(t, n, 1, 2, 1)
		wantClamp(t, n, minusZero, 2, minusZero)
		wantClamp(t, n, 2, 1, 2)
		wantClamp(t, 5, 3, n, 3)
		wantClamp(t, 3, 3, n, 3)
		wantClamp(t, 1, 3, n, 3)
		wantClamp(t, 1, n, 2, n)
		wantClamp(t, 5, n, 2, n)
		for _, m := range notNumbers() {
			wantClamp(t, n, m, 2, m)
			wantClamp(t, 1, n, m, n)
			wantClamp(t, m, 1, n, 1)
		}
	}
}

// P3.2: every three of the edges, by the chapter's words.
func TestClampByItsWords(t *testing.T) {
	for _, f := range edges() {
		for _, lo := range edges() {
			for _, hi := range edges() {
				wantClamp(t, f, lo, hi, plainClamp(f, lo, hi))
			}
		}
	}
}

func wantShare(t *testing.T, used, room, want float64) {
	t.Helper()
	if got := Share(used, room); !sameBits(got, want) {
		t.Errorf("Share(%v, %v) = %v, not %v", used, room, got, want)
	}
}

// P3.2: the chapter's examples, and other ordinary ones.
func TestShare(t *testing.T) {
	wantShare(t, 1, 0, 1)
	wantShare(t, endless, endless, 1)
	wantShare(t, 3, 4, 0.75)
	wantShare(t, 0, 4, 0)
	wantShare(t, 4, 4, 1)
	wantShare(t, 5, 4, 1)
	wantShare(t, 1, 3, 1.0/3)
	wantShare(t, -1, 4, 0)
}

// P3.2: room that is none: 1, also where nothing is used.
func TestShareOfNoRoom(t *testing.T) {
	for _, room := range []float64{0, minusZero, -math.SmallestNonzeroFloat64, -1, -math.MaxFloat64, -endless} {
		for _, used := range risingNumbers() {
			wantShare(t, used, room, 1)
		}
	}
}

// P3.2: nothing used: 0, never -0.
func TestShareOfNothingUsed(t *testing.T) {
	for _, room := range []float64{math.SmallestNonzeroFloat64, 1, math.MaxFloat64, endless} {
		for _, used := range []float64{0, minusZero, -math.SmallestNonzeroFloat64, -1, -math.MaxFloat64, -endless} {
			wantShare(t, used, room, 0)
		}
	}
}

// P3.2: what is not a number counts as full, whatever the other one is.
func TestShareNotNumbers(t *testing.T) {
	for _, n := range notNumbers() {
		for _, f := range edges() {
			wantShare(t, n, f, 1)
			wantShare(t, f, n, 1)
		}
	}
}

// P3.2: the greatest and the least numbers.
func TestShareAtTheEdges(t *testing.T) {
	const least = math.SmallestNonzeroFloat64
	wantShare(t, 1, endless, 0)
	wantShare(t, math.MaxFloat64, endless, 0)
	wantShare(t, endless, math.MaxFloat64, 1)
	wantShare(t, endless, least, 1)
	wantShare(t, least, math.MaxFloat64, 0)
	wantShare(t, least, least, 1)
	wantShare(t, least, 2*least, 0.5)
	wantShare(t, math.MaxFloat64/2, math.MaxFloat64, 0.5)
	wantShare(t, math.MaxFloat64, math.MaxFloat64, 1)
	wantShare(t, math.Nextafter(1, 0), 1, math.Nextafter(1, 0))
}

// P3.4: a Share lies between 0 and 1.
func TestShareLiesBetween(t *testing.T) {
	l := append(edges(), anyBits(500)...)
	for _, used := range l {
		for _, room := range l {
			if s := Share(used, room); !(s >= 0 && s <= 1) || math.Signbit(s) {
				t.Errorf("Share(%v, %v) = %v", used, room, s)
			}
		}
	}
}

func wantReached(t *testing.T, have, want int, share float64, reached bool) {
	t.Helper()
	if got := Reached(have, want, share); got != reached {
		t.Errorf("Reached(%d, %d, %v) = %v", have, want, share, got)
	}
}

// P3.3: the chapter's examples, and those beside them.
func TestReached(t *testing.T) {
	wantReached(t, 999, 1000, 0.999, true)
	wantReached(t, 998, 1000, 0.999, false)
	wantReached(t, 0, 0, 2, true)
	wantReached(t, 1, 2, 0.5, true)
	wantReached(t, 1, 2, math.Nextafter(0.5, 1), false)
	wantReached(t, 1, 3, 0.5, false)
	wantReached(t, 2, 3, 0.5, true)
	wantReached(t, 3, 3, 1, true)
	wantReached(t, 2, 3, 1, false)
	wantReached(t, 0, 1, 0.1, false)
}

// P3.3: share times want is rounded, and have held against that; have by want would be answered otherwise.
func TestReachedIsATimes(t *testing.T) {
	wantReached(t, 7, 25, 0.28, false)
	wantReached(t, 55, 100, 0.55, false)
	wantReached(t, 1, 3, math.Nextafter(1.0/3, 1), true)
	wantReached(t, 3, 7, math.Nextafter(3.0/7, 1), true)
}

// P3.3: want below 1 is asked first: true, whatever else is handed in.
func TestReachedOfNothingWanted(t *testing.T) {
	for _, want := range []int{0, -1, -1000, math.MinInt} {
		for _, have := range []int{math.MinInt, -1, 0, 1, math.MaxInt} {
			for _, share := range edges() {
				wantReached(t, have, want, share, true)
			}
		}
	}
}

// P3.3: a share that is not a number is never reached, where one is wanted.
func TestReachedNotNumbers(t *testing.T) {
	for _, share := range notNumbers() {
		for _, want := range []int{1, 2, math.MaxInt} {
			for _, have := range []int{math.MinInt, -1, 0, 1, math.MaxInt} {
				wantReached(t, have, want, share, false)
			}
		}
	}
}

// P3.3: shares below 0, above 1, endless ones, both zeros.
func TestReachedShares(t *testing.T) {
	for _, have := range []int{math.MinInt, -1, 0, 1, math.MaxInt} {
		for _, want := range []int{1, 2, math.MaxInt} {
			for _, share := range []float64{0, minusZero, -math.SmallestNonzeroFloat64, -0.5, -1, -math.MaxFloat64, -endless} {
				wantReached(t, have, want, share, true)
			}
			wantReached(t, have, want, endless, false)
			wantReached(t, have, want, math.MaxFloat64, false)
		}
	}
	wantReached(t, 3, 2, 1.5, true)
	wantReached(t, 2, 2, 1.5, false)
	wantReached(t, 4, 2, 2, true)
	wantReached(t, 3, 2, 2, false)
	wantReached(t, 0, 1, math.SmallestNonzeroFloat64, false)
	wantReached(t, 1, 1, math.SmallestNonzeroFloat64, true)
}

// P3.3: have below 0 counts as 0.
func TestReachedBelowNothing(t *testing.T) {
	for _, have := range []int{-1, -2, -1000, math.MinInt} {
		wantReached(t, have, 5, 0, true)
		wantReached(t, have, 5, minusZero, true)
		wantReached(t, have, 5, -0.1, true)
		wantReached(t, have, 5, 0.1, false)
	}
}

// P3.3: whole numbers count as the fractions next to them: past 2^53 some of them are even.
func TestReachedGreatNumbers(t *testing.T) {
	wantReached(t, math.MaxInt, math.MaxInt, 1, true)
	wantReached(t, math.MaxInt-1, math.MaxInt, 1, true)
	wantReached(t, math.MaxInt-1024, math.MaxInt, 1, false)
	wantReached(t, 1<<53, 1<<53+1, 1, true)
	wantReached(t, 1<<53-1, 1<<53, 1, false)
	wantReached(t, math.MaxInt, math.MaxInt, math.Nextafter(1, 2), false)
	wantReached(t, math.MaxInt/2, math.MaxInt, 0.5, true)
}

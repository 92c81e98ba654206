package real

import (
	"math"
	"math/rand"
	"slices"
	"sort"
	"testing"
)

var (
	minusZero = math.Copysign(0, -1)
	endless   = math.Inf(1)
	none      = math.NaN()
)

// notNumbers: what is not a number, of many bit patterns: quiet and signalling, of both signs, the least and the greatest.
func notNumbers() []float64 {
	var l []float64
	for _, z := range []uint64{
		0x7FF8000000000001, 0x7FF8000000000000, 0x7FF0000000000001, 0x7FFFFFFFFFFFFFFF,
		0xFFF8000000000001, 0xFFF8000000000000, 0xFFF0000000000001, 0xFFFFFFFFFFFFFFFF,
	} {
		l = append(l, math.Float64frombits(z))
	}
	return l
}

// risingNumbers: numbers in the order that Order asks, each unlike the others.
func risingNumbers() []float64 {
	return []float64{
		-endless, -math.MaxFloat64, math.Nextafter(-math.MaxFloat64, 0), -1e300, -1 << 53, -3, -1, math.Nextafter(-1, 0), -0.5,
		-0x1p-1022, -0x1p-1073, -math.SmallestNonzeroFloat64, minusZero,
		0, math.SmallestNonzeroFloat64, 0x1p-1073, 0x1p-1022,
		0.5, math.Nextafter(1, 0), 1, math.Nextafter(1, 2), 3, 1 << 53, 1e300, math.Nextafter(math.MaxFloat64, 0), math.MaxFloat64, endless,
	}
}

// edges: all of both.
func edges() []float64 {
	return append(risingNumbers(), notNumbers()...)
}

// anyBits: n fractions of any 64 bits, the same ones each time.
func anyBits(n int) []float64 {
	r := rand.New(rand.NewSource(3))
	l := make([]float64, n)
	for i := range l {
		l[i] = math.Float64frombits(r.Uint64())
	}
	return l
}

func bitsOf(l []float64) []uint64 {
	out := make([]uint64, len(l))
	for i, f := range l {
		out[i] = math.Float64bits(f)
	}
	return out
}

// sameBits: whether both are the same fraction, bit by bit; == would not tell -0 from 0, nor know what is not a number.
func sameBits(a, b float64) bool {
	return math.Float64bits(a) == math.Float64bits(b)
}

// rank: a whole number that rises as Order asks, made of the bits alone.
func rank(f float64) int {
	z := math.Float64bits(f)
	const sign, endlessBits = 1 << 63, 0x7FF << 52
	if z&^sign > endlessBits {
		return math.MaxInt
	}
	if z&sign != 0 {
		return -1 - int(z&^sign)
	}
	return int(z)
}

func wantOrder(t *testing.T, a, b float64, want int) {
	t.Helper()
	if got := Order(a, b); got != want {
		t.Errorf("Order(%x, %x) = %d, not %d (%v, %v)", math.Float64bits(a), math.Float64bits(b), got, want, a, b)
	}
}

// P3.1: the chapter's examples.
func TestOrderExamples(t *testing.T) {
	wantOrder(t, minusZero, 0, -1)
	wantOrder(t, none, endless, 1)
}

// P3.1: numbers in their order, the endless ones at both ends, -0 ahead of 0.
func TestOrderOfNumbers(t *testing.T) {
	l := risingNumbers()
	for i := range l {
		for k := range l {
			want := 0
			if i < k {
				want = -1
			} else if i > k {
				want = 1
			}
			wantOrder(t, l[i], l[k], want)
		}
	}
}

// P3.1: what is not a number is behind all numbers, whatever its bits and its sign, and even among its like.
func TestOrderOfNotNumbers(t *testing.T) {
	for _, n := range notNumbers() {
		for _, f := range risingNumbers() {
			wantOrder(t, n, f, 1)
			wantOrder(t, f, n, -1)
		}
		for _, m := range notNumbers() {
			wantOrder(t, n, m, 0)
		}
	}
}

// P3.1: fractions of any bits, held against the order of their ranks.
func TestOrderByRank(t *testing.T) {
	l := append(edges(), anyBits(300)...)
	for _, a := range l {
		for _, b := range l {
			want := 0
			if rank(a) < rank(b) {
				want = -1
			} else if rank(a) > rank(b) {
				want = 1
			}
			wantOrder(t, a, b, want)
		}
	}
}

// P3.4: 0 just of the same bits, but for what is not a number; turned round, the answer is turned round.
func TestOrderIsEvenOfTheSameBits(t *testing.T) {
	l := append(edges(), anyBits(100)...)
	for _, a := range l {
		for _, b := range l {
			even := sameBits(a, b) || math.IsNaN(a) && math.IsNaN(b)
			if (Order(a, b) == 0) != even {
				t.Errorf("Order(%v, %v) = %d", a, b, Order(a, b))
			}
			if Order(a, b) != -Order(b, a) {
				t.Errorf("Order(%v, %v) = %d, turned round %d", a, b, Order(a, b), Order(b, a))
			}
		}
	}
}

// P3.4: what goes not behind another goes not behind what that one goes not behind.
func TestOrderIsAnOrder(t *testing.T) {
	l := edges()
	for _, a := range l {
		for _, b := range l {
			for _, c := range l {
				if Order(a, b) <= 0 && Order(b, c) <= 0 && Order(a, c) > 0 {
					t.Errorf("%v, %v, %v", a, b, c)
				}
			}
		}
	}
}

// sorted: l in order, by another way: the library's stable sort of ranks.
func sorted(l []float64) []float64 {
	out := append([]float64{}, l...)
	sort.SliceStable(out, func(i, k int) bool { return rank(out[i]) < rank(out[k]) })
	return out
}

func wantSort(t *testing.T, l, want []float64) {
	t.Helper()
	if got := Sort(l); !slices.Equal(bitsOf(got), bitsOf(want)) {
		t.Errorf("Sort(%v) = %x, not %x", l, bitsOf(got), bitsOf(want))
	}
}

// P3.1: short lists, the empty one among them; nil and empty are one list.
func TestSortShort(t *testing.T) {
	wantSort(t, nil, nil)
	wantSort(t, []float64{}, nil)
	wantSort(t, []float64{none}, []float64{none})
	wantSort(t, []float64{2, 1}, []float64{1, 2})
	wantSort(t, []float64{1, 2}, []float64{1, 2})
	wantSort(t, []float64{0, minusZero, 0, minusZero}, []float64{minusZero, minusZero, 0, 0})
	wantSort(t, []float64{1, 1, -1, 1}, []float64{-1, 1, 1, 1})
	wantSort(t, []float64{none, endless, 0, -endless, minusZero, -1}, []float64{-endless, -1, minusZero, 0, endless, none})
}

// P3.1: even ones stay as they stood: what is not a number is known by its bits.
func TestSortKeepsEvenOnes(t *testing.T) {
	n := notNumbers()
	wantSort(t, n, n)
	back := append([]float64{}, n...)
	slices.Reverse(back)
	wantSort(t, back, back)
	wantSort(t, []float64{n[5], 1, n[0], -1, n[3], 1, n[5], endless, n[1]}, []float64{-1, 1, 1, endless, n[5], n[0], n[3], n[5], n[1]})
}

// P3.1: long lists with many even ones, at lengths around which a sort may change its way.
func TestSortLong(t *testing.T) {
	r := rand.New(rand.NewSource(7))
	for _, n := range []int{2, 11, 12, 13, 19, 20, 21, 40, 41, 100, 1000} {
		for range 20 {
			l := make([]float64, n)
			for i := range l {
				switch r.Intn(3) {
				case 0:
					l[i] = math.Float64frombits(0x7FF8000000000000 + uint64(i))
				case 1:
					l[i] = edges()[r.Intn(len(edges()))]
				case 2:
					l[i] = math.Float64frombits(r.Uint64())
				}
			}
			wantSort(t, l, sorted(l))
		}
	}
}

// P3: what is handed in stays as it is, bit by bit, and what stands behind it.
func TestSortWritesNothing(t *testing.T) {
	whole := []float64{3, none, 1, minusZero, 0, 1, math.Float64frombits(0xFFF0000000000001), -endless, 9, 8}
	before := bitsOf(whole)
	for n := range len(whole) + 1 {
		Sort(whole[:n])
		if !slices.Equal(bitsOf(whole), before) {
			t.Fatalf("Sort of the first %d wrote: %v", n, whole)
		}
	}
}

// P3: what is answered is new memory, spare room too, also where nothing had to move.
func TestSortIsNew(t *testing.T) {
	for _, l := range [][]float64{{}, {1}, {1, 2, 3}, {3, 2, 1}} {
		room := append(append(make([]float64, 0, 10), l...), 7, 7)
		in := room[:len(l)]
		before := bitsOf(room)
		a, b := Sort(in), Sort(in)
		again := bitsOf(b)
		for i := range a[:cap(a)] {
			a[:cap(a)][i] = 5
		}
		if !slices.Equal(bitsOf(room), before) || !slices.Equal(bitsOf(b), again) {
			t.Errorf("%v: an answer shares memory", l)
		}
		if len(a) != len(l) {
			t.Errorf("%v: %d answered", l, len(a))
		}
	}
}

// P1, P3.1 to P3.4: three fractions of any bits.
func FuzzReal(f *testing.F) {
	f.Add(uint64(0), uint64(1)<<63, uint64(0x7FF8000000000001))
	f.Add(uint64(0x7FF0000000000000), uint64(0xFFF0000000000000), uint64(1))
	f.Fuzz(func(t *testing.T, x, y, z uint64) {
		l := []float64{math.Float64frombits(x), math.Float64frombits(y), math.Float64frombits(z)}
		wantSort(t, l, sorted(l))
		if s := Share(l[0], l[1]); !(s >= 0 && s <= 1) {
			t.Errorf("Share(%v, %v) = %v", l[0], l[1], s)
		}
		if c := Clamp(l[0], l[1], l[2]); !sameBits(c, plainClamp(l[0], l[1], l[2])) {
			t.Errorf("Clamp(%v) = %v", l, c)
		}
		wantMean(t, plainMean(l), l...)
	})
}

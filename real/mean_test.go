package real

import (
	"math"
	"math/big"
	"slices"
	"testing"
)

func wantMean(t *testing.T, want float64, l ...float64) {
	t.Helper()
	if got := Mean(l); !sameBits(got, want) {
		t.Errorf("Mean(%v) = %v, not %v", l, got, want)
	}
}

// P3.3: ordinary lists.
func TestMean(t *testing.T) {
	wantMean(t, 1, 1)
	wantMean(t, 1.5, 1, 2)
	wantMean(t, 2, 1, 2, 3)
	wantMean(t, 0, -1, 1)
	wantMean(t, -2.5, -2, -3)
	wantMean(t, 1, 1, 1, 1, 1, 1)
}

// P3.3: none that counts: 0.
func TestMeanOfNone(t *testing.T) {
	wantMean(t, 0)
	if got := Mean(nil); !sameBits(got, 0) {
		t.Errorf("Mean(nil) = %v", got)
	}
	wantMean(t, 0, endless)
	wantMean(t, 0, -endless, endless)
	wantMean(t, 0, notNumbers()...)
	wantMean(t, 0, append(notNumbers(), endless, -endless)...)
}

// P3.3: what is not a number, and what is endless, is neither added nor counted, wherever it stands.
func TestMeanPassesOver(t *testing.T) {
	wantMean(t, 1.5, 1, none, 2, endless)
	for _, out := range append(notNumbers(), endless, -endless) {
		wantMean(t, 1.5, out, 1, 2)
		wantMean(t, 1.5, 1, out, 2)
		wantMean(t, 1.5, 1, 2, out)
		wantMean(t, 1.5, out, out, 1, out, 2, out)
	}
}

// P3.3: both zeros count; from 0 on the sum of -0 is 0.
func TestMeanZeros(t *testing.T) {
	wantMean(t, 0, 0)
	wantMean(t, 0, minusZero)
	wantMean(t, 0, minusZero, minusZero)
	wantMean(t, 1, 2, 0)
	wantMean(t, 1, minusZero, 2)
	wantMean(t, minusZero, -math.SmallestNonzeroFloat64, 0)
}

// P3.3: a sum that is endless at the end: the greatest finite number with its sign.
func TestMeanOfAnEndlessSum(t *testing.T) {
	const most = math.MaxFloat64
	wantMean(t, most, most, most)
	wantMean(t, -most, -most, -most)
	wantMean(t, most, most, most, most)
	wantMean(t, most, 1, most, most, 1, none, -endless)
	wantMean(t, -most, endless, -most, -most)
	wantMean(t, most, most, math.Ldexp(1, 970))
}

// P3.3: a sum that became endless on the way stays so, whatever is added behind.
func TestMeanOfASumEndlessOnTheWay(t *testing.T) {
	const most = math.MaxFloat64
	wantMean(t, most, most, most, -most)
	wantMean(t, most, most, most, -most, -most, -most)
	wantMean(t, -most, -most, -most, most)
	wantMean(t, -most, -most, -most, most, most, most, endless)
}

// P3.3: one by one in order: what goes past the greatest number in one order does not in another, and what is lost beside a greater one is lost.
func TestMeanInOrder(t *testing.T) {
	const most = math.MaxFloat64
	wantMean(t, most/3, most, -most, most)
	wantMean(t, most, most)
	wantMean(t, 0, most, -most)
	wantMean(t, most/2, most, math.Ldexp(1, 969))
	wantMean(t, 0, 1, 1e300, -1e300)
	wantMean(t, 1.0/3, 1e300, -1e300, 1)
	wantMean(t, (1<<53)/3.0, 1<<53, 1, 1)
	wantMean(t, (1<<53+2)/3.0, 1, 1, 1<<53)
}

// plainMean: Mean by the chapter's words, each sum made exactly and rounded by another hand.
func plainMean(l []float64) float64 {
	sum, count := 0.0, 0.0
	for _, f := range l {
		if math.IsNaN(f) || math.IsInf(f, 0) {
			continue
		}
		count++
		if math.IsInf(sum, 0) {
			continue
		}
		exact := new(big.Float).SetPrec(2200).Add(big.NewFloat(sum), big.NewFloat(f))
		sum, _ = exact.Float64()
	}
	switch {
	case count == 0:
		return 0
	case math.IsInf(sum, 1):
		return math.MaxFloat64
	case math.IsInf(sum, -1):
		return -math.MaxFloat64
	}
	return sum / count
}

// P3.3: every two and three of the edges, and many of any bits.
func TestMeanByItsWords(t *testing.T) {
	l := edges()
	for _, a := range l {
		for _, b := range l {
			wantMean(t, plainMean([]float64{a, b}), a, b)
			for _, c := range risingNumbers() {
				wantMean(t, plainMean([]float64{a, b, c}), a, b, c)
			}
		}
	}
	many := anyBits(2000)
	for n := range 60 {
		part := many[n*30 : n*30+n/2]
		wantMean(t, plainMean(part), part...)
	}
}

// P3: what is handed in stays as it is, and what stands behind it.
func TestMeanWritesNothing(t *testing.T) {
	whole := append(edges(), 1, 1, none, none)
	before := bitsOf(whole)
	for n := range len(whole) + 1 {
		Mean(whole[:n])
	}
	if !slices.Equal(bitsOf(whole), before) {
		t.Error("Mean wrote into what was handed in")
	}
}

// P4: asked twice, answered alike.
func TestAnsweredAlike(t *testing.T) {
	l := append(edges(), anyBits(200)...)
	if !sameBits(Mean(l), Mean(l)) {
		t.Error("Mean")
	}
	if !slices.Equal(bitsOf(Sort(l)), bitsOf(Sort(l))) {
		t.Error("Sort")
	}
}
